/- Lists, and three rows beside each other, for BuddyApart: all blocks one behind the other; how often each place was met. -/
import Derived.Test.YtmmeapaakdaemaaDoorBLent
import Derived.Test.YtmmeapaakdaemaaDoorTri
namespace Go.Proofs.YtmmeapaakdaemaaDoor
open Go.RowKit Go.Maps Go.Sort

/-- What is lent, and the free blocks of the orders below k. -/
def allTo (L : List (Nat × Nat)) (k : Nat) : List (Nat × Nat) := L ++ (List.range k).flatMap fun j => (freeL L j).map fun p => (p, j)
/-- .. and of the order k the first i. -/
def allIn (L : List (Nat × Nat)) (k i : Nat) : List (Nat × Nat) := allTo L k ++ ((freeL L k).take i).map fun p => (p, k)
theorem allTo_zero (L : List (Nat × Nat)) : allTo L 0 = L := by unfold allTo; simp
theorem allTo_succ (L : List (Nat × Nat)) (k : Nat) : allTo L (k+1) = allTo L k ++ (freeL L k).map fun p => (p, k) := by
  unfold allTo
  rw [List.range_succ, List.flatMap_append, List.flatMap_singleton, List.append_assoc]
theorem allIn_zero (L : List (Nat × Nat)) (k : Nat) : allIn L k 0 = allTo L k := by unfold allIn; simp
theorem allIn_end (L : List (Nat × Nat)) (k : Nat) : allIn L k (freeL L k).length = allTo L (k+1) := by unfold allIn; rw [List.take_length, allTo_succ]
theorem allIn_succ {L : List (Nat × Nat)} {k i : Nat} (h : i < (freeL L k).length) : allIn L k (i+1) = allIn L k i ++ [((freeL L k)[i], k)] := by
  unfold allIn
  rw [List.take_succ_eq_append_getElem h, List.map_append, List.append_assoc]
  rfl
theorem allTo_most {L : List (Nat × Nat)} (hL : L.length ≤ 64) : ∀ k, (allTo L k).length ≤ 64 + 64 * k
  | 0 => by rw [allTo_zero]; omega
  | k + 1 => by
    have h1 := allTo_most hL k
    have h2 := freeL_most L k
    rw [allTo_succ, List.length_append, List.length_map]
    omega
theorem allIn_most {L : List (Nat × Nat)} (hL : L.length ≤ 64) {k i : Nat} (hk : k ≤ 7) : (allIn L k i).length ≤ 600 := by
  have h1 := allTo_most hL k
  have h2 := freeL_most L k
  unfold allIn
  rw [List.length_append, List.length_map, List.length_take]
  omega
theorem atsI_add (B : List (Nat × Nat)) (p k : Nat) : atsI (B ++ [(p, k)]) = atsI B ++ [(p : Int)] := by unfold atsI; rw [List.map_append]; rfl
theorem ordsI_add (B : List (Nat × Nat)) (p k : Nat) : ordsI (B ++ [(p, k)]) = ordsI B ++ [(k : Int)] := by unfold ordsI; rw [List.map_append]; rfl
theorem ordsI_get {L : List (Nat × Nat)} {k : Nat} (hk : k < L.length) : (ordsI L)[k]?.getD 0 = ((L[k]).2 : Int) := by
  unfold ordsI
  rw [List.getElem?_map, List.getElem?_eq_getElem hk]; rfl
/-- Rising, and no two halves. -/
theorem free_step {L : List (Nat × Nat)} {k i : Nat} (hk : k ≤ 6) (h : i + 1 < (freeL L k).length) (hd : (freeL L k)[i+1] = (freeL L k)[i]'(by omega) + 2 ^ k) : ((freeL L k)[i]'(by omega)) % 2 ^ (k+1) ≠ 0 := by
  have h1 := (mem_freeL hk).1 (List.getElem_mem (l := freeL L k) (n := i) (by omega))
  have h2 := (mem_freeL hk).1 (List.getElem_mem (l := freeL L k) (n := i+1) h)
  rw [hd] at h2
  exact no_halves h1 h2

/-! How often each place was met. -/
def cntR (B : List (Nat × Nat)) (i : Nat) : List Int := (List.range 64).map fun x => (((B.take i).countP (inB2 x) : Nat) : Int)
def cntP (B : List (Nat × Nat)) (i q p : Nat) : List Int := (List.range 64).map fun x => (((B.take i).countP (inB2 x) + (if q ≤ x ∧ x < p then 1 else 0) : Nat) : Int)
theorem cntR_length (B : List (Nat × Nat)) (i : Nat) : (cntR B i).length = 64 := by unfold cntR; rw [List.length_map, List.length_range]
theorem cntP_length (B : List (Nat × Nat)) (i q p : Nat) : (cntP B i q p).length = 64 := by unfold cntP; rw [List.length_map, List.length_range]
theorem cntR_zero (B : List (Nat × Nat)) : cntR B 0 = List.replicate 64 0 := by
  unfold cntR
  simp only [List.take_zero, List.countP_nil]
  rfl
theorem cntP_start (B : List (Nat × Nat)) (i q : Nat) : cntP B i q q = cntR B i := by
  unfold cntP cntR
  refine List.map_congr_left fun x _ => ?_
  rw [if_neg (by omega), Nat.add_zero]
theorem cntP_end {B : List (Nat × Nat)} {i : Nat} (hi : i < B.length) : cntP B i (B[i]).1 ((B[i]).1 + 2 ^ (B[i]).2) = cntR B (i+1) := by
  unfold cntP cntR
  refine List.map_congr_left fun x _ => ?_
  rw [List.take_succ_eq_append_getElem hi, List.countP_append, List.countP_singleton]
  unfold inB2
  by_cases h : (B[i]).1 ≤ x ∧ x < (B[i]).1 + 2 ^ (B[i]).2
  · rw [if_pos h]; simp [h]
  · rw [if_neg h]
    have : ¬ ((decide ((B[i]).1 ≤ x) && decide (x < (B[i]).1 + 2 ^ (B[i]).2)) = true) := by simpa using h
    rw [if_neg this]
theorem cntP_get {B : List (Nat × Nat)} {i q p : Nat} (hp : p < 64) : (cntP B i q p)[p]?.getD 0 = (((B.take i).countP (inB2 p) : Nat) : Int) := by
  unfold cntP
  rw [List.getElem?_map, List.getElem?_range hp]
  simp
theorem cntP_step {B : List (Nat × Nat)} {i q p : Nat} (hp : p < 64) (hq : q ≤ p) : (cntP B i q p).set p (((B.take i).countP (inB2 p) : Nat) + 1 : Int) = cntP B i q (p+1) := by
  refine List.ext_getElem? fun x => ?_
  rw [List.getElem?_set, cntP_length]
  by_cases e : p = x
  · subst e
    rw [if_pos rfl, if_pos hp]
    unfold cntP
    rw [List.getElem?_map, List.getElem?_range hp]
    simp [hq]
  · rw [if_neg e]
    unfold cntP
    rw [List.getElem?_map, List.getElem?_map]
    by_cases hx : x < 64
    · rw [List.getElem?_range hx]
      simp only [Option.map_some]
      congr 3
      by_cases h : q ≤ x ∧ x < p
      · rw [if_pos h, if_pos (by omega)]
      · rw [if_neg h, if_neg (by omega)]
    · rw [List.getElem?_eq_none (by rw [List.length_range]; omega)]; rfl
theorem cnt_few (B : List (Nat × Nat)) (i x : Nat) : (B.take i).countP (inB2 x) ≤ B.length := by
  have h1 := List.countP_le_length (p := inB2 x) (l := B.take i)
  rw [List.length_take] at h1
  omega
theorem cntR_get {B : List (Nat × Nat)} {x : Nat} (hx : x < 64) : (cntR B B.length)[x]?.getD 0 = ((B.countP (inB2 x) : Nat) : Int) := by
  unfold cntR
  rw [List.getElem?_map, List.getElem?_range hx, List.take_length]; rfl

/-- Two rows that grow, and a third one that is read meanwhile, each apart from the others. -/
structure Four (w0 w : World) (vp va vl : Value) (lp la ll : List Int) : Prop where
  tri : Tri w0 w (.slice none 0 0) vp va [] lp la
  l : OwnI w w0.heap.size vl ll
  np : vl.ownBlock = none ∨ vl.ownBlock ≠ vp.ownBlock
  na : vl.ownBlock = none ∨ vl.ownBlock ≠ va.ownBlock
theorem Four.later {w0 w w1 : World} {vp va vl : Value} {lp la ll : List Int} (h : Four w0 w vp va vl lp la ll) (hb : Below w.heap.size w w1) : Four w0 w1 vp va vl lp la ll :=
  ⟨h.tri.later hb, h.l.later hb, h.np, h.na⟩
theorem ne_new {w : World} {base : Nat} {vl v' v : Value} {l : List Int} {o : Obj} (hl : OwnI w base vl l) (h : vl.ownBlock = none ∨ vl.ownBlock ≠ v.ownBlock) (hat : v'.ownBlock = v.ownBlock ∨ v'.ownBlock = some (w.alloc o).heap.size) : vl.ownBlock = none ∨ vl.ownBlock ≠ v'.ownBlock := by
  rcases hat with e | e
  · rw [e]; exact h
  · rw [e]
    refine .inr fun e2 => ?_
    have h1 := (World.ownsRow.lt hl _ e2).2
    simp at h1
    omega
theorem Four.pages {w0 w w1 : World} {vp vp' va vl : Value} {lp la ll : List Int} {n : Nat} {x : Int} {o : Obj} (h : Four w0 w vp va vl lp la ll) (hn : lp.length = n)
    (h1 : w1.ownsRow w0.heap.size 3 1 vp' (n + 1) (lp.map (Value.int .i64) ++ [.int .i64 x])) (h2 : (w.alloc o).grownBy w1 vp.ownBlock) (hat : vp'.ownBlock = vp.ownBlock ∨ vp'.ownBlock = some (w.alloc o).heap.size) : Four w0 w1 vp' va vl (lp ++ [x]) la ll :=
  ⟨h.tri.pages hn h1 h2 hat, OwnI.kept (World.ownsRow.alloc h.l o) h2 h.np, ne_new h.l h.np hat, h.na⟩
theorem Four.asked {w0 w w1 : World} {vp va va' vl : Value} {lp la ll : List Int} {n : Nat} {x : Int} {o : Obj} (h : Four w0 w vp va vl lp la ll) (hn : la.length = n)
    (h1 : w1.ownsRow w0.heap.size 3 1 va' (n + 1) (la.map (Value.int .i64) ++ [.int .i64 x])) (h2 : (w.alloc o).grownBy w1 va.ownBlock) (hat : va'.ownBlock = va.ownBlock ∨ va'.ownBlock = some (w.alloc o).heap.size) : Four w0 w1 vp va' vl lp (la ++ [x]) ll :=
  ⟨h.tri.asked hn h1 h2 hat, OwnI.kept (World.ownsRow.alloc h.l o) h2 h.na, h.np, ne_new h.l h.na hat⟩
/-- The third row is new. -/
theorem four_of {w0 w w1 : World} {vp va vl : Value} {lp la ll : List Int} (h : Tri w0 w (.slice none 0 0) vp va [] lp la) (hl : OwnI w1 w.heap.size vl ll) (hb : Below w.heap.size w w1) : Four w0 w1 vp va vl lp la ll := by
  have key : ∀ {v : Value} {l : List Int}, OwnI w w0.heap.size v l → vl.ownBlock = none ∨ vl.ownBlock ≠ v.ownBlock := by
    intro v l hv
    cases e : vl.ownBlock with
    | none => exact .inl rfl
    | some g =>
      refine .inr fun e2 => ?_
      have h1 := (World.ownsRow.lt hl _ e).1
      have h2 := (World.ownsRow.lt hv _ e2.symm).2
      omega
  exact ⟨h.later hb, ownI_mono hl h.below.size, key h.p, key h.a⟩
/-- A row of sixty-four noughts. -/
theorem noughts (w : World) : OwnI (w.alloc (.cells (madeCells #[.int .i64 0] 64) 3)) w.heap.size (.slice (some ⟨w.heap.size, 0, none⟩) 64 64) (List.replicate 64 0) := by
  refine ⟨rfl, .inr ⟨w.heap.size, 64, madeCells #[.int .i64 0] 64, rfl, Nat.le_refl _, heap_alloc_new _ _, by simp, by unfold maxLen; omega, by rw [size_madeCells], ?_⟩⟩
  rw [List.length_replicate, Nat.mul_one, toList_madeCells_one, List.map_replicate, List.take_of_length_le (by rw [List.length_replicate]; exact Nat.le_refl _)]
end Go.Proofs.YtmmeapaakdaemaaDoor
