/- slices.BinarySearch and slices.Insert at a row of one's own. -/
import Derived.Test.YtedmfehjifknbaaKeep
import Derived.Test.YtedmfehjifknbaaShelf
namespace Go.Proofs.Ytedmfehjifknbaa
open Go.RowKit Go.Sort

def puts : List Value → Nat → List Value → List Value
  | xs, _, [] => xs
  | xs, o, v :: r => puts (xs.set o v) (o + 1) r
theorem puts_eq : ∀ (vs : List Value) (o : Nat) (xs : List Value), o + vs.length ≤ xs.length → puts xs o vs = xs.take o ++ vs ++ xs.drop (o + vs.length)
  | [], o, xs, _ => by simp [puts]
  | v :: r, o, xs, h => by
    simp only [List.length_cons] at h
    have ho : o < xs.length := by omega
    have h1 : (xs.set o v).take (o + 1) = xs.take o ++ [v] := by
      rw [List.take_succ_eq_append_getElem (by rw [List.length_set]; exact ho), List.getElem_set_self, List.take_set_of_le (Nat.le_refl _)]
    have h2 : (xs.set o v).drop (o + 1 + r.length) = xs.drop (o + 1 + r.length) := List.drop_set_of_lt (by omega)
    rw [puts, puts_eq r (o + 1) (xs.set o v) (by rw [List.length_set]; omega), h1, h2]
    simp [Nat.add_assoc, Nat.add_comm 1]
theorem row_puts {base e size g n cap : Nat} : ∀ (vs : List Value) (o : Nat) (w : World) (xs : List Value), w.ownsRow base e size (.slice (some ⟨g, 0, none⟩) n cap) n xs → (w.setCells g o vs).ownsRow base e size (.slice (some ⟨g, 0, none⟩) n cap) n (puts xs o vs) ∧ w.grownBy (w.setCells g o vs) (some g)
  | [], _, w, xs, h => ⟨h, ⟨rfl, rfl, rfl, Nat.le_refl _, fun _ _ _ => rfl⟩⟩
  | v :: r, o, w, xs, h => by
    have h1 := h.stored o v
    have h2 := row_puts r (o + 1) _ _ h1.1
    refine ⟨h2.1, ⟨h2.2.os.trans h1.2.os, h2.2.tape.trans h1.2.tape, h2.2.output.trans h1.2.output, Nat.le_trans h1.2.size h2.2.size, fun k hk hne => ?_⟩⟩
    exact (h2.2.block k (Nat.lt_of_lt_of_le hk h1.2.size) hne).trans (h1.2.block k hk hne)

theorem grown_trans {a b c : World} {row : Option Nat} (h1 : a.grownBy b row) (h2 : b.grownBy c row) : a.grownBy c row :=
  ⟨h2.os.trans h1.os, h2.tape.trans h1.tape, h2.output.trans h1.output, Nat.le_trans h1.size h2.size, fun k hk hne => (h2.block k (Nat.lt_of_lt_of_le hk h1.size) hne).trans (h1.block k hk hne)⟩
theorem grown_none {a b : World} {row : Option Nat} (h : a.grownBy b none) : a.grownBy b row := ⟨h.os, h.tape, h.output, h.size, fun k hk _ => h.block k hk (by simp)⟩

theorem drew_grown {a b : World} {row : Option Nat} (h : a.drew.grownBy b row) : a.grownBy b row := ⟨h.os, h.tape, h.output, h.size, h.block⟩

def insAt (l : List Int) (i : Nat) (p : Int) : List Int := l.take i ++ p :: l.drop i
theorem insAt_length {l : List Int} {i : Nat} (hi : i ≤ l.length) (p : Int) : (insAt l i p).length = l.length + 1 := by
  unfold insAt; simp; omega

/-- What is left by slices.Insert: the same row or a new one. -/
def Inserted (w : World) (base : Nat) (v : Value) (l' : List Int) (v' : Value) (w' : World) : Prop :=
  OwnI w' base v' l' ∧ w.grownBy w' v.ownBlock ∧ (v'.ownBlock = v.ownBlock ∨ ∃ k, v'.ownBlock = some k ∧ w.heap.size ≤ k)
theorem Inserted.from {w wA w' : World} {base : Nat} {v v' : Value} {l' : List Int} (hg : w.grownBy wA v.ownBlock) (h : Inserted wA base v l' v' w') : Inserted w base v l' v' w' :=
  ⟨h.1, grown_trans hg h.2.1, by
    rcases h.2.2 with e | ⟨k, h1, h2⟩
    · exact .inl e
    · exact .inr ⟨k, h1, Nat.le_trans hg.size h2⟩⟩

theorem ins_map (l : List Int) (i : Nat) (p : Int) : (insAt l i p).map (Value.int .i64) = (l.map (Value.int .i64)).take i ++ [.int .i64 p] ++ (l.map (Value.int .i64)).drop i := by
  unfold insAt; simp
theorem own_of_row {w : World} {base : Nat} {v : Value} {l : List Int} {n : Nat} {xs : List Value} (h : w.ownsRow base 3 1 v n xs) (hx : xs = l.map (Value.int .i64)) (hn : n = l.length) : OwnI w base v l := by
  subst hx hn; exact h

/-- The row one longer: what lies behind it is whatever lay there. -/
theorem row_longer {w : World} {base g n cap : Nat} {cs : List Value} (h : w.ownsRow base 3 1 (.slice (some ⟨g, 0, none⟩) n cap) n cs) (hr : n + 1 ≤ cap) : ∃ xs, w.ownsRow base 3 1 (.slice (some ⟨g, 0, none⟩) (n + 1) cap) (n + 1) xs ∧ xs.take n = cs ∧ xs.length = n + 1 := by
  rcases h.2 with ⟨h', _⟩ | ⟨g', cap', cur, h', hb, hg, hnc, hcm, hcs, ht⟩
  · simp at h'
  · simp only [Value.slice.injEq, Option.some.injEq, Addr.mk.injEq, and_true, true_and] at h'
    obtain ⟨rfl, rfl⟩ := h'
    have hl : (cur.toList.take (n + 1)).length = n + 1 := by rw [List.length_take, Array.length_toList]; omega
    refine ⟨cur.toList.take (n + 1), ⟨by omega, .inr ⟨g, cap, cur, rfl, hb, hg, hr, hcm, hcs, by rw [Nat.mul_one]⟩⟩, ?_, hl⟩
    rw [List.take_take, Nat.min_eq_left (by omega), ← ht, Nat.mul_one]

theorem puts_shift {xs cs : List Value} {n i : Nat} {p : Value} (hx : xs.take n = cs) (hl : xs.length = n + 1) (hi : i < n) : puts (puts xs (i + 1) (cs.drop i)) i [p] = cs.take i ++ [p] ++ cs.drop i := by
  have hcl : cs.length = n := by rw [← hx, List.length_take]; omega
  have hdl : (cs.drop i).length = n - i := by rw [List.length_drop]; omega
  have h1 : puts xs (i + 1) (cs.drop i) = xs.take (i + 1) ++ cs.drop i := by
    have h0 : xs.drop (i + 1 + (cs.drop i).length) = [] := List.drop_of_length_le (by omega)
    rw [puts_eq _ _ _ (by omega), h0, List.append_nil]
  have hl1 : (xs.take (i + 1)).length = i + 1 := by rw [List.length_take]; omega
  have hti : xs.take i = cs.take i := by rw [← hx, List.take_take, Nat.min_eq_left (by omega)]
  rw [h1, puts_eq _ _ _ (by rw [List.length_append]; simp; omega)]
  congr 1
  · congr 1
    rw [List.take_append_of_le_length (by omega), List.take_take, Nat.min_eq_left (by omega), hti]
  · rw [List.drop_append_of_le_length (by simp; omega), List.drop_of_length_le (by simp; omega), List.nil_append]
theorem puts_end {xs cs : List Value} {n : Nat} {p : Value} (hx : xs.take n = cs) (hl : xs.length = n + 1) : puts xs n [p] = cs ++ [p] := by
  rw [puts_eq _ _ _ (by simp; omega), hx, List.drop_of_length_le (by simp; omega), List.append_nil]
theorem puts_grow {xs cs : List Value} {n i : Nat} {p : Value} (hx : xs.take i = cs.take i) (hcl : cs.length = n) (hl : xs.length = n + 1) (hi : i < n) : puts (puts xs i [p]) (i + 1) (cs.drop i) = cs.take i ++ [p] ++ cs.drop i := by
  have hdl : (cs.drop i).length = n - i := by rw [List.length_drop]; omega
  have hti : (cs.take i).length = i := by rw [List.length_take]; omega
  have h1 : puts xs i [p] = (cs.take i ++ [p]) ++ xs.drop (i + 1) := by
    rw [puts_eq _ _ _ (by simp; omega), hx]; rfl
  have hl1 : (cs.take i ++ [p]).length = i + 1 := by rw [List.length_append, hti]; rfl
  have hl2 : (cs.take i ++ [p] ++ xs.drop (i + 1)).length = n + 1 := by rw [List.length_append, List.length_drop]; omega
  have h0 : (cs.take i ++ [p] ++ xs.drop (i + 1)).drop (i + 1 + (cs.drop i).length) = [] := List.drop_of_length_le (by omega)
  rw [h1, puts_eq _ _ _ (by omega), h0, List.append_nil]
  congr 1
  rw [List.take_append_of_le_length (by omega), List.take_of_length_le (by omega)]

theorem insert_any (base : Nat) (v : Value) (l : List Int) (i : Nat) (p : Int) (w : World) (hB : base ≤ w.heap.size) (hO : OwnI w base v l) (hi : i ≤ l.length) (hl : l.length ≤ 100) :
    Calls Try.prog 41 #[v, .int .i64 i, .slice (some ⟨w.heap.size, 0, none⟩) 1 1] (w.alloc (.cells #[.int .i64 p] 3)) fun e w' => ∃ v', e = .returned v' ∧ Inserted w base v (insAt l i p) v' w' := by
  have hnew : (w.alloc (.cells #[.int .i64 p] 3)).heap[w.heap.size]? = some (.cells #[.int .i64 p] 3 (0, 0)) := heap_alloc_new _ _
  have hvs : ∀ j u, [Value.int .i64 p][j]? = some u → (w.alloc (.cells #[.int .i64 p] 3)).cell? ⟨w.heap.size, 0 + j, none⟩ = some u := by
    intro j u hj
    rw [Nat.zero_add, cell_of_row _ _ _ _ _ _ hnew]
    simpa using hj
  have hgA : w.grownBy (w.alloc (.cells #[.int .i64 p] 3)) v.ownBlock := World.grownBy_alloc _ _ _
  have hOA : OwnI (w.alloc (.cells #[.int .i64 p] 3)) base v l := World.ownsRow.alloc hO _
  have hsz : (w.alloc (.cells #[.int .i64 p] 3)).heap.size = w.heap.size + 1 := by simp
  have hlt : ∀ g, v.ownBlock = some g → g < w.heap.size := fun g hg => (World.ownsRow.lt hO g hg).2
  generalize w.alloc (.cells #[.int .i64 p] 3) = wA at *
  have hBA : base ≤ wA.heap.size := by omega
  have hil := insAt_length hi p
  have hcl : (l.map (Value.int .i64)).length = l.length := List.length_map ..
  have h1c : ∀ u ∈ l.map (Value.int .i64), u.oneCell' = true := by
    intro u hu
    obtain ⟨x, _, rfl⟩ := List.mem_map.1 hu
    rfl
  have hge := fun c => grownCap_ge wA (l.length + 1) c 3
  have hgm := fun c => grownCap_le_maxLen wA (l.length + 1) c 3 (by unfold maxLen; omega)
  suffices h : Calls Try.prog 41 #[v, .int .i64 i, .slice (some ⟨w.heap.size, 0, none⟩) 1 1] wA fun e w' => ∃ v', e = .returned v' ∧ Inserted wA base v (insAt l i p) v' w' from
    h.mono fun e w' ⟨v', he, h⟩ => ⟨v', he, h.from hgA⟩
  have endgrow : ∀ (ao : Option Addr) (cap : Nat), i = l.length → v = .slice ao l.length cap → l.length ≤ cap → cap < l.length + 1 → (ao = none → l.length = 0) → (∀ a, ao = some a → ∀ j u, (l.map (Value.int .i64))[j]? = some u → wA.cell? (a.add j) = some u) →
      Calls Try.prog 41 #[v, .int .i64 i, .slice (some ⟨w.heap.size, 0, none⟩) 1 1] wA fun e w' => ∃ v', e = .returned v' ∧ Inserted wA base v (insAt l i p) v' w' := by
    intro ao cap hin hv h1 h2 h3 h4
    subst hin hv
    refine (Try.slices_Insert_int_end_grow ao l.length cap w.heap.size 0 1 1 (l.map (Value.int .i64)) [.int .i64 p] wA (by omega) h1 h2 (by omega) hcl rfl h3 h4 hvs (one_cell p)).mono ?_
    rintro e w' ⟨rfl, rfl⟩
    have hcc := hge cap
    refine ⟨_, rfl, ⟨by rw [List.length_map]; omega, .inr ⟨wA.heap.size, _, _, by rw [hil], hBA, heap_alloc_new wA.drew _, by omega, hgm cap, ?_, ?_⟩⟩, drew_grown (World.grownBy_alloc wA.drew _ _), .inr ⟨_, rfl, Nat.le_refl _⟩⟩
    · simp [size_zeroCells, Value.cells]; omega
    · rw [hil, ins_map, Nat.mul_one, List.take_of_length_le (Nat.le_of_eq hcl), List.drop_of_length_le (Nat.le_of_eq hcl), List.append_nil]
      rw [Array.toList_append, List.take_append_of_le_length (by simp), List.take_of_length_le (by simp)]
  rcases hOA.2 with ⟨hv, h0⟩ | ⟨g, cap, cur, hv, hb, hg, hn, hm, hs, ht⟩
  · exact endgrow none 0 (by omega) (by rw [hv, h0]) (by omega) (by omega) (fun _ => h0) (fun a ha => by cases ha)
  · have hgw : g < w.heap.size := hlt g (by rw [hv]; rfl)
    have hcell : ∀ j u, (l.map (Value.int .i64))[j]? = some u → wA.cell? ⟨g, 0 + j, none⟩ = some u := by
      intro j u hj
      rw [Nat.zero_add, cell_of_row _ _ _ _ _ _ hg]
      rw [← ht, Nat.mul_one, List.getElem?_take] at hj
      split at hj
      · simpa using hj
      · cases hj
    have hsome : ∀ j, j < cap → (wA.cell? ⟨g, j, none⟩).isSome = true := by
      intro j hj
      rw [cell_of_row _ _ _ _ _ _ hg, Array.getElem?_eq_getElem (by omega)]; rfl
    have hfz : ∀ j, wA.frozen? ⟨g, j, none⟩ = false := fun j => frozen_of_row _ _ _ _ _ hg
    have hrow : wA.ownsRow base 3 1 (.slice (some ⟨g, 0, none⟩) l.length cap) l.length (l.map (Value.int .i64)) := by rw [← hv]; exact hOA
    by_cases hroom : l.length + 1 ≤ cap
    · obtain ⟨xs, hx1, hx2, hx3⟩ := row_longer hrow hroom
      unfold maxLen at hm
      by_cases hin : i = l.length
      · subst hin hv
        refine (Try.slices_Insert_int_end_room g 0 l.length cap w.heap.size 0 1 1 [.int .i64 p] wA (by omega) hroom (by omega) rfl (fun j hj => hsome _ (by omega)) (fun j _ => hfz _) hvs (one_cell p)).mono ?_
        rintro e w' ⟨rfl, rfl⟩
        have R := row_puts [.int .i64 p] (0 + l.length) wA xs hx1
        refine ⟨_, rfl, own_of_row R.1 ?_ hil.symm, R.2, .inl rfl⟩
        rw [Nat.zero_add, puts_end hx2 hx3, ins_map, List.take_of_length_le (Nat.le_of_eq hcl), List.drop_of_length_le (Nat.le_of_eq hcl), List.append_nil]
      · have hin2 : i < l.length := by omega
        subst hv
        refine (Try.slices_Insert_int_shift g 0 l.length cap i w.heap.size 0 1 1 (l.map (Value.int .i64)) [.int .i64 p] wA hin2 (by omega) hroom (by omega) (by omega) hcl rfl hcell (fun j hj => hsome _ (by omega)) (fun j _ => hfz _) hvs h1c (one_cell p) 3 3 1 cur.size ?_ ?_ (by omega) ?_ ?_).mono ?_
        · unfold World.shape?; rw [hnew]; rfl
        · unfold World.shape?; rw [hg]
        · exact frozen_of_row _ _ _ _ _ hnew
        · exact frozen_of_row _ _ _ _ _ hnew
        · rintro e w' ⟨rfl, rfl⟩
          have R1 := row_puts ((l.map (Value.int .i64)).drop i) (0 + (i + 1)) wA.drew xs hx1
          have R2 := row_puts [.int .i64 p] (0 + i) _ _ R1.1
          refine ⟨_, rfl, own_of_row R2.1 ?_ hil.symm, ?_, .inl rfl⟩
          · rw [Nat.zero_add, Nat.zero_add, puts_shift hx2 hx3 hin2, ins_map]
          · exact grown_trans (a := wA) ⟨R1.2.os, R1.2.tape, R1.2.output, R1.2.size, R1.2.block⟩ R2.2
    · by_cases hin : i = l.length
      · exact endgrow _ cap hin hv hn (by omega) (fun h => by cases h) (fun a ha j u hj => by cases ha; rw [Addr.add_lit]; exact hcell j u hj)
      · have hin2 : i < l.length := by omega
        subst hv
        refine (Try.slices_Insert_int_grow g 0 l.length cap i w.heap.size 0 1 1 (l.map (Value.int .i64)) [.int .i64 p] wA hin2 (by omega) hn (by omega) (by omega) hcl rfl hcell hvs h1c (one_cell p)).mono ?_
        rintro e w' ⟨rfl, rfl⟩
        have hcc := hge cap
        generalize hbig : ((l.map (Value.int .i64)).take i).toArray ++ Builtin.zeroCells (Value.int .i64 0).cells (l.length + 1 - i) ++ Builtin.zeroCells (Value.int .i64 0).cells (grownCap wA (l.length + 1) cap 3 - (l.length + 1)) = big
        have hbs : big.size = grownCap wA (l.length + 1) cap 3 := by rw [← hbig, Array.size_append, Array.size_append, size_zeroCells, size_zeroCells, show (Value.int .i64 0).cells.size = 1 from rfl, List.size_toArray, List.length_take, hcl, Nat.min_eq_left (Nat.le_of_lt hin2)]; omega
        have hbz : big.toList.length = big.size := Array.length_toList
        have hbl : l.length + 1 ≤ big.size := by rw [hbs]; exact hge cap
        have hb0 : (wA.alloc (.cells big 3)).ownsRow base 3 1 (.slice (some ⟨wA.heap.size, 0, none⟩) (l.length + 1) (grownCap wA (l.length + 1) cap 3)) (l.length + 1) (big.toList.take (l.length + 1)) :=
          ⟨by rw [List.length_take, hbz]; omega, .inr ⟨wA.heap.size, _, big, rfl, hBA, heap_alloc_new _ _, hcc, hgm cap, by omega, by rw [Nat.mul_one]⟩⟩
        have hbt : (big.toList.take (l.length + 1)).take i = (l.map (Value.int .i64)).take i := by
          rw [List.take_take, Nat.min_eq_left (by omega), ← hbig, Array.toList_append, Array.toList_append, List.append_assoc, List.take_append_of_le_length (by simp; omega), List.take_of_length_le (by simp; omega)]
        have R1 := row_puts [.int .i64 p] i (wA.alloc (.cells big 3)).drew _ hb0
        have R2 := row_puts ((l.map (Value.int .i64)).drop i) (i + 1) (((wA.alloc (.cells big 3)).drew.setCells wA.heap.size i [.int .i64 p]).drew) _ R1.1
        have hG : (wA.alloc (.cells big 3)).grownBy ((((wA.alloc (.cells big 3)).drew.setCells wA.heap.size i [.int .i64 p]).drew).setCells wA.heap.size (i + 1) ((l.map (Value.int .i64)).drop i)) (some wA.heap.size) :=
          grown_trans (a := wA.alloc (.cells big 3)) (b := ((wA.alloc (.cells big 3)).drew.setCells wA.heap.size i [.int .i64 p]).drew) ⟨R1.2.os, R1.2.tape, R1.2.output, R1.2.size, R1.2.block⟩ R2.2
        refine ⟨_, rfl, own_of_row R2.1 ?_ hil.symm, ?_, .inr ⟨_, rfl, Nat.le_refl _⟩⟩
        · rw [puts_grow hbt hcl (by rw [List.length_take, hbz]; omega) hin2, ins_map]
        · have hA := World.grownBy_alloc wA (.cells big 3) none
          refine ⟨hG.os.trans hA.os, hG.tape.trans hA.tape, hG.output.trans hA.output, Nat.le_trans hA.size hG.size, fun k hk _ => ?_⟩
          rw [hG.block k (Nat.lt_of_lt_of_le hk hA.size) (by intro e; injection e with e; omega)]
          exact hA.block k hk (by simp)
end Go.Proofs.Ytedmfehjifknbaa
