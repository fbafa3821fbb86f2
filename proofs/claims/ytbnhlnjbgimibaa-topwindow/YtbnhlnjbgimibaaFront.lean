/- The walk of lru.toFront. -/
import Derived.Test.YtbnhlnjbgimibaaBools
import Derived.Test.YtbnhlnjbgimibaaFull
import Derived.Test.YtbnhlnjbgimibaaAt
import Derived.Laws.CopyOwn
namespace Go.Proofs.Ytbnhlnjbgimibaa
open Go.RowKit Go.Sort

/-- A copy as one step of a region that draws, from what its run leaves. -/
theorem step_copy_of {P : Program} {ops : Array Oper} {o : Oper} {a : Act} {w : World} {K : Act → World → Prop} {Q : Exit → Act → World → Prop} {E : Prop} {vd vs u : Value} {R : World → Prop} (hgd : o.guard = none) (d s : Operand) (T : TypeId)
    (ho : o.op = .call { callee := .builtin .copy, args := #[d, s], argTypes := #[T, T] }) (hd : a.eval d = vd) (hs : a.eval s = vs)
    (hrun : ∃ w', (Builtin.copy_ #[T, T] o.type #[vd, vs]).run P w = .ok u w' ∧ R w') (h : ∀ w', R w' → K (a.put o.dst u) w') : if Region.wanted o (yielded ops a.tmps) = true then Oper.wp P o a w K Q else E := by
  obtain ⟨w', hr, hR⟩ := hrun
  rw [if_pos (show Region.wanted o (yielded ops a.tmps) = true by simp [Region.wanted, hgd])]
  unfold Oper.wp
  simp [execOp, ho, resolve, invoke, builtin, hd, hs, hr, Result.andThen]
  exact h w' hR

theorem splice_none (L : List Value) : splice L 1 [] = L := by
  cases L <;> simp [splice]

/-- The first i cells of a row, laid one place on: no other row is touched. -/
theorem front_copy {P : Program} {w : World} {g i cap : Nat} {L X : List Value} (T ty : TypeId) (hu : P.underlying T = some (.slice 3)) (hsz : (P.info? 3).map (·.size) = some 1) (hg : w.heap[g]? = some (.cells L.toArray 3 (0, 0)))
    (hX : X.length = i) (hsrc : ∀ j v, X[j]? = some v → w.cell? (Addr.add ⟨g, 0, none⟩ j) = some v) (hfit : 1 + i ≤ L.length) (h1 : ∀ v ∈ X, v.oneCell' = true) (hic : i + 1 ≤ cap) :
    ∃ w', (Builtin.copy_ #[T, T] ty #[.slice (if cap = 1 then some ⟨g, 0, none⟩ else some ⟨g, 1, none⟩) i (cap - 1), .slice (some ⟨g, 0, none⟩) i cap]).run P w = .ok (goInt X.length) w' ∧ Hid (w'.heap[g]? = some (.cells (splice L 1 X).toArray 3 (0, 0))) ∧ w.grownBy w' (some g) := by
  cases i with
  | zero =>
    obtain rfl : X = [] := List.eq_nil_of_length_eq_zero hX
    exact ⟨w, run_copy_none (P := P) (w := w) T T ty 3 _ _ 0 _ 0 _ hu hsz rfl, show _ = _ by rw [hg, splice_none], World.grownBy.refl _ _⟩
  | succ i =>
    rw [if_neg (by omega)]
    refine ⟨_, run_copy_row (P := P) (w := w) T T ty 3 g 1 (i + 1) _ _ (i + 1) _ L.toArray 3 X hu hsz hg (by rw [hX]; exact (Nat.min_self _).symm) hsrc (by rw [hX]; simpa using hfit) h1, ?_, rfl, rfl, rfl, by simp [World.setRow], fun k _ hk => setRow_other w g k _ (by simpa using hk)⟩
    show _ = _
    rw [setRow_heap w g _ _ 3 _ hg]
    simp [splice]

theorem grown_setCell (w : World) (g o : Nat) (v : Value) : w.grownBy (w.setCell ⟨g, o, none⟩ v) (some g) :=
  ⟨rfl, rfl, rfl, by simp [World.setCell], fun i _ hne => by
    have : i ≠ g := by simpa using hne
    simp [World.setCell, Array.getElem?_modify, Ne.symm this]⟩

theorem block_setCell {w : World} {g o : Nat} {L : List Value} {t : TypeId} (v : Value) (h : w.heap[g]? = some (.cells L.toArray t (0, 0))) : (w.setCell ⟨g, o, none⟩ v).heap[g]? = some (.cells (L.set o v).toArray t (0, 0)) := by
  simp [World.setCell, Array.getElem?_modify, h]

theorem front_list {L : List Value} {l : List Int} {i n : Nat} {p : Int} (hi : i < l.length) (hn : l.length ≤ n) (hL : L.length = n) (ht : L.take l.length = l.map (Value.int .i64)) :
    ((splice L 1 (L.take i)).set 0 (.int .i64 p)).take l.length = (p :: l.eraseIdx i).map (Value.int .i64) := by
  have hd : L.eraseIdx i = L.take i ++ L.drop (i + 1) := List.eraseIdx_eq_take_drop_succ _ _
  have hd2 : l.eraseIdx i = l.take i ++ l.drop (i + 1) := List.eraseIdx_eq_take_drop_succ _ _
  have h1 : L.take i = (l.take i).map (Value.int .i64) := by
    rw [List.map_take, ← ht, List.take_take, Nat.min_eq_left (by omega)]
  have h2 : (L.drop (i + 1)).take (l.length - (i + 1)) = (l.drop (i + 1)).map (Value.int .i64) := by
    rw [List.map_drop, ← ht, List.drop_take]
  obtain ⟨a, L', rfl⟩ : ∃ a L', L = a :: L' := by
    cases L with
    | nil => simp at hL; omega
    | cons a L' => exact ⟨a, L', rfl⟩
  have hXl : ((a :: L').take i).length = i := by rw [List.length_take]; omega
  obtain ⟨m, hm⟩ : ∃ m, l.length = m + 1 := ⟨l.length - 1, by omega⟩
  rw [splice, hXl, show (a :: L').take 1 = [a] by simp, List.singleton_append, List.set_cons_zero, hm, List.take_succ_cons, List.map_cons, hd2, List.map_append, ← h1, ← h2, List.take_append, hXl, List.take_of_length_le (by omega), Nat.add_comm 1 i, show l.length - (i + 1) = m - i by omega]

theorem front_cell {w : World} {g : Nat} {L X : List Value} {t : TypeId} (h : w.heap[g]? = some (.cells (splice L 1 X).toArray t (0, 0))) (hl : 1 + X.length ≤ L.length) : ∃ a, w.cell? ⟨g, 0, none⟩ = some a ∧ w.frozen? ⟨g, 0, none⟩ = false := by
  have hlen := length_splice L 1 X hl
  have h0 : 0 < (splice L 1 X).length := by omega
  exact ⟨(splice L 1 X)[0], by simp [World.cell?, h, List.getElem?_eq_getElem h0], by simp [World.frozen?, h]⟩

theorem grown_drew (w : World) {w' : World} (row : Option Nat) (h : w.drew.grownBy w' row) : w.grownBy w' row := ⟨h.os, h.tape, h.output, h.size, h.block⟩

theorem front_own {w : World} {base g cap i : Nat} {L X : List Value} {l : List Int} {p : Int} (h : w.heap[g]? = some (.cells (splice L 1 X).toArray 3 (0, 0))) (hX : X = L.take i) (hi : i < l.length) (hn : l.length ≤ cap) (hL : L.length = cap) (ht : L.take l.length = l.map (Value.int .i64)) (hb : base ≤ g) (hm : cap ≤ maxLen) :
    OwnI (w.setCell ⟨g, 0, none⟩ (.int .i64 p)) base (.slice (some ⟨g, 0, none⟩) l.length cap) (p :: l.eraseIdx i) := by
  subst hX
  have hlen : (p :: l.eraseIdx i).length = l.length := by simp [List.length_eraseIdx, hi]; omega
  have hsl : (splice L 1 (L.take i)).length = L.length := length_splice L 1 _ (by rw [List.length_take]; omega)
  have hfl := front_list (p := p) hi hn hL ht
  unfold OwnI
  rw [hlen]
  exact ⟨by rw [hlen.symm]; simp, .inr ⟨g, cap, _, rfl, hb, block_setCell _ h, hn, hm, by simp [hsl, hL], by simpa using hfl⟩⟩

/-- What a row's copy asks for. -/
theorem front_facts {w : World} {g cap i : Nat} {L : List Value} {l : List Int} (hg : w.heap[g]? = some (.cells L.toArray 3 (0, 0))) (ht : L.take l.length = l.map (Value.int .i64)) (hL : L.length = cap) (hi : i < l.length) (hn : l.length ≤ cap) :
    ∃ X, X = L.take i ∧ X.length = i ∧ (∀ v ∈ X, v.oneCell' = true) ∧ ∀ j v, X[j]? = some v → w.drew.cell? (Addr.add ⟨g, 0, none⟩ j) = some v := by
  have hxl : (L.take i).length = i := by rw [List.length_take, hL]; omega
  refine ⟨L.take i, rfl, hxl, ?_, ?_⟩
  · intro v hv
    have h2 : v ∈ L.take l.length := by
      have : L.take i = (L.take l.length).take i := by rw [List.take_take, Nat.min_eq_left (by omega)]
      rw [this] at hv; exact List.mem_of_mem_take hv
    rw [ht] at h2
    obtain ⟨x, _, rfl⟩ := List.mem_map.1 h2
    rfl
  · intro j v hj
    have hji : j < i := by have := (List.getElem?_eq_some_iff.1 hj).1; rwa [hxl] at this
    rw [List.getElem?_take_of_lt hji] at hj
    show w.cell? _ = _
    rw [show Addr.add ⟨g, 0, none⟩ j = ⟨g, 0 + j, none⟩ from by simp [Addr.add]; exact fun h => h.symm]
    simp [World.cell?, hg]
    simpa using hj

theorem eraseIdx_last (l : List Int) (n : Nat) (h : l.length = n + 1) : l.eraseIdx n = l.take n := by
  rw [List.eraseIdx_eq_take_drop_succ, List.drop_of_length_le (by omega), List.append_nil]

set_option maxHeartbeats 400000 in
theorem front_at (base g cap i : Nat) (l : List Int) (p s : Int) (w : World) (hl : OwnI w base (.slice (some ⟨g, 0, none⟩) l.length cap) l) (hi : i < l.length) :
    Calls Try.prog 21 #[.slice (some ⟨g, 0, none⟩) l.length cap, .int .i64 p, .int .i64 i, .int .i64 s] w fun e w' => ∃ v', e = .returned v' ∧ OwnI w' base v' (p :: l.eraseIdx i) ∧ Keeps base w w' := by
  obtain ⟨g', cap', cur, hv, hgb, hgs, hgg, hgn, hgm, hgsz, hgt⟩ := hl.block (by intro h; subst h; simp at hi)
  simp at hv
  obtain ⟨rfl, rfl⟩ := hv
  obtain ⟨L, rfl⟩ : ∃ L : List Value, cur = L.toArray := ⟨cur.toList, by simp⟩
  have HT : Hid (L.take l.length = l.map (Value.int .i64)) := by unfold Hid; simpa using hgt
  have HSZ : Hid (L.length = cap) := by unfold Hid; simpa using hgsz
  have HG : Hid (w.heap[g]? = some (.cells L.toArray 3 (0, 0))) := hgg
  obtain ⟨X, hX, hXL, hX1, hSRC⟩ := front_facts (i := i) hgg HT.out HSZ.out hi hgn
  have HX : Hid (X = L.take i) := hX
  have HXL : Hid (X.length = i) := hXL
  have HX1 : Hid (∀ v ∈ X, v.oneCell' = true) := hX1
  have HSRC : Hid (∀ j v, X[j]? = some v → w.drew.cell? (Addr.add ⟨g, 0, none⟩ j) = some v) := hSRC
  have hwr : IntKind.i64.wrap ((i : Int) + 1) = (i : Int) + 1 := by rw [IntKind.wrap_i64]; unfold maxLen at hgm; omega
  have hp0 : (0 : Int) ≤ (i : Int) + 1 := by omega
  have hp1 : (i : Int) + 1 ≤ (cap : Int) := by omega
  have hp2 : ((i : Int) + 1).toNat = i + 1 := by omega
  have hp3 : (1 : Int) ≤ (i : Int) + 1 := by omega
  have hp4 : (i : Int) ≤ (cap : Int) := by omega
  have HL : Hid (OwnI w base (.slice (some ⟨g, 0, none⟩) l.length cap) l) := hl
  clear hgg hgt hgsz hl hX hXL hX1 hSRC
  unfold maxLen at hgm
  go_enter Try.func21, Try.ntmps21
  go_wp2_with fail
  go_region_law (refine step_copy_of rfl (.tmp 25) (.tmp 28) 22 rfl (by simp [Act.eval, Act.put]) (by simp [Act.eval, Act.put]) (front_copy (i := i) (cap := cap) 22 _ Try.underlying22 (by kernel_rfl) HG.out HXL.out HSRC.out (by rw [HSZ.out]; omega) HX1.out (by omega)) ?_; rintro w2 ⟨HG2, hgr2⟩; obtain ⟨a, hc0, hf0⟩ := front_cell HG2.out (by rw [HXL.out, HSZ.out]; omega))
  go_wp2
  all_goals go_ret
  all_goals first
  | exact ⟨_, rfl, front_own HG2.out HX.out hi hgn HSZ.out HT.out hgb (by unfold maxLen; omega), keeps_grown HL.out ((grown_drew _ _ hgr2).trans (grown_setCell _ _ _ _))⟩
  | (have hc : cap = 1 := by assumption
     subst hc
     exact ⟨_, rfl, front_own HG2.out HX.out hi hgn HSZ.out HT.out hgb (by unfold maxLen; omega), keeps_grown HL.out ((grown_drew _ _ hgr2).trans (grown_setCell _ _ _ _))⟩)

set_option maxHeartbeats 400000 in
theorem front_none (base g cap i : Nat) (l : List Int) (p s : Int) (w : World) (hl : OwnI w base (.slice (some ⟨g, 0, none⟩) l.length cap) l) (hi : i < l.length) (hi1 : l.length = i + 1) (hs : s ≤ l.length) :
    Calls Try.prog 21 #[.slice (some ⟨g, 0, none⟩) l.length cap, .int .i64 p, .int .i64 (-1), .int .i64 s] w fun e w' => ∃ v', e = .returned v' ∧ OwnI w' base v' (p :: l.eraseIdx i) ∧ Keeps base w w' := by
  obtain ⟨g', cap', cur, hv, hgb, hgs, hgg, hgn, hgm, hgsz, hgt⟩ := hl.block (by intro h; subst h; simp at hi)
  simp at hv
  obtain ⟨rfl, rfl⟩ := hv
  obtain ⟨L, rfl⟩ : ∃ L : List Value, cur = L.toArray := ⟨cur.toList, by simp⟩
  have HT : Hid (L.take l.length = l.map (Value.int .i64)) := by unfold Hid; simpa using hgt
  have HSZ : Hid (L.length = cap) := by unfold Hid; simpa using hgsz
  have HG : Hid (w.heap[g]? = some (.cells L.toArray 3 (0, 0))) := hgg
  obtain ⟨X, hX, hXL, hX1, hSRC⟩ := front_facts (i := i) hgg HT.out HSZ.out hi hgn
  have HX : Hid (X = L.take i) := hX
  have HXL : Hid (X.length = i) := hXL
  have HX1 : Hid (∀ v ∈ X, v.oneCell' = true) := hX1
  have HSRC : Hid (∀ j v, X[j]? = some v → w.drew.cell? (Addr.add ⟨g, 0, none⟩ j) = some v) := hSRC
  have hwr : IntKind.i64.wrap ((i : Int) + 1) = (i : Int) + 1 := by rw [IntKind.wrap_i64]; unfold maxLen at hgm; omega
  have hp0 : (0 : Int) ≤ (i : Int) + 1 := by omega
  have hp1 : (i : Int) + 1 ≤ (cap : Int) := by omega
  have hp2 : ((i : Int) + 1).toNat = i + 1 := by omega
  have hp3 : (1 : Int) ≤ (i : Int) + 1 := by omega
  have hp4 : (i : Int) ≤ (cap : Int) := by omega
  have HL : Hid (OwnI w base (.slice (some ⟨g, 0, none⟩) l.length cap) l) := hl
  clear hgg hgt hgsz hl hX hXL hX1 hSRC
  unfold maxLen at hgm
  have hw1 : IntKind.i64.wrap ((l.length : Int) - 1) = (i : Int) := by rw [IntKind.wrap_i64]; omega
  have HI1 : Hid (l.length = i + 1) := hi1
  clear hi1
  go_enter Try.func21, Try.ntmps21
  go_wp2_with fail
  go_region_law (refine step_copy_of rfl (.tmp 25) (.tmp 28) 22 rfl (by simp [Act.eval, Act.put]) (by simp [Act.eval, Act.put]) (front_copy (i := i) (cap := cap) 22 _ Try.underlying22 (by kernel_rfl) HG.out HXL.out HSRC.out (by rw [HSZ.out]; omega) HX1.out (by omega)) ?_; rintro w2 ⟨HG2, hgr2⟩; obtain ⟨a, hc0, hf0⟩ := front_cell HG2.out (by rw [HXL.out, HSZ.out]; omega))
  go_wp2
  all_goals go_ret
  all_goals first
  | exact ⟨_, rfl, front_own HG2.out HX.out hi hgn HSZ.out HT.out hgb (by unfold maxLen; omega), keeps_grown HL.out ((grown_drew _ _ hgr2).trans (grown_setCell _ _ _ _))⟩
  | (have hc : cap = 1 := by assumption
     subst hc
     exact ⟨_, rfl, front_own HG2.out HX.out hi hgn HSZ.out HT.out hgb (by unfold maxLen; omega), keeps_grown HL.out ((grown_drew _ _ hgr2).trans (grown_setCell _ _ _ _))⟩)

theorem room_facts {w : World} {base n : Nat} {v : Value} {l : List Int} {p : Int} (h : OwnI w base v (l ++ [p])) (hn : l.length = n) :
    ∃ (g cap : Nat) (L X : List Value), v = .slice (some ⟨g, 0, none⟩) (n + 1) cap ∧ base ≤ g ∧ n + 1 ≤ cap ∧ cap ≤ maxLen ∧ Hid (w.heap[g]? = some (.cells L.toArray 3 (0, 0))) ∧ Hid (L.take (l ++ [p]).length = (l ++ [p]).map (Value.int .i64)) ∧ Hid (L.length = cap) ∧ Hid (X = L.take n) ∧ Hid (X.length = n) ∧ Hid (∀ v ∈ X, v.oneCell' = true) ∧ Hid (∀ j v, X[j]? = some v → w.drew.cell? (Addr.add ⟨g, 0, none⟩ j) = some v) := by
  obtain ⟨g, cap, cur, hv, hgb, hgs, hgg, hgn, hgm, hgsz, hgt⟩ := h.block (by simp)
  obtain ⟨L, rfl⟩ : ∃ L : List Value, cur = L.toArray := ⟨cur.toList, by simp⟩
  have HT : L.take (l ++ [p]).length = (l ++ [p]).map (Value.int .i64) := by simpa using hgt
  have HSZ : L.length = cap := by simpa using hgsz
  have hlen : (l ++ [p]).length = n + 1 := by simp [hn]
  obtain ⟨X, hX, hXL, hX1, hSRC⟩ := front_facts (i := n) hgg HT HSZ (by omega) hgn
  exact ⟨g, cap, L, X, by rw [hv, hlen], hgb, by omega, hgm, hgg, HT, HSZ, hX, hXL, hX1, hSRC⟩

theorem eraseIdx_snoc (l : List Int) (p : Int) (n : Nat) (h : l.length = n) : (l ++ [p]).eraseIdx n = l := by
  subst h; rw [List.eraseIdx_eq_take_drop_succ]; simp

theorem room_own {w : World} {base g cap n : Nat} {L X : List Value} {l : List Int} {p : Int} (h : w.heap[g]? = some (.cells (splice L 1 X).toArray 3 (0, 0))) (hX : X = L.take n) (hnl : l.length = n) (hn : n + 1 ≤ cap) (hL : L.length = cap) (ht : L.take (l ++ [p]).length = (l ++ [p]).map (Value.int .i64)) (hb : base ≤ g) (hm : cap ≤ maxLen) :
    OwnI (w.setCell ⟨g, 0, none⟩ (.int .i64 p)) base (.slice (some ⟨g, 0, none⟩) (n + 1) cap) (p :: l) := by
  have hlen : (l ++ [p]).length = n + 1 := by simp [hnl]
  have R := front_own (base := base) (p := p) h hX (by omega : n < (l ++ [p]).length) (by omega) hL ht hb hm
  rwa [hlen, eraseIdx_snoc l p n hnl] at R

set_option maxHeartbeats 400000 in
theorem front_room (base n : Nat) (ao : Option Addr) (hcp : Nat) (l : List Int) (p : Int) (s : Nat) (w : World) (hB : base ≤ w.heap.size) (hn : l.length = n) (hl : OwnI w base (.slice ao n hcp) l) (hs : n < s) (hs8 : s ≤ 8) :
    Calls Try.prog 21 #[.slice ao n hcp, .int .i64 p, .int .i64 (-1), .int .i64 s] w fun e w' => ∃ v', e = .returned v' ∧ OwnI w' base v' (p :: l) ∧ Keeps base w w' := by
  obtain ⟨i0, hi, hz0, hz1, hz2⟩ := info_parts Try.info3
  have HI : Hid (Try.prog.info? 3 = some i0 ∧ i0.zero = some (.int .i64 0) ∧ i0.size = 1 ∧ i0.bytes = 8) := ⟨hi, hz0, hz1, hz2⟩
  have HO : Hid (OwnI w base (.slice ao n hcp) l) := hl
  have HN : Hid (l.length = n) := hn
  clear hi hz0 hz1 hz2 hl hn
  have hs1 : (n : Int) < (s : Int) := by omega
  go_enter Try.func21, Try.ntmps21
  go_wp2_with (at_builtin; go_must (refine wpList_append_own _ rfl _ _ 22 rfl base 3 i0 (.int .i64 0) 1 8 Try.underlying22 HI.out.1 HI.out.2.1 HI.out.2.2.1 HI.out.2.2.2 rfl (by decide) _ n (l.map (Value.int .i64)) rfl (World.ownsRow.alloc (HO.out.rows HN.out rfl) _) ⟨w.heap.size, 0, none⟩ 1 1 [.int .i64 p] rfl rfl (by exact new_one _ _ _) (one_cell _) (by unfold maxLen; omega) (by omega) (Nat.le_trans hB (by simp)) ?_; intro v' w1 hown' hgrow _; have R := own_append2 HO.out HN.out (Below.refl _ _) hB hown' hgrow; have HK : Hid (Keeps base w w1) := (keeps_alloc hB _).trans (keeps_grown (World.ownsRow.alloc HO.out _) hgrow); have HR : Hid (OwnI w1 base v' (l ++ [p])) := R.1; obtain ⟨g, cap, L, X, rfl, hgb, hgn, hgm, HG, HT, HSZ, HX, HXL, HX1, HSRC⟩ := room_facts R.1 HN.out; clear hown' hgrow R))
  unfold maxLen at hgm
  have hwr : IntKind.i64.wrap ((n : Int) + 1) = (n : Int) + 1 := by rw [IntKind.wrap_i64]; omega
  have hp0 : (0 : Int) ≤ (n : Int) + 1 := by omega
  have hp1 : (n : Int) + 1 ≤ (cap : Int) := by omega
  have hp2 : ((n : Int) + 1).toNat = n + 1 := by omega
  have hp3 : (1 : Int) ≤ (n : Int) + 1 := by omega
  have hp4 : (n : Int) ≤ (cap : Int) := by omega
  go_region_law (refine step_copy_of rfl (.tmp 25) (.tmp 28) 22 rfl (by simp [Act.eval, Act.put]) (by simp [Act.eval, Act.put]) (front_copy (i := n) (cap := cap) 22 _ Try.underlying22 (by kernel_rfl) HG.out HXL.out HSRC.out (by rw [HSZ.out]; omega) HX1.out (by omega)) ?_; rintro w2 ⟨HG2, hgr2⟩; obtain ⟨a, hc0, hf0⟩ := front_cell HG2.out (by rw [HXL.out, HSZ.out]; omega))
  go_wp2
  all_goals go_ret
  all_goals first
  | exact ⟨_, rfl, room_own HG2.out HX.out HN.out hgn HSZ.out HT.out hgb (by unfold maxLen; omega), HK.out.trans (keeps_grown HR.out ((grown_drew _ _ hgr2).trans (grown_setCell _ _ _ _)))⟩
  | (have hc : cap = 1 := by assumption
     subst hc
     exact ⟨_, rfl, room_own HG2.out HX.out HN.out hgn HSZ.out HT.out hgb (by unfold maxLen; omega), HK.out.trans (keeps_grown HR.out ((grown_drew _ _ hgr2).trans (grown_setCell _ _ _ _)))⟩)

theorem front_any (base : Nat) (v : Value) (l : List Int) (p : Int) (s : Nat) (w : World) (hB : base ≤ w.heap.size) (hl : OwnI w base v l) (hls : l.length ≤ s) (hs1 : 1 ≤ s) (hs8 : s ≤ 8) :
    Calls Try.prog 21 #[v, .int .i64 p, .int .i64 (at_ l p), .int .i64 s] w fun e w' => ∃ v', e = .returned v' ∧ OwnI w' base v' (front s l p) ∧ Keeps base w w' := by
  unfold at_ front
  by_cases h : p ∈ l
  · obtain ⟨i, hil, hi, he⟩ := idx_hit h
    obtain ⟨g, cap, cur, rfl, _⟩ := hl.block (List.ne_nil_of_mem h)
    rw [hi, if_pos (by simpa using h), ← he, ← List.eraseIdx_eq_take_drop_succ]
    exact front_at base g cap i l p s w hl hil
  · rw [idx_miss h, if_neg (by simpa using h)]
    by_cases hr : l.length < s
    · rw [if_pos hr]
      obtain ⟨ao, cap, rfl⟩ := hl.form
      exact front_room base l.length ao cap l p s w hB rfl hl hr hs8
    · rw [if_neg hr]
      have hne : l ≠ [] := by intro h0; subst h0; simp at hr; omega
      obtain ⟨g, cap, cur, rfl, _⟩ := hl.block hne
      have hlen : l.length = (l.length - 1) + 1 := by have := List.length_pos_iff.2 hne; omega
      rw [← eraseIdx_last l _ hlen]
      exact front_none base g cap (l.length - 1) l p s w hl (by omega) hlen (by omega)
end Go.Proofs.Ytbnhlnjbgimibaa
