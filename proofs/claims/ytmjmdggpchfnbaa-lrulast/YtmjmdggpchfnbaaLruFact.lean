/- The walk of lruFact: a closed fact. -/
import Derived.Test.YtmjmdggpchfnbaaLru
import Derived.Test.YtmjmdggpchfnbaaInts
namespace Go.Proofs.Ytmjmdggpchfnbaa
open Go.RowKit Go.Sort

theorem isInts_new {w : World} {B : Nat} {l : List Int} {cur : Array Value} {t : TypeId} (hcur : cur.toList = l.map (Value.int .i64)) (hl : l.length ≤ 100) (hb : w.heap[B]? = some (.cells cur t (0, 0))) : IsInts w (.slice (some ⟨B, 0, none⟩) l.length l.length) l := by
  by_cases h0 : l = []
  · subst h0; exact .inl ⟨rfl, _, 0, rfl, by simp⟩
  · refine .inr ⟨B, 0, l.length, rfl, List.length_pos_iff.2 h0, Nat.le_refl _, by unfold maxLen; omega, fun j hj => ?_⟩
    have : cur[j]? = some (.int .i64 (l[j]?.getD 0)) := by
      rw [← Array.getElem?_toList, hcur, List.getElem?_map, List.getElem?_eq_getElem hj]; rfl
    simpa [World.cell?, hb] using this

theorem isBools_new {w : World} {B : Nat} {l : List Bool} {cur : Array Value} {t : TypeId} (hcur : cur.toList = l.map Value.bool) (hl : l.length ≤ 100) (hb : w.heap[B]? = some (.cells cur t (0, 0))) : IsBools w (.slice (some ⟨B, 0, none⟩) l.length l.length) l := by
  by_cases h0 : l = []
  · subst h0; exact .inl ⟨rfl, _, 0, rfl, by simp⟩
  · refine .inr ⟨B, 0, l.length, rfl, List.length_pos_iff.2 h0, Nat.le_refl _, by unfold maxLen; omega, fun j hj => ?_⟩
    have : cur[j]? = some (.bool (l[j]?.getD false)) := by
      rw [← Array.getElem?_toList, hcur, List.getElem?_map, List.getElem?_eq_getElem hj]; rfl
    simpa [World.cell?, hb] using this

theorem errV_pos {n : Nat} (h : n ≠ 0) : errV n = .iface 37 (.int .i64 n) := by unfold errV; rw [if_neg h]

theorem fact_c : chk [1, 2, 1, 3, 2] 2 = 0 := by decide
theorem fact_b : lruB [1, 2, 1, 3, 2] 2 = [false, false, true, false, false] := by rw [lruB_ok fact_c]; decide
theorem fact_l : lruL [1, 2, 1, 3, 2] 2 = [2, 3] := by rw [lruL_ok fact_c]; decide

set_option maxHeartbeats 1000000 in
theorem fact_any (w : World) : Calls Try.prog 6 #[] w fun e w' => e = .returned (.bool true) ∧ Below w.heap.size w w' := by
  have H1 : Hid (IsInts (w.alloc (.cells #[.int .i64 1, .int .i64 2, .int .i64 1, .int .i64 3, .int .i64 2] 3)) (.slice (some ⟨w.heap.size, 0, none⟩) 5 5) [1, 2, 1, 3, 2]) :=
    isInts_new (l := [1, 2, 1, 3, 2]) (t := 3) (cur := #[.int .i64 1, .int .i64 2, .int .i64 1, .int .i64 3, .int .i64 2]) rfl (by simp) (heap_alloc_new _ _)
  go_enter Try.func6, Try.ntmps6
  go_wp2_with (first | (go_at_call 7; go_must (refine (run_any _ [1, 2, 1, 3, 2] 2 _ H1.out).mono ?_; rintro e w1 ⟨vb, vh, rfl, hB, hO, hb⟩; rw [fact_b] at hB; rw [fact_l] at hO; rw [fact_c]; simp only [errV, if_true]; have HB : Hid (OwnB w1 (w.heap.size + 1) vb [false, false, true, false, false]) := (by unfold Hid; simpa using hB); have HO : Hid (OwnI w1 (w.heap.size + 1) vh [2, 3]) := (by unfold Hid; simpa using hO); clear hO hB)) | (go_at_call 11; fail))
  have H3 : Hid (IsBools (w1.alloc (.cells #[.bool false, .bool false, .bool true, .bool false, .bool false] 4)) vb [false, false, true, false, false]) := OwnB.isBools (base := w.heap.size + 1) (World.ownsRow.alloc HB.out _)
  have H4 : Hid (IsBools (w1.alloc (.cells #[.bool false, .bool false, .bool true, .bool false, .bool false] 4)) (.slice (some ⟨w1.heap.size, 0, none⟩) 5 5) [false, false, true, false, false]) :=
    isBools_new (l := [false, false, true, false, false]) (t := 4) (cur := #[.bool false, .bool false, .bool true, .bool false, .bool false]) rfl (by simp) (heap_alloc_new _ _)
  refine (bools_same _ _ _ _ H3.out H4.out).mono ?_
  rintro e w2 ⟨rfl, q, hw2⟩
  have hb2 : Below w.heap.size w w1 := ((Below.refl w.heap.size w).alloc (Nat.le_refl _) _).trans (hb.mono (by simp))
  have hb3 : Below w.heap.size w w2 := by rw [hw2]; exact below_drewN (hb2.alloc hb2.size _) q
  have HO2 : Hid (OwnI w2 (w.heap.size + 1) vh [2, 3]) := by rw [hw2]; exact OwnI.drewN (World.ownsRow.alloc HO.out _) q
  clear hw2 HO hb
  go_wp2_with (go_at_call 8; fail)
  have H5 : Hid (IsInts (w2.alloc (.cells #[.int .i64 2, .int .i64 3] 3)) vh [2, 3]) := OwnI.isInts (base := w.heap.size + 1) (World.ownsRow.alloc HO2.out _)
  have H6 : Hid (IsInts (w2.alloc (.cells #[.int .i64 2, .int .i64 3] 3)) (.slice (some ⟨w2.heap.size, 0, none⟩) 2 2) [2, 3]) :=
    isInts_new (l := [2, 3]) (t := 3) (cur := #[.int .i64 2, .int .i64 3]) rfl (by simp) (heap_alloc_new _ _)
  refine (ints_same _ _ _ _ H5.out H6.out).mono ?_
  rintro e w3 ⟨rfl, q, hw3⟩
  go_wp2
  go_ret
  refine ⟨rfl, ?_⟩
  exact below_drewN (hb3.alloc hb3.size _) q
end Go.Proofs.Ytmjmdggpchfnbaa
