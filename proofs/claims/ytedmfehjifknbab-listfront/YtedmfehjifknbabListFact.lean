/- The walk of listFact: a closed fact: what looking for three things costs, and the least. -/
import Derived.Test.YtedmfehjifknbabOLook
import Derived.Test.YtedmfehjifknbabOFactL
import Derived.Test.YtedmfehjifknbabInts
namespace Go.Proofs.Ytedmfehjifknbab
set_option maxRecDepth 100000
open Go.RowKit Go.Sort

theorem tf_c : chkL 3 [2, 2, 1] = 0 := by decide
theorem tf_n : lookN (fun _ => 0) 3 [2, 2, 1] = 7 := by decide
theorem tf_l : lookL (fun _ => 0) 3 [2, 2, 1] = [1, 2, 0] := by decide
theorem tf_x {x : Nat} (h : LookN 3 [2, 2, 1] x) : x = 7 := leastLook_unique (h.ok tf_c) fact_least
set_option maxHeartbeats 1000000 in
theorem tfact_any (w : World) : Calls Try.prog 7 #[] w fun e w' => e = .returned (.bool true) ∧ Below w.heap.size w w' := by
  have H1 : Hid (∀ w : World, IsInts (w.alloc (.cells #[.int .i64 2, .int .i64 2, .int .i64 1] 3)) (.slice (some ⟨w.heap.size, 0, none⟩) 3 3) [2, 2, 1]) := fun w =>
    isInts_new (l := [2, 2, 1]) (t := 3) (cur := #[.int .i64 2, .int .i64 2, .int .i64 1]) rfl (by decide) (heap_alloc_new _ _)
  go_enter Try.func7, Try.ntmps7
  go_wp2_with (go_at_call 8; fail)
  refine (front_any 3 _ [2, 2, 1] _ (H1.out w)).mono ?_
  rintro e w1 ⟨vh, rfl, hO, hb⟩
  rw [tf_c, tf_n, show errV 0 = .nilIface from rfl]
  rw [tf_l] at hO
  have HB1 : Hid (Below w.heap.size w w1) := ((Below.refl w.heap.size w).alloc (Nat.le_refl _) _).trans (hb.mono (by simp))
  have HL1 : Hid (IsInts w1 vh [1, 2, 0]) := hO.isInts
  have hbs : w.heap.size ≤ w1.heap.size := HB1.out.size
  clear hO hb
  go_wp2_with (go_at_call 9; fail)
  refine (oleast_any 3 _ [2, 2, 1] _ (H1.out w1)).mono ?_
  rintro e w2 ⟨x, rfl, hx, hb⟩
  obtain rfl := tf_x hx
  rw [tf_c, show errV 0 = .nilIface from rfl]
  have hbm : Below w1.heap.size w1 w2 := ((Below.refl w1.heap.size w1).alloc (Nat.le_refl _) _).trans (hb.mono (by simp))
  have HB2 : Hid (Below w.heap.size w w2) := HB1.out.trans (hbm.mono hbs)
  have HL2 : Hid (IsInts (w2.alloc (.cells #[.int .i64 1, .int .i64 2, .int .i64 0] 3)) vh [1, 2, 0]) := (HL1.out.below hbm).below ((Below.refl _ _).alloc (Nat.le_refl _) _)
  have HN : Hid (IsInts (w2.alloc (.cells #[.int .i64 1, .int .i64 2, .int .i64 0] 3)) (.slice (some ⟨w2.heap.size, 0, none⟩) 3 3) [1, 2, 0]) :=
    isInts_new (l := [1, 2, 0]) (t := 3) (cur := #[.int .i64 1, .int .i64 2, .int .i64 0]) rfl (by decide) (heap_alloc_new _ _)
  have hbs2 : w.heap.size ≤ w2.heap.size := HB2.out.size
  clear hb hbm hx
  go_wp2_with (go_at_call 13; go_must (refine (ints_same _ _ [1, 2, 0] _ HL2.out HN.out).mono ?_; rintro e w2 ⟨rfl, q, rfl⟩))
  go_ret
  exact ⟨rfl, below_drewN (HB2.out.alloc hbs2 _) _⟩
end Go.Proofs.Ytedmfehjifknbab
