/- The walk of landFact: a closed fact: what a landlord, and the least, pay for four requests. -/
import Derived.Test.YtedmfehjifknbaaLRun
import Derived.Test.YtedmfehjifknbaaLLeast
import Derived.Test.YtedmfehjifknbaaInts
namespace Go.Proofs.Ytedmfehjifknbaa
open Go.RowKit Go.Sort

theorem lf_c : chkC [0, 1, 2, 0] [5, 1, 1] 2 = 0 := by decide
theorem lf_n : landN [0, 1, 2, 0] [5, 1, 1] 2 = 7 := by decide
theorem lf_t : tenants (landT [0, 1, 2, 0] [5, 1, 1] 2) = [0, 2] := by decide
theorem lf_x {x : Nat} (h : LeastN [0, 1, 2, 0] [5, 1, 1] 2 x) : x = 7 := by
  have hx := h.ok lf_c
  have h1 := least_once hx
  have h2 := least_land (by decide) hx
  have e1 : sumOn (cf [5, 1, 1]) (full [0, 1, 2, 0]) = 7 := by decide
  have e2 : lpaid (2 : Int).toNat (cf [5, 1, 1]) [0, 1, 2, 0] ([0, 1, 2, 0] : List Int).length = 7 := by decide
  omega

theorem lf_two (w : World) : IsInts ((w.alloc (.cells #[.int .i64 0, .int .i64 1, .int .i64 2, .int .i64 0] 3)).alloc (.cells #[.int .i64 5, .int .i64 1, .int .i64 1] 3)) (.slice (some ⟨w.heap.size, 0, none⟩) 4 4) [0, 1, 2, 0] ∧ IsInts ((w.alloc (.cells #[.int .i64 0, .int .i64 1, .int .i64 2, .int .i64 0] 3)).alloc (.cells #[.int .i64 5, .int .i64 1, .int .i64 1] 3)) (.slice (some ⟨w.heap.size + 1, 0, none⟩) 3 3) [5, 1, 1] ∧ Below w.heap.size w ((w.alloc (.cells #[.int .i64 0, .int .i64 1, .int .i64 2, .int .i64 0] 3)).alloc (.cells #[.int .i64 5, .int .i64 1, .int .i64 1] 3)) := by
  refine ⟨IsInts.below (isInts_new (l := [0, 1, 2, 0]) (t := 3) (cur := #[.int .i64 0, .int .i64 1, .int .i64 2, .int .i64 0]) rfl (by decide) (heap_alloc_new _ _)) ((Below.refl _ _).alloc (Nat.le_refl _) _), ?_, ((Below.refl w.heap.size w).alloc (Nat.le_refl _) _).alloc (by simp) _⟩
  have := isInts_new (w := (w.alloc (.cells #[.int .i64 0, .int .i64 1, .int .i64 2, .int .i64 0] 3)).alloc (.cells #[.int .i64 5, .int .i64 1, .int .i64 1] 3)) (B := (w.alloc (.cells #[.int .i64 0, .int .i64 1, .int .i64 2, .int .i64 0] 3)).heap.size) (l := [5, 1, 1]) (t := 3) (cur := #[.int .i64 5, .int .i64 1, .int .i64 1]) rfl (by decide) (heap_alloc_new _ _)
  rw [World.size_alloc] at this
  exact this

set_option maxHeartbeats 1000000 in
theorem lfact_any (w : World) : Calls Try.prog 8 #[] w fun e w' => e = .returned (.bool true) ∧ Below w.heap.size w w' := by
  have H1 : Hid (∀ w : World, _) := lf_two
  have HW := lf_two w
  go_enter Try.func8, Try.ntmps8
  go_wp2_with (go_at_call 10; fail)
  refine (landlord_any _ _ [0, 1, 2, 0] [5, 1, 1] 2 _ HW.1 HW.2.1).mono ?_
  rintro e w1 ⟨vp, vq, rfl, hO, _, hb⟩
  rw [lf_c, lf_n, show errV 0 = .nilIface from rfl]
  rw [lf_t] at hO
  have HB1 : Hid (Below w.heap.size w w1) := HW.2.2.trans (hb.mono HW.2.2.size)
  have HL1 : Hid (IsInts w1 vp [0, 2]) := hO.isInts
  clear hO hb HW
  have HW1 := H1.out w1
  have hbs : w.heap.size ≤ w1.heap.size := HB1.out.size
  go_wp2_with (go_at_call 11; fail)
  refine (least_any _ _ [0, 1, 2, 0] [5, 1, 1] 2 _ HW1.1 HW1.2.1).mono ?_
  rintro e w2 ⟨x, rfl, hx, hb⟩
  obtain rfl := lf_x hx
  rw [lf_c, show errV 0 = .nilIface from rfl]
  have hbm : Below w1.heap.size w1 w2 := HW1.2.2.trans (hb.mono HW1.2.2.size)
  have HB2 : Hid (Below w.heap.size w w2) := HB1.out.trans (hbm.mono hbs)
  have HL2 : Hid (IsInts (w2.alloc (.cells #[.int .i64 0, .int .i64 2] 3)) vp [0, 2]) := (HL1.out.below hbm).below ((Below.refl _ _).alloc (Nat.le_refl _) _)
  have HN : Hid (IsInts (w2.alloc (.cells #[.int .i64 0, .int .i64 2] 3)) (.slice (some ⟨w2.heap.size, 0, none⟩) 2 2) [0, 2]) :=
    isInts_new (l := [0, 2]) (t := 3) (cur := #[.int .i64 0, .int .i64 2]) rfl (by decide) (heap_alloc_new _ _)
  have hbs2 : w.heap.size ≤ w2.heap.size := HB2.out.size
  clear hb hbm hx HW1
  go_wp2_with (go_at_call 15; go_must (refine (ints_same _ _ [0, 2] _ HL2.out HN.out).mono ?_; rintro e w2 ⟨rfl, q, rfl⟩))
  go_ret
  exact ⟨rfl, below_drewN (HB2.out.alloc hbs2 _) _⟩
end Go.Proofs.Ytedmfehjifknbaa
