/- The walk of phaseFact: a closed fact: where the phases of seven requests begin. -/
import Derived.Test.YtldeonnbpfkmoaaPhase
import Derived.Test.YtldeonnbpfkmoaaInts
namespace Go.Proofs.Ytldeonnbpfkmoaa
open Go.RowKit Go.Sort

def cutL : List Int := [1, 2, 1, 3, 3, 1, 2]
theorem cut_c : chk cutL 2 = 0 := by decide
theorem cut_l : phaseL cutL 2 = [0, 3, 6] := by rw [phaseL_ok cut_c]; decide

set_option maxHeartbeats 1000000 in
theorem cut_any (w : World) : Calls Try.prog 12 #[] w fun e w' => e = .returned (.bool true) ∧ Below w.heap.size w w' := by
  have H1 : Hid (IsInts (w.alloc (.cells #[.int .i64 1, .int .i64 2, .int .i64 1, .int .i64 3, .int .i64 3, .int .i64 1, .int .i64 2] 3)) (.slice (some ⟨w.heap.size, 0, none⟩) 7 7) cutL) :=
    isInts_new (l := cutL) (t := 3) (cur := #[.int .i64 1, .int .i64 2, .int .i64 1, .int .i64 3, .int .i64 3, .int .i64 1, .int .i64 2]) rfl (by decide) (heap_alloc_new _ _)
  go_enter Try.func12, Try.ntmps12
  go_wp2_with (go_at_call 10; fail)
  refine (phase_any _ cutL 2 _ H1.out).mono ?_
  rintro e w1 ⟨vh, rfl, hO, hb⟩
  rw [cut_c, show errV 0 = .nilIface from rfl]
  rw [cut_l] at hO
  have HBW : Hid (Below w.heap.size w w1) := ((Below.refl w.heap.size w).alloc (Nat.le_refl _) _).trans (hb.mono (by simp))
  have HL : Hid (IsInts (w1.alloc (.cells #[.int .i64 0, .int .i64 3, .int .i64 6] 3)) vh [0, 3, 6]) := hO.isInts.below ((Below.refl _ _).alloc (Nat.le_refl _) _)
  have HN : Hid (IsInts (w1.alloc (.cells #[.int .i64 0, .int .i64 3, .int .i64 6] 3)) (.slice (some ⟨w1.heap.size, 0, none⟩) 3 3) [0, 3, 6]) :=
    isInts_new (l := [0, 3, 6]) (t := 3) (cur := #[.int .i64 0, .int .i64 3, .int .i64 6]) rfl (by decide) (heap_alloc_new _ _)
  have hbs : w.heap.size ≤ w1.heap.size := HBW.out.size
  clear hO hb H1
  go_wp2_with (go_at_call 18; go_must (refine (ints_same _ _ [0, 3, 6] _ HL.out HN.out).mono ?_; rintro e w2 ⟨rfl, q, rfl⟩))
  go_ret
  exact ⟨rfl, below_drewN (HBW.out.alloc hbs _) _⟩
end Go.Proofs.Ytldeonnbpfkmoaa
