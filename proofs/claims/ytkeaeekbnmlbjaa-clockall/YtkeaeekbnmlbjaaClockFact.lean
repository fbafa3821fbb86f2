/- The walk of clockFact: a closed fact: page 2 has a second chance. -/
import Derived.Test.YtkeaeekbnmlbjaaClock3
import Derived.Test.YtkeaeekbnmlbjaaInts
namespace Go.Proofs.Ytkeaeekbnmlbjaa
open Go.RowKit Go.Sort

def chanceL : List Int := [1, 2, 3, 4, 2, 5]
theorem chance_c : chk chanceL 3 = 0 := by decide
theorem chance_l : clockL chanceL 3 = [4, 2, 5] := by rw [clockL_ok chance_c]; decide
theorem chance_h : clockH chanceL 3 = 0 := by rw [clockH_ok chance_c]; decide

set_option maxHeartbeats 1000000 in
theorem chance_any (w : World) : Calls Try.prog 5 #[] w fun e w' => e = .returned (.bool true) ∧ Below w.heap.size w w' := by
  have H1 : Hid (IsInts (w.alloc (.cells #[.int .i64 1, .int .i64 2, .int .i64 3, .int .i64 4, .int .i64 2, .int .i64 5] 3)) (.slice (some ⟨w.heap.size, 0, none⟩) 6 6) chanceL) :=
    isInts_new (l := chanceL) (t := 3) (cur := #[.int .i64 1, .int .i64 2, .int .i64 3, .int .i64 4, .int .i64 2, .int .i64 5]) rfl (by decide) (heap_alloc_new _ _)
  go_enter Try.func5, Try.ntmps5
  go_wp2_with (go_at_call 6; fail)
  refine (clock_any _ chanceL 3 _ H1.out).mono ?_
  rintro e w1 ⟨vb, vh, rfl, _, hO, hb⟩
  rw [chance_c, chance_h, show errV 0 = .nilIface from rfl]
  rw [chance_l] at hO
  have HBW : Hid (Below w.heap.size w w1) := ((Below.refl w.heap.size w).alloc (Nat.le_refl _) _).trans (hb.mono (by simp))
  have HL : Hid (IsInts (w1.alloc (.cells #[.int .i64 4, .int .i64 2, .int .i64 5] 3)) vh [4, 2, 5]) := hO.isInts.below ((Below.refl _ _).alloc (Nat.le_refl _) _)
  have HN : Hid (IsInts (w1.alloc (.cells #[.int .i64 4, .int .i64 2, .int .i64 5] 3)) (.slice (some ⟨w1.heap.size, 0, none⟩) 3 3) [4, 2, 5]) :=
    isInts_new (l := [4, 2, 5]) (t := 3) (cur := #[.int .i64 4, .int .i64 2, .int .i64 5]) rfl (by decide) (heap_alloc_new _ _)
  have hbs : w.heap.size ≤ w1.heap.size := HBW.out.size
  clear hO hb H1
  go_wp2_with (go_at_call 12; go_must (refine (ints_same _ _ [4, 2, 5] _ HL.out HN.out).mono ?_; rintro e w2 ⟨rfl, q, rfl⟩))
  go_ret
  exact ⟨rfl, below_drewN (HBW.out.alloc hbs _) _⟩
end Go.Proofs.Ytkeaeekbnmlbjaa
