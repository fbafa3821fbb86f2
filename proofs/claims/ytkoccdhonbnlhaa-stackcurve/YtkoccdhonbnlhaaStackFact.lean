/- The walk of stackFact: a closed fact: how deep four pages lie. -/
import Derived.Test.YtkoccdhonbnlhaaStack
import Derived.Test.YtkoccdhonbnlhaaInts
namespace Go.Proofs.Ytkoccdhonbnlhaa
open Go.RowKit Go.Sort

def pileL : List Int := [1, 2, 2, 1]
theorem pile_c : chk pileL 8 = 0 := by decide
theorem pile_d : stkD pileL = [0, 0, 1, 2] := by rw [stkD_ok pile_c]; decide

set_option maxHeartbeats 1000000 in
theorem pile_any (w : World) : Calls Try.prog 6 #[] w fun e w' => e = .returned (.bool true) ∧ Below w.heap.size w w' := by
  have H1 : Hid (IsInts (w.alloc (.cells #[.int .i64 1, .int .i64 2, .int .i64 2, .int .i64 1] 3)) (.slice (some ⟨w.heap.size, 0, none⟩) 4 4) pileL) :=
    isInts_new (l := pileL) (t := 3) (cur := #[.int .i64 1, .int .i64 2, .int .i64 2, .int .i64 1]) rfl (by decide) (heap_alloc_new _ _)
  go_enter Try.func6, Try.ntmps6
  go_wp2_with (go_at_call 8; fail)
  refine (depths_any _ pileL _ H1.out).mono ?_
  rintro e w1 ⟨vh, rfl, hO, hb⟩
  rw [pile_c, show errV 0 = .nilIface from rfl]
  rw [pile_d] at hO
  have HBW : Hid (Below w.heap.size w w1) := ((Below.refl w.heap.size w).alloc (Nat.le_refl _) _).trans (hb.mono (by simp))
  have HL : Hid (IsInts (w1.alloc (.cells #[.int .i64 0, .int .i64 0, .int .i64 1, .int .i64 2] 3)) vh [0, 0, 1, 2]) := hO.isInts.below ((Below.refl _ _).alloc (Nat.le_refl _) _)
  have HN : Hid (IsInts (w1.alloc (.cells #[.int .i64 0, .int .i64 0, .int .i64 1, .int .i64 2] 3)) (.slice (some ⟨w1.heap.size, 0, none⟩) 4 4) [0, 0, 1, 2]) :=
    isInts_new (l := [0, 0, 1, 2]) (t := 3) (cur := #[.int .i64 0, .int .i64 0, .int .i64 1, .int .i64 2]) rfl (by decide) (heap_alloc_new _ _)
  have hbs : w.heap.size ≤ w1.heap.size := HBW.out.size
  clear hO hb H1
  go_wp2_with (go_at_call 16; go_must (refine (ints_same _ _ [0, 0, 1, 2] _ HL.out HN.out).mono ?_; rintro e w2 ⟨rfl, q, rfl⟩))
  go_ret
  exact ⟨rfl, below_drewN (HBW.out.alloc hbs _) _⟩
end Go.Proofs.Ytkoccdhonbnlhaa
