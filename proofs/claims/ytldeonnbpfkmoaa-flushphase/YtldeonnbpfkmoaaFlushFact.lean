/- The walk of flushFact: a closed fact: all are let go of at once. -/
import Derived.Test.YtldeonnbpfkmoaaFlush
import Derived.Test.YtldeonnbpfkmoaaMisses
import Derived.Test.YtldeonnbpfkmoaaInts
namespace Go.Proofs.Ytldeonnbpfkmoaa
open Go.RowKit Go.Sort

def emptyL : List Int := [1, 2, 3, 1]
theorem empty_c : chk emptyL 2 = 0 := by decide
theorem empty_l : flushL emptyL 2 = [3, 1] := by rw [flushL_ok empty_c]; decide
theorem empty_m : missed (flushB emptyL 2) (flushB emptyL 2).length = 4 := by rw [flushB_ok empty_c]; decide

set_option maxHeartbeats 1000000 in
theorem empty_any (w : World) : Calls Try.prog 8 #[] w fun e w' => e = .returned (.bool true) ∧ Below w.heap.size w w' := by
  have H1 : Hid (IsInts (w.alloc (.cells #[.int .i64 1, .int .i64 2, .int .i64 3, .int .i64 1] 3)) (.slice (some ⟨w.heap.size, 0, none⟩) 4 4) emptyL) :=
    isInts_new (l := emptyL) (t := 3) (cur := #[.int .i64 1, .int .i64 2, .int .i64 3, .int .i64 1]) rfl (by decide) (heap_alloc_new _ _)
  go_enter Try.func8, Try.ntmps8
  go_wp2_with (go_at_call 9; fail)
  refine (flush_any _ emptyL 2 _ H1.out).mono ?_
  rintro e w1 ⟨vb, vh, rfl, hB, hO, hb⟩
  rw [empty_c, show errV 0 = .nilIface from rfl]
  rw [empty_l] at hO
  have HBW : Hid (Below w.heap.size w w1) := ((Below.refl w.heap.size w).alloc (Nat.le_refl _) _).trans (hb.mono (by simp))
  have HB1 : Hid (IsBools w1 vb (flushB emptyL 2)) := hB.isBools
  have HL : Hid (IsInts (w1.alloc (.cells #[.int .i64 3, .int .i64 1] 3)) vh [3, 1]) := hO.isInts.below ((Below.refl _ _).alloc (Nat.le_refl _) _)
  have HN : Hid (IsInts (w1.alloc (.cells #[.int .i64 3, .int .i64 1] 3)) (.slice (some ⟨w1.heap.size, 0, none⟩) 2 2) [3, 1]) :=
    isInts_new (l := [3, 1]) (t := 3) (cur := #[.int .i64 3, .int .i64 1]) rfl (by decide) (heap_alloc_new _ _)
  have hbs : w.heap.size ≤ w1.heap.size := HBW.out.size
  clear hO hb hB H1
  go_wp2_with (go_at_call 17; fail)
  refine (misses_any _ _ _ HB1.out).mono ?_
  rintro e w3 ⟨rfl, hw⟩
  have hw := hw.symm
  subst hw
  rw [empty_m]
  go_wp2_with (go_at_call 18; go_must (refine (ints_same _ _ [3, 1] _ HL.out HN.out).mono ?_; rintro e w2 ⟨rfl, q, rfl⟩))
  go_ret
  exact ⟨rfl, below_drewN (HBW.out.alloc hbs _) _⟩
end Go.Proofs.Ytldeonnbpfkmoaa
