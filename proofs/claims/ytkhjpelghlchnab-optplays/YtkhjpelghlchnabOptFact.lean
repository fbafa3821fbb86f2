/- The walk of optFact: a closed fact: of 1 and 2 it is 2 that is asked for later. -/
import Derived.Test.YtkhjpelghlchnabOptAny
import Derived.Test.YtkhjpelghlchnabMisses
namespace Go.Proofs.Ytkhjpelghlchnab
open Go.RowKit Go.Sort

def laterL : List Int := [1, 2, 3, 1, 3, 2]
theorem later_c : chk laterL 2 = 0 := by decide
theorem later_o : optO laterL 2 = [2, 1] := by rw [optO_ok later_c]; decide +kernel
theorem later_m : missed (optB laterL 2) (optB laterL 2).length = 4 := by rw [optB_ok later_c]; decide +kernel

set_option maxHeartbeats 1000000 in
theorem later_any (w : World) : Calls Try.prog 4 #[] w fun e w' => e = .returned (.bool true) ∧ Below w.heap.size w w' := by
  have H1 : Hid (IsInts (w.alloc (.cells #[.int .i64 1, .int .i64 2, .int .i64 3, .int .i64 1, .int .i64 3, .int .i64 2] 3)) (.slice (some ⟨w.heap.size, 0, none⟩) 6 6) laterL) :=
    isInts_new (l := laterL) (t := 3) (cur := #[.int .i64 1, .int .i64 2, .int .i64 3, .int .i64 1, .int .i64 3, .int .i64 2]) rfl (by decide) (heap_alloc_new _ _)
  go_enter Try.func4, Try.ntmps4
  go_wp2_with (go_at_call 5; fail)
  refine (opt_any _ laterL 2 _ H1.out).mono ?_
  rintro e w1 ⟨vb, vo, vh, rfl, hB, hO, _, hb⟩
  rw [later_c, show errV 0 = .nilIface from rfl]
  rw [later_o] at hO
  have HBW : Hid (Below w.heap.size w w1) := ((Below.refl w.heap.size w).alloc (Nat.le_refl _) _).trans (hb.mono (by simp))
  have HB1 : Hid (IsBools w1 vb (optB laterL 2)) := hB.isBools
  obtain ⟨b, off, cap, hv, _, hlc, hm, hc⟩ : ∃ b off cap, vo = .slice (some ⟨b, off, none⟩) 2 cap ∧ 0 < 2 ∧ 2 ≤ cap ∧ cap ≤ maxLen ∧ w1.cell? ⟨b, off, none⟩ = some (.int .i64 2) := by
    rcases hO.isInts with ⟨h, _⟩ | ⟨b, off, cap, hv, h0, hlc, hm, hc⟩
    · simp at h
    · exact ⟨b, off, cap, hv, by omega, hlc, hm, hc 0 (by simp)⟩
  subst hv
  unfold maxLen at hm
  clear hO hb hB H1
  go_wp2_with (go_at_call 7; fail)
  refine (misses_any _ _ _ HB1.out).mono ?_
  rintro e w3 ⟨rfl, hw⟩
  have hw := hw.symm
  subst hw
  rw [later_m]
  go_wp2
  go_ret
  exact ⟨rfl, HBW.out⟩
end Go.Proofs.Ytkhjpelghlchnab
