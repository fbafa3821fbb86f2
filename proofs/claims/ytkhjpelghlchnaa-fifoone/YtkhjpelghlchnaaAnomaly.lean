/- The walk of anomaly: a closed fact: more slots may be worse. -/
import Derived.Test.YtkhjpelghlchnaaFifo
import Derived.Test.YtkhjpelghlchnaaMisses
namespace Go.Proofs.Ytkhjpelghlchnaa
open Go.RowKit Go.Sort

def anoL : List Int := [1, 2, 3, 4, 1, 2, 5, 1, 2, 3, 4, 5]
theorem ano_c3 : chk anoL 3 = 0 := by decide
theorem ano_c4 : chk anoL 4 = 0 := by decide
theorem ano_l3 : (fifoB anoL 3).length = 12 := by rw [fifoB_ok ano_c3, marks_length]; rfl
theorem ano_m3 : missed (fifoB anoL 3) (fifoB anoL 3).length = 9 := by rw [fifoB_ok ano_c3]; decide
theorem ano_m4 : missed (fifoB anoL 4) (fifoB anoL 4).length = 10 := by rw [fifoB_ok ano_c4]; decide

set_option maxHeartbeats 1000000 in
theorem ano_any (w : World) : Calls Try.prog 8 #[] w fun e w' => e = .returned (.bool true) ∧ Below w.heap.size w w' := by
  have H1 : Hid (IsInts (w.alloc (.cells #[.int .i64 1, .int .i64 2, .int .i64 3, .int .i64 4, .int .i64 1, .int .i64 2, .int .i64 5, .int .i64 1, .int .i64 2, .int .i64 3, .int .i64 4, .int .i64 5] 3)) (.slice (some ⟨w.heap.size, 0, none⟩) 12 12) anoL) :=
    isInts_new (l := anoL) (t := 3) (cur := #[.int .i64 1, .int .i64 2, .int .i64 3, .int .i64 4, .int .i64 1, .int .i64 2, .int .i64 5, .int .i64 1, .int .i64 2, .int .i64 3, .int .i64 4, .int .i64 5]) rfl (by decide) (heap_alloc_new _ _)
  go_enter Try.func8, Try.ntmps8
  go_wp2_with (go_at_call 9; fail)
  refine (fifo_any _ anoL 3 _ H1.out).mono ?_
  rintro e w1 ⟨vb, vh, rfl, hB, _, hb⟩
  rw [ano_c3, show errV 0 = .nilIface from rfl]
  have H2 : Hid (IsInts w1 (.slice (some ⟨w.heap.size, 0, none⟩) 12 12) anoL) := H1.out.below hb
  have hb2 : Below w.heap.size w w1 := ((Below.refl w.heap.size w).alloc (Nat.le_refl _) _).trans (hb.mono (by simp))
  obtain ⟨ab, bc, hvb⟩ := hB.form
  rw [ano_l3] at hvb
  subst hvb
  have HB1 : Hid (IsBools w1 (.slice ab 12 bc) (fifoB anoL 3)) := hB.isBools
  clear hB hb H1
  go_wp2_with (go_at_call 9; fail)
  refine (fifo_any _ anoL 4 _ H2.out).mono ?_
  rintro e w2 ⟨vb', vh', rfl, hB, _, hb⟩
  rw [ano_c4, show errV 0 = .nilIface from rfl]
  have HB2 : Hid (IsBools w2 (.slice ab 12 bc) (fifoB anoL 3)) := HB1.out.below hb
  have HB3 : Hid (IsBools w2 vb' (fifoB anoL 4)) := hB.isBools
  have HBW : Hid (Below w.heap.size w w2) := hb2.trans (hb.mono hb2.size)
  clear hB hb hb2 H2 HB1
  go_wp2_with (go_at_call 16; fail)
  refine (misses_any _ _ _ HB2.out).mono ?_
  rintro e w3 ⟨rfl, hw⟩
  have hw := hw.symm
  subst hw
  rw [ano_m3]
  go_wp2_with (go_at_call 16; fail)
  refine (misses_any _ _ _ HB3.out).mono ?_
  rintro e w3 ⟨rfl, hw⟩
  have hw := hw.symm
  subst hw
  rw [ano_m4]
  go_wp2
  go_ret
  exact ⟨rfl, HBW.out⟩
end Go.Proofs.Ytkhjpelghlchnaa
