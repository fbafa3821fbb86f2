/- FifoOne is proved: for every list of requests, in whatever memory and on every schedule, it returns true and leaves its argument as it was: in one slot all are alike. No condition. -/
import Derived.Test.YtkhjpelghlchnaaAnomaly
import Derived.Test.YtkhjpelghlchnaaSchedClock
import Derived.Test.YtkhjpelghlchnaaLru
import Derived.Test.YtkhjpelghlchnaaClock3
import Derived.Test.YtkhjpelghlchnaaFlush
import Derived.Test.YtkhjpelghlchnaaOptAny
import Derived.Test.YtkhjpelghlchnaaSameB
import Derived.Test.YtkhjpelghlchnaaLawkit
namespace Go.Proofs.Ytkhjpelghlchnaa
open Go.ChangeShapes Go.WideShapes Go.ChangeAt Go.RowKit Go.Sort

theorem marks_congr {f g : Nat → Bool} {n : Nat} (h : ∀ i, i < n → f i = g i) : marks f n = marks g n := by
  unfold marks
  exact List.map_congr_left fun i hi => h i (List.mem_range.1 hi)
theorem one_all {l : List Int} (h : chk l 1 = 0) : Hid (lruB l 1 = fifoB l 1 ∧ clockB l 1 = fifoB l 1 ∧ flushB l 1 = fifoB l 1 ∧ optB l 1 = fifoB l 1) := by
  have e : (1 : Int).toNat = 1 := rfl
  have hf := sched_fifo (Nat.le_refl 1) l
  unfold Hid
  rw [fifoB_ok h, lruB_ok h, clockB_ok h, flushB_ok h, optB_ok h, e]
  refine ⟨?_, ?_, ?_, ?_⟩
  · exact marks_congr fun i hi => by have := one_hit (sched_lru (Nat.le_refl 1) l) hf hi; rwa [hits_lru, hits_fifo] at this
  · exact marks_congr fun i hi => by have := one_hit (sched_clock (Nat.le_refl 1) l) hf hi; rwa [hits_clock, hits_fifo] at this
  · exact marks_congr fun i hi => by have := one_hit (sched_flush (Nat.le_refl 1) l) hf hi; rwa [hits_flush, hits_fifo] at this
  · exact marks_congr fun i hi => by have := one_hit (sched_opt (Nat.le_refl 1) (chk_pages h)) hf hi; rwa [hits_opt, hits_fifo] at this

set_option maxHeartbeats 2000000 in
theorem fifoOne_any (v : Value) (l : List Int) (w : World) (hv : IsInts w v l) (_ : ∃ ao cap, v = .slice ao l.length cap) :
    Calls Try.prog 3 #[v] w fun e w' => e = .returned (.bool true) ∧ Below w.heap.size w w' := by
  have HV : Hid (IsInts w v l) := hv
  clear hv
  go_enter Try.func3, Try.ntmps3
  go_wp2_with (first | (go_at_call 8; go_must (refine (ano_any _).mono ?_; rintro e w1 ⟨rfl, hb1⟩)) | (go_at_call 9; fail))
  refine (fifo_any _ l 1 _ (HV.out.below hb1)).mono ?_
  rintro e w2 ⟨va, la, rfl, hA, _, hb2⟩
  have HB2 : Hid (Below w.heap.size w w2) := hb1.trans (hb2.mono hb1.size)
  have HA2 : Hid (IsBools w2 va (fifoB l 1)) := hA.isBools
  clear hA hb1 hb2
  by_cases hc : chk l 1 = 0
  · have HALL := one_all hc
    have HC : Hid (chk l 1 = 0) := hc
    rw [HC.out, show errV 0 = .nilIface from rfl]
    clear hc
    go_wp2_with (go_at_call 10; fail)
    refine (lru_any _ l 1 _ (HV.out.below HB2.out)).mono ?_
    rintro e w3 ⟨vb, lb, rfl, hB, _, hb3⟩
    rw [HC.out, show errV 0 = .nilIface from rfl]
    rw [HALL.out.1] at hB
    have HB3 : Hid (Below w.heap.size w w3) := HB2.out.trans (hb3.mono HB2.out.size)
    have HA3 : Hid (IsBools w3 va (fifoB l 1)) := HA2.out.below hb3
    have HL3 : Hid (IsBools w3 vb (fifoB l 1)) := hB.isBools
    clear hB hb3 HA2
    go_wp2_with (go_at_call 11; fail)
    refine (clock_any _ l 1 _ (HV.out.below HB3.out)).mono ?_
    rintro e w4 ⟨vc, lc, rfl, hB, _, hb4⟩
    rw [HC.out, show errV 0 = .nilIface from rfl]
    rw [HALL.out.2.1] at hB
    have HB4 : Hid (Below w.heap.size w w4) := HB3.out.trans (hb4.mono HB3.out.size)
    have HA4 : Hid (IsBools w4 va (fifoB l 1)) := HA3.out.below hb4
    have HL4 : Hid (IsBools w4 vb (fifoB l 1)) := HL3.out.below hb4
    have HC4 : Hid (IsBools w4 vc (fifoB l 1)) := hB.isBools
    generalize clockH l 1 = hh at *
    clear hB hb4 HA3 HL3
    go_wp2_with (go_at_call 12; fail)
    refine (flush_any _ l 1 _ (HV.out.below HB4.out)).mono ?_
    rintro e w5 ⟨vd, ld, rfl, hB, _, hb5⟩
    rw [HC.out, show errV 0 = .nilIface from rfl]
    rw [HALL.out.2.2.1] at hB
    have HB5 : Hid (Below w.heap.size w w5) := HB4.out.trans (hb5.mono HB4.out.size)
    have HA5 : Hid (IsBools w5 va (fifoB l 1)) := HA4.out.below hb5
    have HL5 : Hid (IsBools w5 vb (fifoB l 1)) := HL4.out.below hb5
    have HC5 : Hid (IsBools w5 vc (fifoB l 1)) := HC4.out.below hb5
    have HD5 : Hid (IsBools w5 vd (fifoB l 1)) := hB.isBools
    clear hB hb5 HA4 HL4 HC4
    go_wp2_with (go_at_call 13; fail)
    refine (opt_any _ l 1 _ (HV.out.below HB5.out)).mono ?_
    rintro e w6 ⟨ve, lo, le, rfl, hB, _, _, hb6⟩
    rw [HC.out, show errV 0 = .nilIface from rfl]
    rw [HALL.out.2.2.2] at hB
    have HB6 : Hid (Below w.heap.size w w6) := HB5.out.trans (hb6.mono HB5.out.size)
    have HA6 : Hid (IsBools w6 va (fifoB l 1)) := HA5.out.below hb6
    have HL6 : Hid (IsBools w6 vb (fifoB l 1)) := HL5.out.below hb6
    have HC6 : Hid (IsBools w6 vc (fifoB l 1)) := HC5.out.below hb6
    have HD6 : Hid (IsBools w6 vd (fifoB l 1)) := HD5.out.below hb6
    have HE6 : Hid (IsBools w6 ve (fifoB l 1)) := hB.isBools
    clear hB hb6 HA5 HL5 HC5 HD5 HALL HC
    generalize fifoB l 1 = m at *
    go_wp2_with (go_at_call 14; fail)
    refine (bools_same _ _ m _ HA6.out HL6.out).mono ?_
    rintro e w7 ⟨rfl, q7, hw⟩
    have HB7 : Hid (Below w.heap.size w w7) := by rw [hw]; exact below_drewN HB6.out q7
    have HL7 : Hid (IsBools w7 vb m) := by rw [hw]; exact HL6.out.drewN q7
    have HC7 : Hid (IsBools w7 vc m) := by rw [hw]; exact HC6.out.drewN q7
    have HD7 : Hid (IsBools w7 vd m) := by rw [hw]; exact HD6.out.drewN q7
    have HE7 : Hid (IsBools w7 ve m) := by rw [hw]; exact HE6.out.drewN q7
    clear hw HA6 HL6 HC6 HD6 HE6 HB6
    go_wp2_with (go_at_call 14; fail)
    refine (bools_same _ _ m _ HL7.out HC7.out).mono ?_
    rintro e w8 ⟨rfl, q8, hw⟩
    have HB8 : Hid (Below w.heap.size w w8) := by rw [hw]; exact below_drewN HB7.out q8
    have HC8 : Hid (IsBools w8 vc m) := by rw [hw]; exact HC7.out.drewN q8
    have HD8 : Hid (IsBools w8 vd m) := by rw [hw]; exact HD7.out.drewN q8
    have HE8 : Hid (IsBools w8 ve m) := by rw [hw]; exact HE7.out.drewN q8
    clear hw HL7 HC7 HD7 HE7 HB7
    go_wp2_with (go_at_call 14; fail)
    refine (bools_same _ _ m _ HC8.out HD8.out).mono ?_
    rintro e w9 ⟨rfl, q9, hw⟩
    have HB9 : Hid (Below w.heap.size w w9) := by rw [hw]; exact below_drewN HB8.out q9
    have HD9 : Hid (IsBools w9 vd m) := by rw [hw]; exact HD8.out.drewN q9
    have HE9 : Hid (IsBools w9 ve m) := by rw [hw]; exact HE8.out.drewN q9
    clear hw HC8 HD8 HE8 HB8
    go_wp2_with (go_at_call 14; fail)
    refine (bools_same _ _ m _ HD9.out HE9.out).mono ?_
    rintro e wx ⟨rfl, qx, hw⟩
    have HBx : Hid (Below w.heap.size w wx) := by rw [hw]; exact below_drewN HB9.out qx
    clear hw HD9 HE9 HB9
    go_wp2
    go_ret
    exact ⟨rfl, HBx.out⟩
  · have HE : Hid (errV (chk l 1) = .iface 61 (.int .i64 (chk l 1))) := errV_pos hc
    clear hc HA2
    generalize hcn : chk l 1 = c at *
    have HCN : Hid (chk l 1 = c) := hcn
    clear hcn
    rw [HE.out]
    go_wp2_with (go_at_call 10; fail)
    refine (lru_any _ l 1 _ (HV.out.below HB2.out)).mono ?_
    rintro e w3 ⟨vb, lb, rfl, _, _, hb3⟩
    rw [HCN.out, HE.out]
    have HB3 : Hid (Below w.heap.size w w3) := HB2.out.trans (hb3.mono HB2.out.size)
    clear hb3
    go_wp2_with (go_at_call 11; fail)
    refine (clock_any _ l 1 _ (HV.out.below HB3.out)).mono ?_
    rintro e w4 ⟨vc, lc, rfl, _, _, hb4⟩
    rw [HCN.out, HE.out]
    have HB4 : Hid (Below w.heap.size w w4) := HB3.out.trans (hb4.mono HB3.out.size)
    generalize clockH l 1 = hh at *
    clear hb4
    go_wp2_with (go_at_call 12; fail)
    refine (flush_any _ l 1 _ (HV.out.below HB4.out)).mono ?_
    rintro e w5 ⟨vd, ld, rfl, _, _, hb5⟩
    rw [HCN.out, HE.out]
    have HB5 : Hid (Below w.heap.size w w5) := HB4.out.trans (hb5.mono HB4.out.size)
    clear hb5
    go_wp2_with (go_at_call 13; fail)
    refine (opt_any _ l 1 _ (HV.out.below HB5.out)).mono ?_
    rintro e w6 ⟨ve, lo, le, rfl, _, _, _, hb6⟩
    rw [HCN.out, HE.out]
    have HB6 : Hid (Below w.heap.size w w6) := HB5.out.trans (hb6.mono HB5.out.size)
    clear hb6
    go_wp2
    go_ret
    exact ⟨rfl, HB6.out⟩

theorem fifoOne_own : ownKnob Try.prog.godebug = none := by kernel_rfl
theorem fifoOne_laidOut : laidOutB Try.prog = true := by kernel_rfl

set_option maxRecDepth 100000 in
theorem fifoOne_lifted (os : Os) (started : os.Started) (H : Type) (enc : TypeId × Value → H) :
    ReturnsInHanded {} Try.checked os 3 .any (Rows.fifoOneSpec.pre6 enc Try.prog Try.f3 Rows.fifoOneRow.domain false) (Rows.fifoOneSpec.post enc Try.prog Try.f3 false true false false) := by
  refine returnsInHanded_of_change (C := Try.checked) fifoOne_own started (by kernel_rfl) Try.func3
    (ChangeSpec.witness6 (enc := enc) (C := Try.checked) false ⟨#[], #[.slice none 0 0], []⟩ 8 (by kernel_rfl) (by kernel_rfl) (by kernel_rfl) (by kernel_rfl)) ?_
  intro W base args ds gs before hval0 hW _ _
  have hval : ∀ (j : Nat) t v, Try.f3.params[j]? = some t → args[j]? = some v → Value.okWide Try.prog W .any base t v := hval0
  have hW' : DataW.Whole enc Try.prog Try.f3.params.toList Rows.fifoOneSpec.vars false W args.toList ds gs before := hW
  obtain ⟨p, q, hA0, hV, rfl, hfz, hnd⟩ := hW
  have hA : DataW.TrodAll enc Try.prog W 0 (fun _ => true) true Try.f3.params.toList args.toList ds p := hA0
  rw [Try.params3] at hA hval
  obtain ⟨v0, vs0, d0, ds0, p0, q0, hargs, rfl, rfl, h0, r0⟩ := trodAll_cons hA
  obtain ⟨rfl, rfl, rfl⟩ := trodAll_nil r0
  obtain rfl : args = #[v0] := by cases args; simp_all
  obtain ⟨rfl, rfl⟩ := trodVars_none hV
  obtain ⟨l0, ao0, cap0, hv0, hl0⟩ := arg_ints Try.underlying22 Try.underlying3 (by kernel_rfl) (hval 0 22 v0 rfl rfl) h0
  clear hA0 hval0
  refine (fifoOne_any v0 l0 W hl0 ⟨ao0, cap0, hv0⟩).mono fun e W' ⟨he, hb⟩ => ?_
  subst he
  exact ⟨_, rfl, law_post hW' hb fifoOne_laidOut rfl (by kernel_rfl) (by kernel_rfl) Try.underlying4 rfl rfl rfl⟩

theorem fifoOne_holds : Rows.FifoOneSaid :=
  OpenClaim.holds_of_wide 3 Try.f3 rfl rfl rfl rfl rfl rfl rfl ⟨rfl, rfl, rfl, rfl, rfl⟩ rfl rfl rfl rfl rfl (by kernel_rfl) Try.func3 (by kernel_rfl)
    (of_decide_eq_true (by kernel_rfl)) (by unfold Func.isWrapper; first | (rw [if_pos (by decide +kernel)]; kernel_rfl) | (rw [if_neg (by decide +kernel)]; exact ⟨rfl, rfl⟩))
    (fun os started H enc _ => fifoOne_lifted os started H enc)
end Go.Proofs.Ytkhjpelghlchnaa
