/- OptLeast is proved: for every list of requests, every number of slots and whatever is let go of, in whatever memory and on every schedule, it returns true and leaves its arguments as they were: nobody does better. No condition. -/
import Derived.Test.YtkhjpelghlchnaaOptFact
import Derived.Test.YtkhjpelghlchnaaSchedClock
import Derived.Test.YtkhjpelghlchnaaSchedPlay
import Derived.Test.YtkhjpelghlchnaaFifo
import Derived.Test.YtkhjpelghlchnaaLru
import Derived.Test.YtkhjpelghlchnaaClock3
import Derived.Test.YtkhjpelghlchnaaFlush
import Derived.Test.YtkhjpelghlchnaaRunAny
import Derived.Test.YtkhjpelghlchnaaLawkit
namespace Go.Proofs.Ytkhjpelghlchnaa
open Go.ChangeShapes Go.WideShapes Go.ChangeAt Go.RowKit Go.Sort

theorem least_all {l : List Int} {n : Nat} (h : chk l n = 0) : Hid (omiss n l ≤ missed (lruB l n) (lruB l n).length ∧ omiss n l ≤ missed (fifoB l n) (fifoB l n).length ∧ omiss n l ≤ missed (clockB l n) (clockB l n).length ∧ omiss n l ≤ missed (flushB l n) (flushB l n).length) := by
  obtain ⟨_, h1, _⟩ := chk_zero h
  have hn : 1 ≤ n := by omega
  have hp := chk_pages h
  unfold Hid
  rw [fifoB_ok h, lruB_ok h, clockB_ok h, flushB_ok h, Int.toNat_natCast]
  refine ⟨?_, ?_, ?_, ?_⟩
  · exact omiss_least hn hp (sched_lru hn l) (by rw [hits_lru]; exact missed_hcount _ _)
  · exact omiss_least hn hp (sched_fifo hn l) (by rw [hits_fifo]; exact missed_hcount _ _)
  · exact omiss_least hn hp (sched_clock hn l) (by rw [hits_clock]; exact missed_hcount _ _)
  · exact omiss_least hn hp (sched_flush hn l) (by rw [hits_flush]; exact missed_hcount _ _)
theorem least_play {l out : List Int} {n : Nat} (h : chk l n = 0) (h0 : (runS l n out).2.2 = 0) : omiss n l ≤ (runS l n out).1 := by
  obtain ⟨_, h1, _⟩ := chk_zero h
  unfold runS at h0 ⊢
  rw [if_pos h, Int.toNat_natCast] at h0 ⊢
  exact omiss_least (by omega) (chk_pages h) (sched_play (by omega) h0) (play_count h0)

set_option maxHeartbeats 2000000 in
theorem optLeast_any (v : Value) (l : List Int) (s : Int) (vo : Value) (out : List Int) (w : World) (hv : IsInts w v l) (_ : ∃ ao cap, v = .slice ao l.length cap) (hvo : IsInts w vo out) (_ : ∃ ao cap, vo = .slice ao out.length cap) :
    Calls Try.prog 4 #[v, .int .i64 s, vo] w fun e w' => e = .returned (.bool true) ∧ Below w.heap.size w w' := by
  have HV : Hid (IsInts w v l) := hv
  have HVO : Hid (IsInts w vo out) := hvo
  clear hv hvo
  go_enter Try.func4, Try.ntmps4
  go_wp2_with (first | (go_at_call 15; go_must (refine (later_any _).mono ?_; rintro e w1 ⟨rfl, hb1⟩)) | (go_at_call 13; fail))
  refine (opt_any _ l s _ (HV.out.below hb1)).mono ?_
  rintro e w2 ⟨va, vo2, vh2, rfl, hA, _, _, hb2⟩
  have HB2 : Hid (Below w.heap.size w w2) := hb1.trans (hb2.mono hb1.size)
  clear hb1 hb2
  by_cases hc : chk l s = 0
  · obtain ⟨h40, h1, h8⟩ := chk_zero hc
    obtain ⟨n, rfl⟩ : ∃ n : Nat, s = n := ⟨s.toNat, by omega⟩
    have HALL := least_all hc
    have HPL : Hid ((runS l n out).2.2 = 0 → omiss n l ≤ (runS l n out).1) := least_play hc
    have HC : Hid (chk l n = 0) := hc
    have HO : Hid (missed (optB l n) (optB l n).length = omiss n l) := by unfold Hid; rw [optB_ok hc, Int.toNat_natCast]; rfl
    have HA2 : Hid (IsBools w2 va (optB l n)) := hA.isBools
    rw [HC.out, show errV 0 = .nilIface from rfl]
    clear hc hA
    go_wp2_with (first | (go_at_call 16; go_must (refine (misses_any _ _ _ HA2.out).mono ?_; rintro e w' ⟨rfl, hw⟩; have hw := hw.symm; subst hw; rw [HO.out])) | (go_at_call 17; fail))
    generalize omiss n l = best at *
    refine (run_any _ _ l out n _ (HV.out.below HB2.out) (HVO.out.below HB2.out)).mono ?_
    rintro e w3 ⟨vh3, rfl, _, hb3⟩
    have HB3 : Hid (Below w.heap.size w w3) := HB2.out.trans (hb3.mono HB2.out.size)
    clear hb3 HA2
    generalize hr1 : (runS l n out).1 = r1 at *
    generalize hr2 : (runS l n out).2.2 = r2 at *
    clear hr1 hr2
    go_wp2_with (go_at_call 10; fail)
    refine (lru_any _ l n _ (HV.out.below HB3.out)).mono ?_
    rintro e w4 ⟨vb, lb, rfl, hB, _, hb4⟩
    rw [HC.out, show errV 0 = .nilIface from rfl]
    have HB4 : Hid (Below w.heap.size w w4) := HB3.out.trans (hb4.mono HB3.out.size)
    have HL4 : Hid (IsBools w4 vb (lruB l n)) := hB.isBools
    clear hB hb4
    go_wp2_with (go_at_call 9; fail)
    refine (fifo_any _ l n _ (HV.out.below HB4.out)).mono ?_
    rintro e w5 ⟨vc, lc, rfl, hB, _, hb5⟩
    rw [HC.out, show errV 0 = .nilIface from rfl]
    have HB5 : Hid (Below w.heap.size w w5) := HB4.out.trans (hb5.mono HB4.out.size)
    have HL5 : Hid (IsBools w5 vb (lruB l n)) := HL4.out.below hb5
    have HF5 : Hid (IsBools w5 vc (fifoB l n)) := hB.isBools
    clear hB hb5 HL4
    go_wp2_with (go_at_call 11; fail)
    refine (clock_any _ l n _ (HV.out.below HB5.out)).mono ?_
    rintro e w6 ⟨vd, ld, rfl, hB, _, hb6⟩
    rw [HC.out, show errV 0 = .nilIface from rfl]
    have HB6 : Hid (Below w.heap.size w w6) := HB5.out.trans (hb6.mono HB5.out.size)
    have HL6 : Hid (IsBools w6 vb (lruB l n)) := HL5.out.below hb6
    have HF6 : Hid (IsBools w6 vc (fifoB l n)) := HF5.out.below hb6
    have HK6 : Hid (IsBools w6 vd (clockB l n)) := hB.isBools
    generalize clockH l n = hh at *
    clear hB hb6 HL5 HF5
    go_wp2_with (go_at_call 12; fail)
    refine (flush_any _ l n _ (HV.out.below HB6.out)).mono ?_
    rintro e w7 ⟨ve, le, rfl, hB, _, hb7⟩
    rw [HC.out, show errV 0 = .nilIface from rfl]
    have HB7 : Hid (Below w.heap.size w w7) := HB6.out.trans (hb7.mono HB6.out.size)
    have HL7 : Hid (IsBools w7 vb (lruB l n)) := HL6.out.below hb7
    have HF7 : Hid (IsBools w7 vc (fifoB l n)) := HF6.out.below hb7
    have HK7 : Hid (IsBools w7 vd (clockB l n)) := HK6.out.below hb7
    have HU7 : Hid (IsBools w7 ve (flushB l n)) := hB.isBools
    clear hB hb7 HL6 HF6 HK6
    generalize hma : missed (lruB l n) (lruB l n).length = ma at HALL
    generalize hmb : missed (fifoB l n) (fifoB l n).length = mb at HALL
    generalize hmc : missed (clockB l n) (clockB l n).length = mc at HALL
    generalize hmd : missed (flushB l n) (flushB l n).length = md at HALL
    have HMA : Hid (missed (lruB l n) (lruB l n).length = ma) := hma
    have HMB : Hid (missed (fifoB l n) (fifoB l n).length = mb) := hmb
    have HMC : Hid (missed (clockB l n) (clockB l n).length = mc) := hmc
    have HMD : Hid (missed (flushB l n) (flushB l n).length = md) := hmd
    clear hma hmb hmc hmd HO
    have h1 : (best : Int) ≤ (ma : Int) := by have := HALL.out.1; omega
    have h2 : (best : Int) ≤ (mb : Int) := by have := HALL.out.2.1; omega
    have h3 : (best : Int) ≤ (mc : Int) := by have := HALL.out.2.2.1; omega
    have h4 : (best : Int) ≤ (md : Int) := by have := HALL.out.2.2.2; omega
    have hsplit : errV r2 = .nilIface ∧ (best : Int) ≤ (r1 : Int) ∨ ∃ m : Int, errV r2 = .iface 61 (.int .i64 m) := by
      by_cases h : r2 = 0
      · exact .inl ⟨by rw [h]; rfl, by have := HPL.out h; omega⟩
      · exact .inr ⟨_, errV_pos h⟩
    clear HPL HALL HC
    rcases hsplit with ⟨hs, hle⟩ | ⟨m, hs⟩
    all_goals
      rw [hs]
      clear hs
      go_wp2_with (go_at_call 16; fail)
      refine (misses_any _ _ _ HL7.out).mono ?_
      rintro e w' ⟨rfl, hw⟩
      have hw := hw.symm
      subst hw
      rw [HMA.out]
      go_wp2_with (go_at_call 16; fail)
      refine (misses_any _ _ _ HF7.out).mono ?_
      rintro e w' ⟨rfl, hw⟩
      have hw := hw.symm
      subst hw
      rw [HMB.out]
      go_wp2_with (go_at_call 16; fail)
      refine (misses_any _ _ _ HK7.out).mono ?_
      rintro e w' ⟨rfl, hw⟩
      have hw := hw.symm
      subst hw
      rw [HMC.out]
      go_wp2_with (go_at_call 16; fail)
      refine (misses_any _ _ _ HU7.out).mono ?_
      rintro e w' ⟨rfl, hw⟩
      have hw := hw.symm
      subst hw
      rw [HMD.out]
      go_wp2
      go_ret
      exact ⟨rfl, HB7.out⟩
  · have HE : Hid (errV (chk l s) = .iface 61 (.int .i64 (chk l s))) := errV_pos hc
    obtain ⟨aa, ca, hva⟩ := hA.form
    rw [optB_bad hc] at hva
    simp only [List.length_nil] at hva
    subst hva
    clear hc hA
    generalize chk l s = c at *
    rw [HE.out]
    go_wp2
    go_ret
    exact ⟨rfl, HB2.out⟩

theorem optLeast_own : ownKnob Try.prog.godebug = none := by kernel_rfl
theorem optLeast_laidOut : laidOutB Try.prog = true := by kernel_rfl

set_option maxRecDepth 100000 in
theorem optLeast_lifted (os : Os) (started : os.Started) (H : Type) (enc : TypeId × Value → H) :
    ReturnsInHanded {} Try.checked os 4 .any (Rows.optLeastSpec.pre6 enc Try.prog Try.f4 Rows.optLeastRow.domain false) (Rows.optLeastSpec.post enc Try.prog Try.f4 false true false false) := by
  refine returnsInHanded_of_change (C := Try.checked) optLeast_own started (by kernel_rfl) Try.func4
    (ChangeSpec.witness6 (enc := enc) (C := Try.checked) false ⟨#[], #[.slice none 0 0, .int .i64 0, .slice none 0 0], []⟩ 8 (by kernel_rfl) (by kernel_rfl) (by kernel_rfl) (by kernel_rfl)) ?_
  intro W base args ds gs before hval0 hW _ _
  have hval : ∀ (j : Nat) t v, Try.f4.params[j]? = some t → args[j]? = some v → Value.okWide Try.prog W .any base t v := hval0
  have hW' : DataW.Whole enc Try.prog Try.f4.params.toList Rows.optLeastSpec.vars false W args.toList ds gs before := hW
  obtain ⟨p, q, hA0, hV, rfl, hfz, hnd⟩ := hW
  have hA : DataW.TrodAll enc Try.prog W 0 (fun _ => true) true Try.f4.params.toList args.toList ds p := hA0
  rw [Try.params4] at hA hval
  obtain ⟨v0, vs0, d0, ds0, p0, q0, hargs, rfl, rfl, h0, r0⟩ := trodAll_cons hA
  obtain ⟨v1, vs1, d1, ds1, p1, q1, rfl, rfl, rfl, h1, r1⟩ := trodAll_cons r0
  obtain ⟨v2, vs2, d2, ds2, p2, q2, rfl, rfl, rfl, h2, r2⟩ := trodAll_cons r1
  obtain ⟨rfl, rfl, rfl⟩ := trodAll_nil r2
  obtain rfl : args = #[v0, v1, v2] := by cases args; simp_all
  obtain ⟨rfl, rfl⟩ := trodVars_none hV
  obtain ⟨n1, rfl, rfl, rfl, wn1⟩ := open_int Try.underlying3 (hval 1 3 v1 rfl rfl) h1
  obtain ⟨l0, ao0, cap0, hv0, hl0⟩ := arg_ints Try.underlying22 Try.underlying3 (by kernel_rfl) (hval 0 22 v0 rfl rfl) h0
  obtain ⟨l2, ao2, cap2, hv2, hl2⟩ := arg_ints Try.underlying22 Try.underlying3 (by kernel_rfl) (hval 2 22 v2 rfl rfl) h2
  clear hA0 hval0
  refine (optLeast_any v0 l0 n1 v2 l2 W hl0 ⟨ao0, cap0, hv0⟩ hl2 ⟨ao2, cap2, hv2⟩).mono fun e W' ⟨he, hb⟩ => ?_
  subst he
  exact ⟨_, rfl, law_post hW' hb optLeast_laidOut rfl (by kernel_rfl) (by kernel_rfl) Try.underlying4 rfl rfl rfl⟩

theorem optLeast_holds : Rows.OptLeastSaid :=
  OpenClaim.holds_of_wide 4 Try.f4 rfl rfl rfl rfl rfl rfl rfl ⟨rfl, rfl, rfl, rfl, rfl⟩ rfl rfl rfl rfl rfl (by kernel_rfl) Try.func4 (by kernel_rfl)
    (of_decide_eq_true (by kernel_rfl)) (by unfold Func.isWrapper; first | (rw [if_pos (by decide +kernel)]; kernel_rfl) | (rw [if_neg (by decide +kernel)]; exact ⟨rfl, rfl⟩))
    (fun os started H enc _ => optLeast_lifted os started H enc)
end Go.Proofs.Ytkhjpelghlchnaa
