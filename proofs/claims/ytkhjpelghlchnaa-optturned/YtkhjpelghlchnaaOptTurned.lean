/- OptTurned is proved: for every list of requests and every number of slots, in whatever memory and on every schedule, it returns true and leaves its argument as it was: from the end it costs as much. No condition. -/
import Derived.Test.YtkhjpelghlchnaaOptFact
import Derived.Test.YtkhjpelghlchnaaTurnedR
import Derived.Test.YtkhjpelghlchnaaCame
import Derived.Test.YtkhjpelghlchnaaLawkit
namespace Go.Proofs.Ytkhjpelghlchnaa
open Go.ChangeShapes Go.WideShapes Go.ChangeAt Go.RowKit Go.Sort

theorem chk_turned (l : List Int) (s : Int) : chk l.reverse s = chk l s := by
  unfold chk
  rw [List.length_reverse, List.any_reverse]

set_option maxHeartbeats 1000000 in
theorem optTurned_any (v : Value) (l : List Int) (s : Int) (w : World) (hv : IsInts w v l) (hform : ∃ ao cap, v = .slice ao l.length cap) (hlen : l.length * 8 ≤ 140737488351232) :
    Calls Try.prog 6 #[v, .int .i64 s] w fun e w' => e = .returned (.bool true) ∧ Below w.heap.size w w' := by
  have HV : Hid (IsInts w v l) := hv
  have HF : Hid (∃ ao cap, v = .slice ao l.length cap) := hform
  clear hv hform
  go_enter Try.func6, Try.ntmps6
  go_wp2_with (first | (go_at_call 15; go_must (refine (later_any _).mono ?_; rintro e w1 ⟨rfl, hb1⟩)) | (go_at_call 13; fail))
  refine (opt_any _ l s _ (HV.out.below hb1)).mono ?_
  rintro e w2 ⟨va, _, _, rfl, hA, _, _, hb2⟩
  have HB2 : Hid (Below w.heap.size w w2) := hb1.trans (hb2.mono hb1.size)
  have HA2 : Hid (IsBools w2 va (optB l s)) := hA.isBools
  clear hA hb1 hb2
  have HCT : Hid (chk l.reverse s = chk l s) := chk_turned l s
  by_cases hc : chk l s = 0
  · have HC : Hid (chk l s = 0) := hc
    obtain ⟨h40, h1, h8⟩ := chk_zero hc
    have HPG : Hid (inPages l) := chk_pages hc
    obtain ⟨n, rfl⟩ : ∃ n : Nat, s = n := ⟨s.toNat, by omega⟩
    rw [optB_ok hc, Int.toNat_natCast] at HA2
    rw [HC.out, show errV 0 = .nilIface from rfl]
    clear hc
    go_wp2_with (first | (go_at_call 19; go_must (refine (turned_any _ l _ (HV.out.below HB2.out) HF.out (by omega)).mono ?_; rintro e w3 ⟨vr, rfl, hR, hb3⟩; have HR : Hid (IsInts w3 vr l.reverse) := hR.isInts; have HB3 : Hid (Below w2.heap.size w2 w3) := hb3; clear hR hb3)) | (go_at_call 13; fail))
    refine (opt_any _ l.reverse n _ HR.out).mono ?_
    rintro e w4 ⟨vb, _, _, rfl, hB, _, _, hb4⟩
    rw [HCT.out, HC.out, show errV 0 = .nilIface from rfl]
    rw [optB_ok (by rw [HCT.out]; exact HC.out), Int.toNat_natCast] at hB
    have HB4 : Hid (Below w2.heap.size w2 w4) := HB3.out.trans (hb4.mono HB3.out.size)
    have HBW : Hid (Below w.heap.size w w4) := HB2.out.trans (HB4.out.mono HB2.out.size)
    have HA4 : Hid (IsBools w4 va (marks (ohit n l) l.length)) := HA2.out.below HB4.out
    have HBB : Hid (IsBools w4 vb (marks (ohit n l.reverse) l.reverse.length)) := hB.isBools
    have HM : Hid (omiss n l.reverse = omiss n l) := omiss_turned (by omega) HPG.out
    have HDA : Hid (missed (marks (ohit n l) l.length) (marks (ohit n l) l.length).length = omiss n l) := rfl
    have HDB : Hid (missed (marks (ohit n l.reverse) l.reverse.length) (marks (ohit n l.reverse) l.reverse.length).length = omiss n l) := HM.out
    clear hB hb4 HA2 HR HB3 HM
    generalize omiss n l = ma at *
    go_wp2_with (go_at_call 16; fail)
    refine (misses_any _ _ _ HA4.out).mono ?_
    rintro e w5 ⟨rfl, hw⟩
    have hw := hw.symm
    subst hw
    rw [HDA.out]
    go_wp2_with (go_at_call 16; fail)
    refine (misses_any _ _ _ HBB.out).mono ?_
    rintro e w5 ⟨rfl, hw⟩
    have hw := hw.symm
    subst hw
    rw [HDB.out]
    go_wp2
    go_ret
    exact ⟨rfl, HBW.out⟩
  · have HE : Hid (errV (chk l s) = .iface 61 (.int .i64 (chk l s))) := errV_pos hc
    clear hc
    generalize chk l s = c at *
    rw [HE.out]
    go_wp2_with (first | (go_at_call 19; go_must (refine (turned_any _ l _ (HV.out.below HB2.out) HF.out (by omega)).mono ?_; rintro e w3 ⟨vr, rfl, hR, hb3⟩; have HR : Hid (IsInts w3 vr l.reverse) := hR.isInts; have HB3 : Hid (Below w2.heap.size w2 w3) := hb3; clear hR hb3)) | (go_at_call 13; fail))
    refine (opt_any _ l.reverse s _ HR.out).mono ?_
    rintro e w4 ⟨vb, _, _, rfl, hB, _, _, hb4⟩
    rw [HCT.out, HE.out]
    have HB4 : Hid (Below w2.heap.size w2 w4) := HB3.out.trans (hb4.mono HB3.out.size)
    have HBW : Hid (Below w.heap.size w w4) := HB2.out.trans (HB4.out.mono HB2.out.size)
    clear hB hb4
    go_wp2
    go_ret
    exact ⟨rfl, HBW.out⟩

theorem optTurned_own : ownKnob Try.prog.godebug = none := by kernel_rfl
theorem optTurned_laidOut : laidOutB Try.prog = true := by kernel_rfl

set_option maxRecDepth 100000 in
theorem optTurned_lifted (os : Os) (started : os.Started) (H : Type) (enc : TypeId × Value → H) :
    ReturnsInHanded {} Try.checked os 6 .any (Rows.optTurnedSpec.pre6 enc Try.prog Try.f6 Rows.optTurnedRow.domain false) (Rows.optTurnedSpec.post enc Try.prog Try.f6 false true false false) := by
  refine returnsInHanded_of_change_sized (C := Try.checked) optTurned_own started (by kernel_rfl) Try.func6
    (ChangeSpec.witness6 (enc := enc) (C := Try.checked) false ⟨#[], #[.slice none 0 0, .int .i64 0], []⟩ 8 (by kernel_rfl) (by kernel_rfl) (by kernel_rfl) (by kernel_rfl)) ?_
  intro W base args ds gs before hval0 hW _ hsz0 _
  have hval : ∀ (j : Nat) t v, Try.f6.params[j]? = some t → args[j]? = some v → Value.okWide Try.prog W .any base t v := hval0
  have hW' : DataW.Whole enc Try.prog Try.f6.params.toList Rows.optTurnedSpec.vars false W args.toList ds gs before := hW
  obtain ⟨p, q, hA0, hV, rfl, hfz, hnd⟩ := hW
  have hA : DataW.TrodAll enc Try.prog W 0 (fun _ => true) true Try.f6.params.toList args.toList ds p := hA0
  rw [Try.params6] at hA hval
  obtain ⟨v0, vs0, d0, ds0, p0, q0, hargs, rfl, rfl, h0, r0⟩ := trodAll_cons hA
  obtain ⟨v1, vs1, d1, ds1, p1, q1, rfl, rfl, rfl, h1, r1⟩ := trodAll_cons r0
  obtain ⟨rfl, rfl, rfl⟩ := trodAll_nil r1
  obtain rfl : args = #[v0, v1] := by cases args; simp_all
  obtain ⟨rfl, rfl⟩ := trodVars_none hV
  obtain ⟨n1, rfl, rfl, rfl, wn1⟩ := open_int Try.underlying3 (hval 1 3 v1 rfl rfl) h1
  obtain ⟨l0, hl0, hc0, hr0⟩ := arg_came (ts := Try.f6.params.toList ++ Rows.optTurnedSpec.plain.varTypes Try.prog) hsz0 (j := 0) rfl rfl (hval 0 22 v0 rfl rfl) h0
  clear hA0 hval0
  refine (optTurned_any v0 l0 n1 W hl0 hc0.form hr0).mono fun e W' ⟨he, hb⟩ => ?_
  subst he
  exact ⟨_, rfl, law_post hW' hb optTurned_laidOut rfl (by kernel_rfl) (by kernel_rfl) Try.underlying4 rfl rfl rfl⟩

theorem optTurned_holds : Rows.OptTurnedSaid :=
  OpenClaim.holds_of_wide 6 Try.f6 rfl rfl rfl rfl rfl rfl rfl ⟨rfl, rfl, rfl, rfl, rfl⟩ rfl rfl rfl rfl rfl (by kernel_rfl) Try.func6 (by kernel_rfl)
    (of_decide_eq_true (by kernel_rfl)) (by unfold Func.isWrapper; first | (rw [if_pos (by decide +kernel)]; kernel_rfl) | (rw [if_neg (by decide +kernel)]; exact ⟨rfl, rfl⟩))
    (fun os started H enc _ => optTurned_lifted os started H enc)
end Go.Proofs.Ytkhjpelghlchnaa
