/- OptPlays is proved: for every list of requests and every number of slots, in whatever memory and on every schedule, it returns true and leaves its argument as it was: what is let go of may be, and played so a page is not there as often. No condition. -/
import Derived.Test.YtkhjpelghlchnabOptFact
import Derived.Test.YtkhjpelghlchnabOptPlayL
import Derived.Test.YtkhjpelghlchnabRunAny
import Derived.Test.YtkhjpelghlchnabInts
import Derived.Test.YtkhjpelghlchnabLawkit
namespace Go.Proofs.Ytkhjpelghlchnab
open Go.ChangeShapes Go.WideShapes Go.ChangeAt Go.RowKit Go.Sort

theorem plays_all {l : List Int} {n : Nat} (h : chk l n = 0) : Hid ((runS l n (optO l n)).1 = omiss n l ∧ (runS l n (optO l n)).2.1 = optL l n ∧ (runS l n (optO l n)).2.2 = 0 ∧ (optO l n).length + (optL l n).length = omiss n l ∧ omiss n l ≤ 40) := by
  obtain ⟨h40, h1, _⟩ := chk_zero h
  have hn : 1 ≤ n := by omega
  have hp := chk_pages h
  have e := opt_play hn hp
  have c1 := ost_count hn hp l.length (Nat.le_refl _)
  have c2 := omiss_count n l
  unfold Hid runS
  rw [if_pos h, optO_ok h, optL_ok h, Int.toNat_natCast, e, srt_length]
  exact ⟨rfl, rfl, rfl, by omega, by omega⟩

set_option maxHeartbeats 2000000 in
theorem optPlays_any (v : Value) (l : List Int) (s : Int) (w : World) (hv : IsInts w v l) (_ : ∃ ao cap, v = .slice ao l.length cap) :
    Calls Try.prog 3 #[v, .int .i64 s] w fun e w' => e = .returned (.bool true) ∧ Below w.heap.size w w' := by
  have HV : Hid (IsInts w v l) := hv
  clear hv
  go_enter Try.func3, Try.ntmps3
  go_wp2_with (first | (go_at_call 4; go_must (refine (later_any _).mono ?_; rintro e w1 ⟨rfl, hb1⟩)) | (go_at_call 5; fail))
  refine (opt_any _ l s _ (HV.out.below hb1)).mono ?_
  rintro e w2 ⟨va, vo, vh, rfl, hA, hO, hL, hb2⟩
  have HB2 : Hid (Below w.heap.size w w2) := hb1.trans (hb2.mono hb1.size)
  have HA2 : Hid (IsBools w2 va (optB l s)) := hA.isBools
  have HO2 : Hid (IsInts w2 vo (optO l s)) := hO.isInts
  have HL2 : Hid (IsInts w2 vh (optL l s)) := hL.isInts
  obtain ⟨ao, co, hvo⟩ := hO.form
  obtain ⟨ah, ch, hvh⟩ := hL.form
  generalize hno : (optO l s).length = no at *
  generalize hnh : (optL l s).length = nh at *
  have HNO : Hid ((optO l s).length = no) := hno
  have HNH : Hid ((optL l s).length = nh) := hnh
  subst hvo hvh
  clear hb1 hb2 hA hO hL hno hnh
  by_cases hc : chk l s = 0
  · obtain ⟨h40, h1, h8⟩ := chk_zero hc
    obtain ⟨n, rfl⟩ : ∃ n : Nat, s = n := ⟨s.toNat, by omega⟩
    have HALL := plays_all hc
    have HC : Hid (chk l n = 0) := hc
    have HM : Hid (missed (optB l n) (optB l n).length = omiss n l) := by unfold Hid; rw [optB_ok hc, Int.toNat_natCast]; rfl
    rw [HC.out, show errV 0 = .nilIface from rfl]
    clear hc
    go_wp2_with (go_at_call 6; fail)
    refine (run_any _ _ l (optO l n) n _ (HV.out.below HB2.out) HO2.out).mono ?_
    rintro e w3 ⟨vm, rfl, hM, hb3⟩
    have HB3 : Hid (Below w.heap.size w w3) := HB2.out.trans (hb3.mono HB2.out.size)
    have HA3 : Hid (IsBools w3 va (optB l n)) := HA2.out.below hb3
    have HL3 : Hid (IsInts w3 (.slice ah nh ch) (optL l n)) := HL2.out.below hb3
    have HN3 : Hid (IsInts w3 vm (optL l n)) := by have := hM.isInts; rwa [HALL.out.2.1] at this
    rw [HALL.out.1, HALL.out.2.2.1, show errV 0 = .nilIface from rfl]
    clear hM hb3 HA2 HL2 HO2
    have hsum := HALL.out.2.2.2.1
    have hbest := HALL.out.2.2.2.2
    rw [HNO.out, HNH.out] at hsum
    clear HALL
    generalize omiss n l = best at *
    go_wp2_with (go_at_call 7; fail)
    refine (misses_any _ _ _ HA3.out).mono ?_
    rintro e w' ⟨rfl, hw⟩
    have hw := hw.symm
    subst hw
    rw [HM.out]
    go_wp2_with (go_at_call 8; fail)
    refine (ints_same _ _ (optL l n) _ HL3.out HN3.out).mono ?_
    rintro e w4 ⟨rfl, q, hw⟩
    have HB4 : Hid (Below w.heap.size w w4) := by rw [hw]; exact below_drewN HB3.out q
    have hsi : (no : Int) + (nh : Int) = (best : Int) := by omega
    clear hw
    go_wp2
    go_ret
    exact ⟨rfl, HB4.out⟩
  · have HE : Hid (errV (chk l s) = .iface 43 (.int .i64 (chk l s))) := errV_pos hc
    have HR : Hid (runS l s (optO l s) = (0, [], chk l s)) := by unfold Hid runS; rw [if_neg hc]
    clear hc HA2 HL2
    rw [HE.out]
    go_wp2_with (go_at_call 6; fail)
    refine (run_any _ _ l (optO l s) s _ (HV.out.below HB2.out) HO2.out).mono ?_
    rintro e w3 ⟨vm, rfl, hM, hb3⟩
    have HB3 : Hid (Below w.heap.size w w3) := HB2.out.trans (hb3.mono HB2.out.size)
    rw [HR.out, HE.out]
    clear hM hb3
    generalize chk l s = c at *
    go_wp2
    go_ret
    exact ⟨rfl, HB3.out⟩

theorem optPlays_own : ownKnob Try.prog.godebug = none := by kernel_rfl
theorem optPlays_laidOut : laidOutB Try.prog = true := by kernel_rfl

set_option maxRecDepth 100000 in
theorem optPlays_lifted (os : Os) (started : os.Started) (H : Type) (enc : TypeId × Value → H) :
    ReturnsInHanded {} Try.checked os 3 .any (Rows.optPlaysSpec.pre6 enc Try.prog Try.f3 Rows.optPlaysRow.domain false) (Rows.optPlaysSpec.post enc Try.prog Try.f3 false true false false) := by
  refine returnsInHanded_of_change (C := Try.checked) optPlays_own started (by kernel_rfl) Try.func3
    (ChangeSpec.witness6 (enc := enc) (C := Try.checked) false ⟨#[], #[.slice none 0 0, .int .i64 0], []⟩ 8 (by kernel_rfl) (by kernel_rfl) (by kernel_rfl) (by kernel_rfl)) ?_
  intro W base args ds gs before hval0 hW _ _
  have hval : ∀ (j : Nat) t v, Try.f3.params[j]? = some t → args[j]? = some v → Value.okWide Try.prog W .any base t v := hval0
  have hW' : DataW.Whole enc Try.prog Try.f3.params.toList Rows.optPlaysSpec.vars false W args.toList ds gs before := hW
  obtain ⟨p, q, hA0, hV, rfl, hfz, hnd⟩ := hW
  have hA : DataW.TrodAll enc Try.prog W 0 (fun _ => true) true Try.f3.params.toList args.toList ds p := hA0
  rw [Try.params3] at hA hval
  obtain ⟨v0, vs0, d0, ds0, p0, q0, hargs, rfl, rfl, h0, r0⟩ := trodAll_cons hA
  obtain ⟨v1, vs1, d1, ds1, p1, q1, rfl, rfl, rfl, h1, r1⟩ := trodAll_cons r0
  obtain ⟨rfl, rfl, rfl⟩ := trodAll_nil r1
  obtain rfl : args = #[v0, v1] := by cases args; simp_all
  obtain ⟨rfl, rfl⟩ := trodVars_none hV
  obtain ⟨n1, rfl, rfl, rfl, wn1⟩ := open_int Try.underlying3 (hval 1 3 v1 rfl rfl) h1
  obtain ⟨l0, ao0, cap0, hv0, hl0⟩ := arg_ints Try.underlying22 Try.underlying3 (by kernel_rfl) (hval 0 22 v0 rfl rfl) h0
  clear hA0 hval0
  refine (optPlays_any v0 l0 n1 W hl0 ⟨ao0, cap0, hv0⟩).mono fun e W' ⟨he, hb⟩ => ?_
  subst he
  exact ⟨_, rfl, law_post hW' hb optPlays_laidOut rfl (by kernel_rfl) (by kernel_rfl) Try.underlying4 rfl rfl rfl⟩

theorem optPlays_holds : Rows.OptPlaysSaid :=
  OpenClaim.holds_of_wide 3 Try.f3 rfl rfl rfl rfl rfl rfl rfl ⟨rfl, rfl, rfl, rfl, rfl⟩ rfl rfl rfl rfl rfl (by kernel_rfl) Try.func3 (by kernel_rfl)
    (of_decide_eq_true (by kernel_rfl)) (by unfold Func.isWrapper; first | (rw [if_pos (by decide +kernel)]; kernel_rfl) | (rw [if_neg (by decide +kernel)]; exact ⟨rfl, rfl⟩))
    (fun os started H enc _ => optPlays_lifted os started H enc)
end Go.Proofs.Ytkhjpelghlchnab
