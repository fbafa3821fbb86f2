/- OptMore is proved: for every list of requests and every number of slots, in whatever memory and on every schedule, it returns true and leaves its argument as it was: more slots are no worse, and each page comes once at least. No condition. -/
import Derived.Test.YtkhjpelghlchnaaOptFact
import Derived.Test.YtkhjpelghlchnaaAllIn
import Derived.Test.YtkhjpelghlchnaaSome
import Derived.Test.YtkhjpelghlchnaaLawkit
namespace Go.Proofs.Ytkhjpelghlchnaa
open Go.ChangeShapes Go.WideShapes Go.ChangeAt Go.RowKit Go.Sort

theorem omiss_firsts {s : Nat} {l : List Int} (hs : 1 ≤ s) (hl : inPages l) : firsts l l.length ≤ omiss s l :=
  missed_ge fun i hi h => seen_iff.2 (first_miss (sched_opt hs hl) i (by omega) _ (List.contains_iff_mem.1 h))

set_option maxHeartbeats 1000000 in
theorem optMore_any (v : Value) (l : List Int) (s : Int) (w : World) (hv : IsInts w v l) (_ : ∃ ao cap, v = .slice ao l.length cap) :
    Calls Try.prog 5 #[v, .int .i64 s] w fun e w' => e = .returned (.bool true) ∧ Below w.heap.size w w' := by
  have HV : Hid (IsInts w v l) := hv
  clear hv
  go_enter Try.func5, Try.ntmps5
  go_wp2_with (first | (go_at_call 15; go_must (refine (later_any _).mono ?_; rintro e w1 ⟨rfl, hb1⟩)) | (go_at_call 13; fail))
  refine (opt_any _ l s _ (HV.out.below hb1)).mono ?_
  rintro e w2 ⟨va, _, _, rfl, hA, _, _, hb2⟩
  have HB2 : Hid (Below w.heap.size w w2) := hb1.trans (hb2.mono hb1.size)
  have HA2 : Hid (IsBools w2 va (optB l s)) := hA.isBools
  clear hA hb1 hb2
  by_cases hc : chk l s = 0
  · have HC : Hid (chk l s = 0) := hc
    obtain ⟨h40, h1, h8⟩ := chk_zero hc
    have HPG : Hid (inPages l) := chk_pages hc
    obtain ⟨n, rfl⟩ : ∃ n : Nat, s = n := ⟨s.toNat, by omega⟩
    have hwr : IntKind.i64.wrap ((n : Int) + 1) = (n : Int) + 1 := by rw [IntKind.wrap_i64]; omega
    have HBA : Hid (optB l n = marks (ohit n l) l.length) := by unfold Hid; rw [optB_ok hc, Int.toNat_natCast]
    rw [HBA.out] at HA2
    rw [HC.out, show errV 0 = .nilIface from rfl]
    clear hc
    go_wp2_with (go_at_call 13; fail)
    refine (opt_any _ l (n + 1) _ (HV.out.below HB2.out)).mono ?_
    rintro e w3 ⟨vb, _, _, rfl, hB, _, _, hb3⟩
    have HB3 : Hid (Below w.heap.size w w3) := HB2.out.trans (hb3.mono HB2.out.size)
    have HA3 : Hid (IsBools w3 va (marks (ohit n l) l.length)) := HA2.out.below hb3
    have HV3 : Hid (IsInts w3 v l) := HV.out.below HB3.out
    by_cases hc1 : chk l ((n : Int) + 1) = 0
    · have HC1 : Hid (chk l ((n : Int) + 1) = 0) := hc1
      have hnn : ((n : Int) + 1).toNat = n + 1 := by omega
      have HBB : Hid (IsBools w3 vb (marks (ohit (n+1) l) l.length)) := by
        have := hB.isBools
        rwa [optB_ok hc1, hnn] at this
      have HM : Hid (omiss (n+1) l ≤ omiss n l) := omiss_more (by omega) HPG.out
      have HG : Hid (firsts l l.length ≤ omiss (n+1) l) := omiss_firsts (by omega) HPG.out
      have HDA : Hid (missed (marks (ohit n l) l.length) (marks (ohit n l) l.length).length = omiss n l) := rfl
      have HDB : Hid (missed (marks (ohit (n+1) l) l.length) (marks (ohit (n+1) l) l.length).length = omiss (n+1) l) := rfl
      rw [HC1.out, show errV 0 = .nilIface from rfl]
      clear hc1 hB hb3 HA2
      generalize omiss n l = ma at *
      generalize omiss (n+1) l = mb at *
      have hm1 : (mb : Int) ≤ (ma : Int) := by have := HM.out; omega
      go_wp2_with (go_at_call 16; fail)
      refine (misses_any _ _ _ HBB.out).mono ?_
      rintro e w4 ⟨rfl, hw⟩
      have hw := hw.symm
      subst hw
      rw [HDB.out]
      go_wp2_with (go_at_call 16; fail)
      refine (misses_any _ _ _ HA3.out).mono ?_
      rintro e w4 ⟨rfl, hw⟩
      have hw := hw.symm
      subst hw
      rw [HDA.out]
      go_wp2_with (go_at_call 16; fail)
      refine (misses_any _ _ _ HBB.out).mono ?_
      rintro e w4 ⟨rfl, hw⟩
      have hw := hw.symm
      subst hw
      rw [HDB.out]
      go_wp2_with (go_at_call 18; fail)
      refine (some_any _ l _ HV3.out).mono ?_
      rintro e w5 ⟨rfl, q, hw5⟩
      have HB5 : Hid (Below w.heap.size w w5) := by rw [hw5]; exact below_drewN HB3.out q
      clear hw5
      generalize firsts l l.length = f at *
      have hm2 : (f : Int) ≤ (mb : Int) := by have := HG.out; omega
      go_wp2
      go_ret
      exact ⟨rfl, HB5.out⟩
    · have HE : Hid (errV (chk l ((n : Int) + 1)) = .iface 61 (.int .i64 (chk l ((n : Int) + 1)))) := errV_pos hc1
      clear hc1 hB hb3
      generalize chk l ((n : Int) + 1) = c1 at *
      rw [HE.out]
      go_wp2
      go_ret
      exact ⟨rfl, HB3.out⟩
  · have HE : Hid (errV (chk l s) = .iface 61 (.int .i64 (chk l s))) := errV_pos hc
    clear hc
    generalize chk l s = c at *
    rw [HE.out]
    go_wp2_with (go_at_call 13; fail)
    generalize wrap64 (s + 1) = s1 at *
    refine (opt_any _ l s1 _ (HV.out.below HB2.out)).mono ?_
    rintro e w3 ⟨vb, _, _, rfl, hB, _, _, hb3⟩
    have HB3 : Hid (Below w.heap.size w w3) := HB2.out.trans (hb3.mono HB2.out.size)
    clear hB hb3
    generalize errV (chk l s1) = ev at *
    go_wp2
    go_ret
    exact ⟨rfl, HB3.out⟩

theorem optMore_own : ownKnob Try.prog.godebug = none := by kernel_rfl
theorem optMore_laidOut : laidOutB Try.prog = true := by kernel_rfl

set_option maxRecDepth 100000 in
theorem optMore_lifted (os : Os) (started : os.Started) (H : Type) (enc : TypeId × Value → H) :
    ReturnsInHanded {} Try.checked os 5 .any (Rows.optMoreSpec.pre6 enc Try.prog Try.f5 Rows.optMoreRow.domain false) (Rows.optMoreSpec.post enc Try.prog Try.f5 false true false false) := by
  refine returnsInHanded_of_change (C := Try.checked) optMore_own started (by kernel_rfl) Try.func5
    (ChangeSpec.witness6 (enc := enc) (C := Try.checked) false ⟨#[], #[.slice none 0 0, .int .i64 0], []⟩ 8 (by kernel_rfl) (by kernel_rfl) (by kernel_rfl) (by kernel_rfl)) ?_
  intro W base args ds gs before hval0 hW _ _
  have hval : ∀ (j : Nat) t v, Try.f5.params[j]? = some t → args[j]? = some v → Value.okWide Try.prog W .any base t v := hval0
  have hW' : DataW.Whole enc Try.prog Try.f5.params.toList Rows.optMoreSpec.vars false W args.toList ds gs before := hW
  obtain ⟨p, q, hA0, hV, rfl, hfz, hnd⟩ := hW
  have hA : DataW.TrodAll enc Try.prog W 0 (fun _ => true) true Try.f5.params.toList args.toList ds p := hA0
  rw [Try.params5] at hA hval
  obtain ⟨v0, vs0, d0, ds0, p0, q0, hargs, rfl, rfl, h0, r0⟩ := trodAll_cons hA
  obtain ⟨v1, vs1, d1, ds1, p1, q1, rfl, rfl, rfl, h1, r1⟩ := trodAll_cons r0
  obtain ⟨rfl, rfl, rfl⟩ := trodAll_nil r1
  obtain rfl : args = #[v0, v1] := by cases args; simp_all
  obtain ⟨rfl, rfl⟩ := trodVars_none hV
  obtain ⟨n1, rfl, rfl, rfl, wn1⟩ := open_int Try.underlying3 (hval 1 3 v1 rfl rfl) h1
  obtain ⟨l0, ao0, cap0, hv0, hl0⟩ := arg_ints Try.underlying22 Try.underlying3 (by kernel_rfl) (hval 0 22 v0 rfl rfl) h0
  clear hA0 hval0
  refine (optMore_any v0 l0 n1 W hl0 ⟨ao0, cap0, hv0⟩).mono fun e W' ⟨he, hb⟩ => ?_
  subst he
  exact ⟨_, rfl, law_post hW' hb optMore_laidOut rfl (by kernel_rfl) (by kernel_rfl) Try.underlying4 rfl rfl rfl⟩

theorem optMore_holds : Rows.OptMoreSaid :=
  OpenClaim.holds_of_wide 5 Try.f5 rfl rfl rfl rfl rfl rfl rfl ⟨rfl, rfl, rfl, rfl, rfl⟩ rfl rfl rfl rfl rfl (by kernel_rfl) Try.func5 (by kernel_rfl)
    (of_decide_eq_true (by kernel_rfl)) (by unfold Func.isWrapper; first | (rw [if_pos (by decide +kernel)]; kernel_rfl) | (rw [if_neg (by decide +kernel)]; exact ⟨rfl, rfl⟩))
    (fun os started H enc _ => optMore_lifted os started H enc)
end Go.Proofs.Ytkhjpelghlchnaa
