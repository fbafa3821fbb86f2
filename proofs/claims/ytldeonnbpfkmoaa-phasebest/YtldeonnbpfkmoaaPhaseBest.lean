/- PhaseBest is proved: for every list of requests, all numbers of slots and every way, in whatever memory and on every schedule, it returns true and leaves its argument as it was: no worse than the best, as slots go. No condition. -/
import Derived.Test.YtldeonnbpfkmoaaPhaseFact
import Derived.Test.YtldeonnbpfkmoaaFaults
import Derived.Test.YtldeonnbpfkmoaaOptAny
import Derived.Test.YtldeonnbpfkmoaaLawIn
import Derived.Test.YtldeonnbpfkmoaaLawkit
namespace Go.Proofs.Ytldeonnbpfkmoaa
open Go.ChangeShapes Go.WideShapes Go.ChangeAt Go.RowKit Go.Sort

theorem chk_both {l : List Int} {s t : Int} (hs : 1 ≤ s ∧ s ≤ 8) (ht : 1 ≤ t ∧ t ≤ 8) : chk l s = chk l t := by
  unfold chk
  rw [if_neg (show ¬ (s < 1 ∨ 8 < s) by omega), if_neg (show ¬ (t < 1 ∨ 8 < t) by omega)]
theorem optN_ok {l : List Int} {h : Nat} (hc : chk l h = 0) : missed (optB l h) (optB l h).length = mc (ohit h l) l.length := by
  rw [optB_ok hc, Int.toNat_natCast]; exact missed_mc _ _
theorem best_all {l : List Int} {k h : Nat} (kind : Int) (h1 : 1 ≤ h) (hk : h ≤ k) (hc : chk l h = 0) : (k - h + 1) * mc (wayAt kind k l) l.length ≤ k * (mc (ohit h l) l.length + h) := by
  have := phase_best (s := k) (h := h) (l := l) (by omega) h1 hk (sched_opt h1 (chk_pages hc)) (way_few (by omega) kind l)
  rwa [hits_opt] at this
theorem within_yes {n lo hi : Int} (h : lo ≤ n ∧ n ≤ hi) : within n lo hi = true := by unfold within; simp; omega
theorem within_no {n lo hi : Int} (h : ¬ (lo ≤ n ∧ n ≤ hi)) : within n lo hi = false := by unfold within; simp; omega

set_option maxHeartbeats 2000000 in
set_option maxRecDepth 100000 in
theorem phaseBest_any (v : Value) (l : List Int) (ks hs kind : Int) (w : World) (hv : IsInts w v l) (hform : ∃ ao cap, v = .slice ao l.length cap) :
    Calls Try.prog 6 #[v, .int .i64 ks, .int .i64 hs, .int .i64 kind] w fun e w' => e = .returned (.bool true) ∧ Below w.heap.size w w' := by
  have HV : Hid (IsInts w v l) := hv
  obtain ⟨ao, cap, rfl⟩ := hform
  clear hv
  by_cases hk : 1 ≤ ks ∧ ks ≤ 8
  · have HK : Hid (within ks 1 8 = true) := within_yes hk
    by_cases hh : 1 ≤ hs ∧ hs ≤ ks
    · have HH : Hid (within hs 1 ks = true) := within_yes hh
      by_cases hy : 0 ≤ kind ∧ kind ≤ 3
      · have HY : Hid (within kind 0 3 = true) := within_yes hy
        obtain ⟨k, rfl⟩ : ∃ k : Nat, ks = k := ⟨ks.toNat, by omega⟩
        obtain ⟨h, rfl⟩ : ∃ h : Nat, hs = h := ⟨hs.toNat, by omega⟩
        have HCB : Hid (chk l (k : Int) = chk l (h : Int)) := chk_both (by omega) (by omega)
        go_enter Try.func6, Try.ntmps6
        go_wp2_with (first | (go_at_call 12; go_must (refine (cut_any _).mono ?_; rintro e w1 ⟨rfl, hb1⟩)) | (go_at_call 13; go_must (refine (within_any _ _ _ _).mono ?_; rintro e w' ⟨rfl, hw⟩; have hw := hw.symm; subst hw; first | rw [HK.out] | rw [HH.out] | rw [HY.out])) | (go_at_call 16; fail))
        refine (opt_any _ l h _ (HV.out.below hb1)).mono ?_
        rintro e w2 ⟨va, _, _, rfl, hA, _, _, hb2⟩
        have HB2 : Hid (Below w.heap.size w w2) := hb1.trans (hb2.mono hb1.size)
        have HA2 : Hid (IsBools w2 va (optB l h)) := hA.isBools
        clear hA hb1 hb2
        go_wp2_with (go_at_call 15; fail)
        refine (faults_any kind _ l k _ (HV.out.below HB2.out)).mono ?_
        rintro e w3 ⟨rfl, hb3⟩
        have HB3 : Hid (Below w.heap.size w w3) := HB2.out.trans (hb3.mono HB2.out.size)
        have HA3 : Hid (IsBools w3 va (optB l h)) := HA2.out.below hb3
        clear hb3 HA2 HV
        rw [HCB.out]
        by_cases hc : chk l (h : Int) = 0
        · obtain ⟨h40, _, _⟩ := chk_zero hc
          have hck : chk l (k : Int) = 0 := HCB.out.trans hc
          have hW : wayN kind l (k : Int) = mc (wayAt kind k l) l.length := by rw [wayN_ok hck, Int.toNat_natCast]
          have HM : Hid (missed (optB l (h : Int)) (optB l (h : Int)).length = mc (ohit h l) l.length) := optN_ok hc
          have hle := best_all (l := l) (k := k) (h := h) kind (by omega) (by omega) hc
          have hx := mc_le (wayAt kind k l) l.length
          have hy2 := mc_le (ohit h l) l.length
          rw [hW, hc, show errV 0 = .nilIface from rfl, decide_eq_true (show (0 : Nat) = 0 from rfl)]
          clear hW hck hc HCB
          generalize mc (wayAt kind k l) l.length = x at *
          generalize mc (ohit h l) l.length = y at *
          obtain ⟨d, hd⟩ : ∃ d : Nat, d = k - h := ⟨_, rfl⟩
          rw [← hd] at hle
          have e1 : IntKind.i64.wrap ((k : Int) - (h : Int)) = (d : Int) := by rw [IntKind.wrap_i64]; omega
          have e2 : IntKind.i64.wrap ((d : Int) + 1) = ((d + 1 : Nat) : Int) := by rw [IntKind.wrap_i64]; omega
          have e3 : IntKind.i64.wrap (((d + 1 : Nat) : Int) * (x : Int)) = (((d + 1) * x : Nat) : Int) := by
            have : (d + 1) * x ≤ 8 * 40 := Nat.mul_le_mul (by omega) (by omega)
            rw [← Int.natCast_mul, IntKind.wrap_i64]; omega
          have e4 : IntKind.i64.wrap ((y : Int) + (h : Int)) = ((y + h : Nat) : Int) := by rw [IntKind.wrap_i64]; omega
          have e5 : IntKind.i64.wrap ((k : Int) * ((y + h : Nat) : Int)) = ((k * (y + h) : Nat) : Int) := by
            have : k * (y + h) ≤ 8 * 48 := Nat.mul_le_mul (by omega) (by omega)
            rw [← Int.natCast_mul, IntKind.wrap_i64]; omega
          clear hd
          generalize (d + 1) * x = p at *
          generalize hE : d + 1 = E at *
          generalize k * (y + h) = q at *
          generalize hF : y + h = F at *
          have hpq : decide ((p : Int) ≤ (q : Int)) = true := by rw [decide_eq_true_iff]; omega
          have hpq2 : decide (p ≤ q) = true := by rw [decide_eq_true_iff]; omega
          clear hE hF
          go_wp2_with (go_at_call 17; go_must (refine (misses_is HA3.out HM.out _ (by rfl)).mono ?_; rintro e w' ⟨rfl, hw⟩; have hw := hw.symm; subst hw))
          go_ret
          exact ⟨rfl, HB3.out⟩
        · rw [errV_pos hc, decide_eq_false hc]
          clear HCB hc
          generalize chk l (h : Int) = c at *
          go_wp2
          go_ret
          exact ⟨rfl, HB3.out⟩
      · have HY : Hid (within kind 0 3 = false) := within_no hy
        clear hk hh hy
        go_enter Try.func6, Try.ntmps6
        go_wp2_with (first | (go_at_call 12; go_must (refine (cut_any _).mono ?_; rintro e w1 ⟨rfl, hb1⟩)) | (go_at_call 13; go_must (refine (within_any _ _ _ _).mono ?_; rintro e w' ⟨rfl, hw⟩; have hw := hw.symm; subst hw; first | rw [HK.out] | rw [HH.out] | rw [HY.out])))
        go_ret
        exact ⟨rfl, hb1⟩
    · have HH : Hid (within hs 1 ks = false) := within_no hh
      clear hk hh
      go_enter Try.func6, Try.ntmps6
      go_wp2_with (first | (go_at_call 12; go_must (refine (cut_any _).mono ?_; rintro e w1 ⟨rfl, hb1⟩)) | (go_at_call 13; go_must (refine (within_any _ _ _ _).mono ?_; rintro e w' ⟨rfl, hw⟩; have hw := hw.symm; subst hw; first | rw [HK.out] | rw [HH.out])))
      go_ret
      exact ⟨rfl, hb1⟩
  · have HK : Hid (within ks 1 8 = false) := within_no hk
    clear hk
    go_enter Try.func6, Try.ntmps6
    go_wp2_with (first | (go_at_call 12; go_must (refine (cut_any _).mono ?_; rintro e w1 ⟨rfl, hb1⟩)) | (go_at_call 13; go_must (refine (within_any _ _ _ _).mono ?_; rintro e w' ⟨rfl, hw⟩; have hw := hw.symm; subst hw; first | rw [HK.out])))
    go_ret
    exact ⟨rfl, hb1⟩

theorem phaseBest_own : ownKnob Try.prog.godebug = none := by kernel_rfl
theorem phaseBest_laidOut : laidOutB Try.prog = true := by kernel_rfl

set_option maxRecDepth 100000 in
theorem phaseBest_lifted (os : Os) (started : os.Started) (H : Type) (enc : TypeId × Value → H) :
    ReturnsInHanded {} Try.checked os 6 .any (Rows.phaseBestSpec.pre6 enc Try.prog Try.f6 Rows.phaseBestRow.domain false) (Rows.phaseBestSpec.post enc Try.prog Try.f6 false true false false) := by
  refine returnsInHanded_of_change (C := Try.checked) phaseBest_own started (by kernel_rfl) Try.func6
    (ChangeSpec.witness6 (enc := enc) (C := Try.checked) false ⟨#[], #[.slice none 0 0, .int .i64 0, .int .i64 0, .int .i64 0], []⟩ 8 (by kernel_rfl) (by kernel_rfl) (by kernel_rfl) (by kernel_rfl)) ?_
  intro W base args ds gs before hval0 hW _ _
  have hval : ∀ (j : Nat) t v, Try.f6.params[j]? = some t → args[j]? = some v → Value.okWide Try.prog W .any base t v := hval0
  have hW' : DataW.Whole enc Try.prog Try.f6.params.toList Rows.phaseBestSpec.vars false W args.toList ds gs before := hW
  obtain ⟨p, q, hA0, hV, rfl, hfz, hnd⟩ := hW
  have hA : DataW.TrodAll enc Try.prog W 0 (fun _ => true) true Try.f6.params.toList args.toList ds p := hA0
  rw [Try.params6] at hA hval
  obtain ⟨v0, vs0, d0, ds0, p0, q0, hargs, rfl, rfl, h0, r0⟩ := trodAll_cons hA
  obtain ⟨v1, vs1, d1, ds1, p1, q1, rfl, rfl, rfl, h1, r1⟩ := trodAll_cons r0
  obtain ⟨v2, vs2, d2, ds2, p2, q2, rfl, rfl, rfl, h2, r2⟩ := trodAll_cons r1
  obtain ⟨v3, vs3, d3, ds3, p3, q3, rfl, rfl, rfl, h3, r3⟩ := trodAll_cons r2
  obtain ⟨rfl, rfl, rfl⟩ := trodAll_nil r3
  obtain rfl : args = #[v0, v1, v2, v3] := by cases args; simp_all
  obtain ⟨rfl, rfl⟩ := trodVars_none hV
  obtain ⟨n1, rfl, rfl, rfl, wn1⟩ := open_int Try.underlying3 (hval 1 3 v1 rfl rfl) h1
  obtain ⟨n2, rfl, rfl, rfl, wn2⟩ := open_int Try.underlying3 (hval 2 3 v2 rfl rfl) h2
  obtain ⟨n3, rfl, rfl, rfl, wn3⟩ := open_int Try.underlying3 (hval 3 3 v3 rfl rfl) h3
  obtain ⟨l0, ao0, cap0, hv0, hl0⟩ := arg_ints Try.underlying22 Try.underlying3 (by kernel_rfl) (hval 0 22 v0 rfl rfl) h0
  clear hA0 hval0
  refine (phaseBest_any v0 l0 n1 n2 n3 W hl0 ⟨ao0, cap0, hv0⟩).mono fun e W' ⟨he, hb⟩ => ?_
  subst he
  exact ⟨_, rfl, law_post hW' hb phaseBest_laidOut rfl (by kernel_rfl) (by kernel_rfl) Try.underlying4 rfl rfl rfl⟩

theorem phaseBest_holds : Rows.PhaseBestSaid :=
  OpenClaim.holds_of_wide 6 Try.f6 rfl rfl rfl rfl rfl rfl rfl ⟨rfl, rfl, rfl, rfl, rfl⟩ rfl rfl rfl rfl rfl (by kernel_rfl) Try.func6 (by kernel_rfl)
    (of_decide_eq_true (by kernel_rfl)) (by unfold Func.isWrapper; first | (rw [if_pos (by decide +kernel)]; kernel_rfl) | (rw [if_neg (by decide +kernel)]; exact ⟨rfl, rfl⟩))
    (fun os started H enc _ => phaseBest_lifted os started H enc)
end Go.Proofs.Ytldeonnbpfkmoaa
