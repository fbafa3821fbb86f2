/- LandYoung is proved: for every two lists of requests and costs, and every two numbers of slots, in whatever memory and on every schedule, it returns true and leaves its arguments as they were: a landlord pays no more than the least, as slots go. No condition. -/
import Derived.Test.YtedmfehjifknbaaLandFact
import Derived.Test.YtedmfehjifknbaaLandM
import Derived.Test.YtedmfehjifknbaaLawIn2
import Derived.Test.YtedmfehjifknbaaLawkit
namespace Go.Proofs.Ytedmfehjifknbaa
open Go.ChangeShapes Go.WideShapes Go.ChangeAt Go.RowKit Go.Sort

set_option maxHeartbeats 2000000 in
set_option maxRecDepth 100000 in
theorem young_any (v vc : Value) (l c : List Int) (k h : Int) (w : World) (hv : IsInts w v l) (hvc : IsInts w vc c) :
    Calls Try.prog 3 #[v, vc, .int .i64 k, .int .i64 h] w fun e w' => e = .returned (.bool true) ∧ Below w.heap.size w w' := by
  have HV : Hid (IsInts w v l) := hv
  have HVC : Hid (IsInts w vc c) := hvc
  obtain ⟨ao, cap, rfl, _⟩ := hv.opened
  obtain ⟨ac, cac, rfl, _⟩ := hvc.opened
  clear hv hvc
  by_cases hk : within k 1 8 = true
  case neg =>
    have HK : Hid (within k 1 8 = false) := by unfold Hid; simpa using hk
    clear hk
    go_enter Try.func3, Try.ntmps3
    go_wp2_with (first | (go_at_call 8; go_must (refine (lfact_any _).mono ?_; rintro e w1 ⟨rfl, hb1⟩; have HB1 : Hid (Below w.heap.size w w1) := hb1; clear hb1)) | (go_at_call 9; go_must (refine (within_any _ _ _ _).mono ?_; rintro e w' ⟨rfl, hw⟩; have hw := hw.symm; subst hw; rw [HK.out])))
    go_ret
    exact ⟨rfl, HB1.out⟩
  by_cases hh : within h 1 k = true
  case neg =>
    have HK : Hid (within k 1 8 = true) := hk
    have HH : Hid (within h 1 k = false) := by unfold Hid; simpa using hh
    clear hk hh
    go_enter Try.func3, Try.ntmps3
    go_wp2_with (first | (go_at_call 8; go_must (refine (lfact_any _).mono ?_; rintro e w1 ⟨rfl, hb1⟩; have HB1 : Hid (Below w.heap.size w w1) := hb1; clear hb1)) | (go_at_call 9; go_must (refine (within_any _ _ _ _).mono ?_; rintro e w' ⟨rfl, hw⟩; have hw := hw.symm; subst hw; first | rw [HK.out] | rw [HH.out])))
    go_ret
    exact ⟨rfl, HB1.out⟩
  have HK : Hid (within k 1 8 = true) := hk
  have HH : Hid (within h 1 k = true) := hh
  simp [within] at hk hh
  obtain ⟨K, rfl⟩ : ∃ K : Nat, k = K := ⟨k.toNat, by omega⟩
  obtain ⟨J, rfl⟩ : ∃ J : Nat, h = J := ⟨h.toNat, by omega⟩
  have hK8 : K ≤ 8 := by omega
  have hJ1 : 1 ≤ J := by omega
  have hJK : J ≤ K := by omega
  have HS : Hid (chkC l c (J : Int) = chkC l c (K : Int)) := chkC_same (by omega) (by omega)
  clear hk hh
  go_enter Try.func3, Try.ntmps3
  go_wp2_with (first | (go_at_call 8; go_must (refine (lfact_any _).mono ?_; rintro e w1 ⟨rfl, hb1⟩; have HB1 : Hid (Below w.heap.size w w1) := hb1; clear hb1)) | (go_at_call 9; go_must (refine (within_any _ _ _ _).mono ?_; rintro e w' ⟨rfl, hw⟩; have hw := hw.symm; subst hw; first | rw [HK.out] | rw [HH.out])) | (go_at_call 10; fail))
  refine (landlord_any _ _ l c (K : Int) _ (HV.out.below HB1.out) (HVC.out.below HB1.out)).mono ?_
  rintro e w2 ⟨vp, vq, rfl, _, _, hb2⟩
  have HB2 : Hid (Below w.heap.size w w2) := HB1.out.trans (hb2.mono HB1.out.size)
  clear hb2 HB1
  go_wp2_with (go_at_call 11; fail)
  refine (least_any _ _ l c (J : Int) _ (HV.out.below HB2.out) (HVC.out.below HB2.out)).mono ?_
  rintro e w3 ⟨x, rfl, hx, hb3⟩
  have HB3 : Hid (Below w.heap.size w w3) := HB2.out.trans (hb3.mono HB2.out.size)
  rw [HS.out]
  clear hb3 HB2 HV HVC
  by_cases hc : chkC l c (K : Int) = 0
  · have F := chkC_zero hc
    have hxl := hx.ok (by rw [HS.out]; exact hc)
    rw [Int.toNat_natCast] at hxl
    have hy := least_young hJ1 hJK hxl
    have hn : landN l c (K : Int) = lpaid K (cf c) l l.length := by rw [landN, if_pos hc, Int.toNat_natCast]
    have h1 := lpaid_most (s := K) F
    have h2 := least_most F hJ1 hxl
    rw [hc, hn, show errV 0 = .nilIface from rfl]
    generalize lpaid K (cf c) l l.length = N at *
    have hsub : ((K : Int) - (J : Int) + 1) = ((K - J + 1 : Nat) : Int) := by omega
    have hm1 : (K - J + 1) * N ≤ 8 * 800 := Nat.mul_le_mul (by omega) h1
    have hm2 : K * x ≤ 8 * 800 := Nat.mul_le_mul hK8 h2
    have hle : ((K : Int) - (J : Int) + 1) * (N : Int) ≤ (K : Int) * (x : Int) := by rw [hsub]; exact_mod_cast hy
    have hm3 : ((K : Int) - (J : Int) + 1) * (N : Int) ≤ 6400 := by rw [hsub]; exact_mod_cast hm1
    have hm4 : 0 ≤ ((K : Int) - (J : Int) + 1) * (N : Int) := by rw [hsub]; exact_mod_cast Nat.zero_le _
    have hm5 : (K : Int) * (x : Int) ≤ 6400 := by exact_mod_cast hm2
    have hm6 : 0 ≤ (K : Int) * (x : Int) := by exact_mod_cast Nat.zero_le _
    clear F hxl hy hn hx hc HS hsub hm1 hm2 HK HH
    go_wp2
    go_ret
    exact ⟨rfl, HB3.out⟩
  · have hn : chkC l c (K : Int) = 1 ∨ chkC l c (K : Int) = 4 := by have := chkC_cases l c (K : Int); omega
    generalize landN l c (K : Int) = N at *
    rcases hn with hn | hn
    all_goals
      rw [hn]
      clear hn hc hx HS HK HH
      simp only [errV]
      go_wp2
      go_ret
      exact ⟨rfl, HB3.out⟩
theorem young_law (v : Value) (l : List Int) (vc : Value) (c : List Int) (k h : Int) (w : World) (hv : IsInts w v l) (_ : ∃ ao cap, v = .slice ao l.length cap) (hvc : IsInts w vc c) (_ : ∃ ao cap, vc = .slice ao c.length cap) :
    Calls Try.prog 3 #[v, vc, .int .i64 k, .int .i64 h] w fun e w' => e = .returned (.bool true) ∧ Below w.heap.size w w' := young_any v vc l c k h w hv hvc

theorem landYoung_own : ownKnob Try.prog.godebug = none := by kernel_rfl
theorem landYoung_laidOut : laidOutB Try.prog = true := by kernel_rfl

set_option maxRecDepth 100000 in
theorem landYoung_lifted (os : Os) (started : os.Started) (H : Type) (enc : TypeId × Value → H) :
    ReturnsInHanded {} Try.checked os 3 .any (Rows.landYoungSpec.pre6 enc Try.prog Try.f3 Rows.landYoungRow.domain false) (Rows.landYoungSpec.post enc Try.prog Try.f3 false true false false) := by
  refine returnsInHanded_of_change (C := Try.checked) landYoung_own started (by kernel_rfl) Try.func3
    (ChangeSpec.witness6 (enc := enc) (C := Try.checked) false ⟨#[], #[.slice none 0 0, .slice none 0 0, .int .i64 0, .int .i64 0], []⟩ 8 (by kernel_rfl) (by kernel_rfl) (by kernel_rfl) (by kernel_rfl)) ?_
  intro W base args ds gs before hval0 hW _ _
  have hval : ∀ (j : Nat) t v, Try.f3.params[j]? = some t → args[j]? = some v → Value.okWide Try.prog W .any base t v := hval0
  have hW' : DataW.Whole enc Try.prog Try.f3.params.toList Rows.landYoungSpec.vars false W args.toList ds gs before := hW
  obtain ⟨p, q, hA0, hV, rfl, hfz, hnd⟩ := hW
  have hA : DataW.TrodAll enc Try.prog W 0 (fun _ => true) true Try.f3.params.toList args.toList ds p := hA0
  rw [Try.params3] at hA hval
  obtain ⟨v0, vs0, d0, ds0, p0, q0, hargs, rfl, rfl, h0, r0⟩ := trodAll_cons hA
  obtain ⟨v1, vs1, d1, ds1, p1, q1, rfl, rfl, rfl, h1, r1⟩ := trodAll_cons r0
  obtain ⟨v2, vs2, d2, ds2, p2, q2, rfl, rfl, rfl, h2, r2⟩ := trodAll_cons r1
  obtain ⟨v3, vs3, d3, ds3, p3, q3, rfl, rfl, rfl, h3, r3⟩ := trodAll_cons r2
  obtain ⟨rfl, rfl, rfl⟩ := trodAll_nil r3
  obtain rfl : args = #[v0, v1, v2, v3] := by cases args; simp_all
  obtain ⟨rfl, rfl⟩ := trodVars_none hV
  obtain ⟨n2, rfl, rfl, rfl, wn2⟩ := open_int Try.underlying3 (hval 2 3 v2 rfl rfl) h2
  obtain ⟨n3, rfl, rfl, rfl, wn3⟩ := open_int Try.underlying3 (hval 3 3 v3 rfl rfl) h3
  obtain ⟨l0, ao0, cap0, hv0, hl0⟩ := arg_ints Try.underlying22 Try.underlying3 (by kernel_rfl) (hval 0 22 v0 rfl rfl) h0
  obtain ⟨l1, ao1, cap1, hv1, hl1⟩ := arg_ints Try.underlying22 Try.underlying3 (by kernel_rfl) (hval 1 22 v1 rfl rfl) h1
  clear hA0 hval0
  refine (young_law v0 l0 v1 l1 n2 n3 W hl0 ⟨ao0, cap0, hv0⟩ hl1 ⟨ao1, cap1, hv1⟩).mono fun e W' ⟨he, hb⟩ => ?_
  subst he
  exact ⟨_, rfl, law_post hW' hb landYoung_laidOut rfl (by kernel_rfl) (by kernel_rfl) Try.underlying4 rfl rfl rfl⟩

theorem landYoung_holds : Rows.LandYoungSaid :=
  OpenClaim.holds_of_wide 3 Try.f3 rfl rfl rfl rfl rfl rfl rfl ⟨rfl, rfl, rfl, rfl, rfl⟩ rfl rfl rfl rfl rfl (by kernel_rfl) Try.func3 (by kernel_rfl)
    (of_decide_eq_true (by kernel_rfl)) (by unfold Func.isWrapper; first | (rw [if_pos (by decide +kernel)]; kernel_rfl) | (rw [if_neg (by decide +kernel)]; exact ⟨rfl, rfl⟩))
    (fun os started H enc _ => landYoung_lifted os started H enc)
end Go.Proofs.Ytedmfehjifknbaa
