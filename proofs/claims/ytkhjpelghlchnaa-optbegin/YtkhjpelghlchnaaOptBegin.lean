/- OptBegin is proved: for every list of requests, every number of slots and every place, in whatever memory and on every schedule, it returns true and leaves its argument as it was: a beginning costs no more than the whole, and the whole no more than both parts alone. No condition. -/
import Derived.Test.YtkhjpelghlchnaaOptBegin1
namespace Go.Proofs.Ytkhjpelghlchnaa
open Go.ChangeShapes Go.WideShapes Go.ChangeAt Go.RowKit Go.Sort

set_option maxHeartbeats 1000000 in
theorem optBegin_any (v : Value) (l : List Int) (s k : Int) (w : World) (hv : IsInts w v l) (hform : ∃ ao cap, v = .slice ao l.length cap) :
    Calls Try.prog 7 #[v, .int .i64 s, .int .i64 k] w fun e w' => e = .returned (.bool true) ∧ Below w.heap.size w w' := by
  by_cases hin : 0 ≤ k ∧ k ≤ l.length
  · obtain ⟨n, rfl⟩ : ∃ n : Nat, k = n := ⟨k.toNat, by omega⟩
    have hnl : n ≤ l.length := by omega
    have HIN : Hid (within (n : Int) 0 (l.length : Int) = true) := by unfold Hid within; simp; omega
    have HV : Hid (IsInts w v l) := hv
    rcases hv with ⟨h0, ao, cap, rfl, hcap⟩ | ⟨b, off, cap, rfl, hpos, hlc, hcap, hc⟩
    · subst h0
      have hn0 : n = 0 := by simpa using hnl
      subst hn0
      unfold maxLen at hcap
      exact begin_nil ao cap s w (by omega) [] HV HV HV HIN
    · have hcap2 : cap ≤ 2 ^ 63 - 1 := by unfold maxLen at hcap; omega
      have HP : Hid (IsInts w (.slice (some ⟨b, off, none⟩) n cap) (l.take n)) := isInts_prefix HV.out rfl hnl
      by_cases hcn : cap = n
      · subst hcn
        exact begin_cap b off cap l s w hnl hlc hcap2 HV HP (.inl ⟨by simp; omega, _, 0, rfl, by simp⟩) HIN
      · exact begin_mid b off cap n l s w hnl hcn hlc hcap2 HV HP (isInts_drop HV.out rfl hnl (fun y hy hlt => by cases hy; rfl)) HIN
  · have HIN : Hid (within k 0 (l.length : Int) = false) := by
      unfold Hid within
      rw [Bool.and_eq_false_iff, decide_eq_false_iff_not, decide_eq_false_iff_not]; omega
    obtain ⟨ao, cap, rfl⟩ := hform
    clear hv hin
    go_enter Try.func7, Try.ntmps7
    go_wp2_with (first | (go_at_call 15; go_must (refine (later_any _).mono ?_; rintro e w1 ⟨rfl, hb1⟩)) | (go_at_call 20; go_must (refine (within_any _ _ _ _).mono ?_; rintro e w' ⟨rfl, hw⟩; have hw := hw.symm; subst hw; rw [HIN.out])))
    go_ret
    exact ⟨rfl, hb1⟩

theorem optBegin_own : ownKnob Try.prog.godebug = none := by kernel_rfl
theorem optBegin_laidOut : laidOutB Try.prog = true := by kernel_rfl

set_option maxRecDepth 100000 in
theorem optBegin_lifted (os : Os) (started : os.Started) (H : Type) (enc : TypeId × Value → H) :
    ReturnsInHanded {} Try.checked os 7 .any (Rows.optBeginSpec.pre6 enc Try.prog Try.f7 Rows.optBeginRow.domain false) (Rows.optBeginSpec.post enc Try.prog Try.f7 false true false false) := by
  refine returnsInHanded_of_change (C := Try.checked) optBegin_own started (by kernel_rfl) Try.func7
    (ChangeSpec.witness6 (enc := enc) (C := Try.checked) false ⟨#[], #[.slice none 0 0, .int .i64 0, .int .i64 0], []⟩ 8 (by kernel_rfl) (by kernel_rfl) (by kernel_rfl) (by kernel_rfl)) ?_
  intro W base args ds gs before hval0 hW _ _
  have hval : ∀ (j : Nat) t v, Try.f7.params[j]? = some t → args[j]? = some v → Value.okWide Try.prog W .any base t v := hval0
  have hW' : DataW.Whole enc Try.prog Try.f7.params.toList Rows.optBeginSpec.vars false W args.toList ds gs before := hW
  obtain ⟨p, q, hA0, hV, rfl, hfz, hnd⟩ := hW
  have hA : DataW.TrodAll enc Try.prog W 0 (fun _ => true) true Try.f7.params.toList args.toList ds p := hA0
  rw [Try.params7] at hA hval
  obtain ⟨v0, vs0, d0, ds0, p0, q0, hargs, rfl, rfl, h0, r0⟩ := trodAll_cons hA
  obtain ⟨v1, vs1, d1, ds1, p1, q1, rfl, rfl, rfl, h1, r1⟩ := trodAll_cons r0
  obtain ⟨v2, vs2, d2, ds2, p2, q2, rfl, rfl, rfl, h2, r2⟩ := trodAll_cons r1
  obtain ⟨rfl, rfl, rfl⟩ := trodAll_nil r2
  obtain rfl : args = #[v0, v1, v2] := by cases args; simp_all
  obtain ⟨rfl, rfl⟩ := trodVars_none hV
  obtain ⟨n1, rfl, rfl, rfl, wn1⟩ := open_int Try.underlying3 (hval 1 3 v1 rfl rfl) h1
  obtain ⟨n2, rfl, rfl, rfl, wn2⟩ := open_int Try.underlying3 (hval 2 3 v2 rfl rfl) h2
  obtain ⟨l0, ao0, cap0, hv0, hl0⟩ := arg_ints Try.underlying22 Try.underlying3 (by kernel_rfl) (hval 0 22 v0 rfl rfl) h0
  clear hA0 hval0
  refine (optBegin_any v0 l0 n1 n2 W hl0 ⟨ao0, cap0, hv0⟩).mono fun e W' ⟨he, hb⟩ => ?_
  subst he
  exact ⟨_, rfl, law_post hW' hb optBegin_laidOut rfl (by kernel_rfl) (by kernel_rfl) Try.underlying4 rfl rfl rfl⟩

theorem optBegin_holds : Rows.OptBeginSaid :=
  OpenClaim.holds_of_wide 7 Try.f7 rfl rfl rfl rfl rfl rfl rfl ⟨rfl, rfl, rfl, rfl, rfl⟩ rfl rfl rfl rfl rfl (by kernel_rfl) Try.func7 (by kernel_rfl)
    (of_decide_eq_true (by kernel_rfl)) (by unfold Func.isWrapper; first | (rw [if_pos (by decide +kernel)]; kernel_rfl) | (rw [if_neg (by decide +kernel)]; exact ⟨rfl, rfl⟩))
    (fun os started H enc _ => optBegin_lifted os started H enc)
end Go.Proofs.Ytkhjpelghlchnaa
