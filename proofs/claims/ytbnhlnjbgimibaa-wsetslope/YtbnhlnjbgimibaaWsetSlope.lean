/- WsetSlope is proved: for every list of requests and every window, in whatever memory and on every schedule, it returns true and leaves its argument as it was: what one more sees is what was missed. No condition. -/
import Derived.Test.YtbnhlnjbgimibaaWsetFact
import Derived.Test.YtbnhlnjbgimibaaLawkit
namespace Go.Proofs.Ytbnhlnjbgimibaa
open Go.ChangeShapes Go.WideShapes Go.ChangeAt Go.RowKit Go.Sort

set_option maxHeartbeats 2000000 in
theorem wsetSlope_any (v : Value) (l : List Int) (win : Int) (w : World) (hv : IsInts w v l) (hform : ∃ ao cap, v = .slice ao l.length cap) :
    Calls Try.prog 4 #[v, .int .i64 win] w fun e w' => e = .returned (.bool true) ∧ Below w.heap.size w w' := by
  have HV : Hid (IsInts w v l) := hv
  obtain ⟨ao, cap, rfl⟩ := hform
  clear hv
  by_cases h : wchk l win = 0
  · obtain ⟨hc8, h1, h40⟩ := wchk_zero h
    obtain ⟨n, rfl⟩ : ∃ n : Nat, win = n := ⟨win.toNat, by omega⟩
    obtain ⟨hl40, _, _⟩ := chk_zero hc8
    have HA : Hid (allIn l) := chk_allIn hc8
    have HC : Hid (wchk l n = 0) := h
    have HN : Hid (wsN l n = mc (whit n l) l.length) := by have := wsN_ok h; rwa [Int.toNat_natCast] at this
    have HX : Hid (wsS l n = wsum n l l.length) := by have := wsS_ok h; rwa [Int.toNat_natCast] at this
    have HL : Hid (wsL l n = setsOf n l l.length) := by have := wsL_ok h; rwa [Int.toNat_natCast] at this
    clear h hc8
    go_enter Try.func4, Try.ntmps4
    go_wp2_with (first | (go_at_call 7; go_must (refine (win_any _).mono ?_; rintro e w1 ⟨rfl, hb1⟩)) | (go_at_call 9; fail))
    refine (miss_any _ l n _ (HV.out.below hb1)).mono ?_
    rintro e w2 ⟨rfl, hb2⟩
    rw [HC.out, HN.out, HX.out, show errV 0 = .nilIface from rfl]
    have HB2 : Hid (Below w.heap.size w w2) := hb1.trans (hb2.mono hb1.size)
    clear hb1 hb2
    go_wp2_with (go_at_call 9; fail)
    refine (miss_any _ l ((n : Int) + 1) _ (HV.out.below HB2.out)).mono ?_
    rintro e w3 ⟨rfl, hb3⟩
    have HB3 : Hid (Below w.heap.size w w3) := HB2.out.trans (hb3.mono HB2.out.size)
    clear hb3 HB2
    by_cases hc2 : wchk l ((n : Int) + 1) = 0
    · have HY : Hid (wsS l ((n : Int) + 1) = wsum (n+1) l l.length) := by have := wsS_ok hc2; rwa [show ((n : Int) + 1).toNat = n + 1 by omega] at this
      rw [hc2, show errV 0 = .nilIface from rfl, HY.out]
      generalize wsN l ((n : Int) + 1) = ny at *
      clear hc2 HY
      go_wp2_with (go_at_call 8; fail)
      refine (sets_any _ l n _ (HV.out.below HB3.out)).mono ?_
      rintro e w4 ⟨vs, rfl, hO, hb4⟩
      rw [HC.out, show errV 0 = .nilIface from rfl]
      rw [HL.out] at hO
      have HB4 : Hid (Below w.heap.size w w4) := HB3.out.trans (hb4.mono HB3.out.size)
      obtain ⟨ad, dcp, rfl, hD⟩ := set_cells hO
      clear hO hb4 HB3
      have hs := wset_slope (w := n) (l := l) l.length (Nat.le_refl _)
      have hwl := wset_le (w := n) (l := l) (k := l.length) (Nat.le_refl _)
      have hmc := mc_most (whit n l) l.length
      have hw1 := wsum_le (w := n) (l := l) l.length (Nat.le_refl _)
      have hw2 : l.length * n ≤ 40 * 40 := Nat.mul_le_mul (by omega) (by omega)
      have hx : wsum n l l.length ≤ 1600 := by omega
      have hy : wsum (n+1) l l.length ≤ 1640 := by omega
      by_cases hl0 : l.length = 0
      · have hz1 : mc (whit n l) l.length = 0 := by omega
        have hz2 : wsum n l l.length = 0 := by rw [hl0]; rfl
        have hz3 : wsum (n+1) l l.length = 0 := by rw [hl0]; rfl
        rw [hz1, hz2, hz3]
        clear hs hwl hmc hw1 hw2 hx hy hz1 hz2 hz3 hD
        have HL0 : Hid (l.length = 0) := hl0
        rw [hl0]
        clear hl0
        go_wp2
        go_ret
        exact ⟨rfl, HB4.out⟩
      · obtain ⟨g, rfl, hg2, hg3, hcc⟩ := hD (by omega)
        obtain ⟨k, hk⟩ : ∃ k, l.length = k + 1 := ⟨l.length - 1, by omega⟩
        have hcell := hcc k (by omega)
        rw [← hk] at hcell
        have hm16 : setN (wset n l l.length) < 65536 := setN_lt HA.out l.length
        have HCNT : Hid (cnt 16 (setN (wset n l l.length)) = (wset n l l.length).length) := cnt_all (msk_wset HA.out l.length) (wset_nodup n l l.length) (wset_allIn HA.out l.length)
        have hsub : IntKind.i64.wrap ((l.length : Int) - 1) = (k : Int) := by rw [IntKind.wrap_i64]; omega
        have hkl : k < l.length := by omega
        unfold maxLen at hg3
        clear hcc hD hw1 hw2
        generalize setN (wset n l l.length) = m at *
        generalize (wset n l l.length).length = d at *
        generalize wsum n l l.length = x at *
        generalize wsum (n+1) l l.length = y at *
        generalize mc (whit n l) l.length = a at *
        go_wp2
        go_loop [14, 15] (fun c s => ∃ j : Nat, j ≤ 16 ∧ c = .int .i64 (cnt j m) ∧ s = .int .i64 ((m / 2 ^ j : Nat) : Int)) (fun _ s => (intOf s).toNat)
        case atStart => exact ⟨0, by omega, rfl, by simp⟩
        case round =>
          obtain ⟨j, hj, rfl, rfl⟩ := hrel
          have hcj := cnt_most j m
          by_cases hz : m / 2 ^ j = 0
          · have hd : cnt j m = d := (cnt_end hz hj).trans HCNT.out
            rw [hz, hd]
            have hfin : ((y : Int) - (x : Int) == (a : Int) - (d : Int)) = true := by rw [beq_iff_eq]; omega
            clear hz hd hs
            go_wp2
            go_ret
            exact ⟨rfl, HB4.out⟩
          · have hj16 : j < 16 := by
              refine Nat.lt_of_not_le fun h => hz (Nat.div_eq_of_lt (Nat.lt_of_lt_of_le hm16 ?_))
              exact Nat.pow_le_pow_right (n := 2) (by omega) h
            have HST : Hid (cnt (j+1) m = cnt j m + m / 2 ^ j % 2) := cnt_step m j
            have HDV : Hid (m / 2 ^ (j+1) = m / 2 ^ j / 2) := by unfold Hid; rw [Nat.pow_succ, Nat.div_div_eq_div_mul]
            have hle : m / 2 ^ j ≤ m := Nat.div_le_self _ _
            generalize m / 2 ^ j = q at *
            generalize cnt j m = c at *
            go_wp2
            go_round
            case rel => exact ⟨j + 1, by omega, by rw [HST.out]; go_num, by rw [HDV.out]; go_num⟩
            case measure => simp [intOf]; omega
    · rw [errV_pos hc2]
      generalize wsN l ((n : Int) + 1) = ny at *
      generalize wsS l ((n : Int) + 1) = nz at *
      generalize wchk l ((n : Int) + 1) = c at *
      clear hc2
      go_wp2_with (go_at_call 8; fail)
      refine (sets_any _ l n _ (HV.out.below HB3.out)).mono ?_
      rintro e w4 ⟨vs, rfl, hO, hb4⟩
      rw [HC.out, show errV 0 = .nilIface from rfl]
      have HB4 : Hid (Below w.heap.size w w4) := HB3.out.trans (hb4.mono HB3.out.size)
      clear hO hb4 HB3
      go_wp2
      go_ret
      exact ⟨rfl, HB4.out⟩
  · have HE : Hid (errV (wchk l win) = .iface 43 (.int .i64 (wchk l win))) := errV_pos h
    clear h
    go_enter Try.func4, Try.ntmps4
    go_wp2_with (first | (go_at_call 7; go_must (refine (win_any _).mono ?_; rintro e w1 ⟨rfl, hb1⟩)) | (go_at_call 9; fail))
    refine (miss_any _ l win _ (HV.out.below hb1)).mono ?_
    rintro e w2 ⟨rfl, hb2⟩
    rw [HE.out]
    have HB2 : Hid (Below w.heap.size w w2) := hb1.trans (hb2.mono hb1.size)
    clear hb1 hb2
    generalize wsN l win = na at *
    generalize wsS l win = nb at *
    generalize wchk l win = c at *
    go_wp2_with (go_at_call 9; fail)
    refine (miss_any _ l _ _ (HV.out.below HB2.out)).mono ?_
    rintro e w3 ⟨rfl, hb3⟩
    have HB3 : Hid (Below w.heap.size w w3) := HB2.out.trans (hb3.mono HB2.out.size)
    clear hb3 HB2
    go_wp2_with (go_at_call 8; fail)
    refine (sets_any _ l win _ (HV.out.below HB3.out)).mono ?_
    rintro e w4 ⟨vs, rfl, hO, hb4⟩
    have HB4 : Hid (Below w.heap.size w w4) := HB3.out.trans (hb4.mono HB3.out.size)
    clear hO hb4 HB3
    go_wp2
    go_ret
    exact ⟨rfl, HB4.out⟩

theorem wsetSlope_own : ownKnob Try.prog.godebug = none := by kernel_rfl
theorem wsetSlope_laidOut : laidOutB Try.prog = true := by kernel_rfl

set_option maxRecDepth 100000 in
theorem wsetSlope_lifted (os : Os) (started : os.Started) (H : Type) (enc : TypeId × Value → H) :
    ReturnsInHanded {} Try.checked os 4 .any (Rows.wsetSlopeSpec.pre6 enc Try.prog Try.f4 Rows.wsetSlopeRow.domain false) (Rows.wsetSlopeSpec.post enc Try.prog Try.f4 false true false false) := by
  refine returnsInHanded_of_change (C := Try.checked) wsetSlope_own started (by kernel_rfl) Try.func4
    (ChangeSpec.witness6 (enc := enc) (C := Try.checked) false ⟨#[], #[.slice none 0 0, .int .i64 0], []⟩ 8 (by kernel_rfl) (by kernel_rfl) (by kernel_rfl) (by kernel_rfl)) ?_
  intro W base args ds gs before hval0 hW _ _
  have hval : ∀ (j : Nat) t v, Try.f4.params[j]? = some t → args[j]? = some v → Value.okWide Try.prog W .any base t v := hval0
  have hW' : DataW.Whole enc Try.prog Try.f4.params.toList Rows.wsetSlopeSpec.vars false W args.toList ds gs before := hW
  obtain ⟨p, q, hA0, hV, rfl, hfz, hnd⟩ := hW
  have hA : DataW.TrodAll enc Try.prog W 0 (fun _ => true) true Try.f4.params.toList args.toList ds p := hA0
  rw [Try.params4] at hA hval
  obtain ⟨v0, vs0, d0, ds0, p0, q0, hargs, rfl, rfl, h0, r0⟩ := trodAll_cons hA
  obtain ⟨v1, vs1, d1, ds1, p1, q1, rfl, rfl, rfl, h1, r1⟩ := trodAll_cons r0
  obtain ⟨rfl, rfl, rfl⟩ := trodAll_nil r1
  obtain rfl : args = #[v0, v1] := by cases args; simp_all
  obtain ⟨rfl, rfl⟩ := trodVars_none hV
  obtain ⟨n1, rfl, rfl, rfl, wn1⟩ := open_int Try.underlying3 (hval 1 3 v1 rfl rfl) h1
  obtain ⟨l0, ao0, cap0, hv0, hl0⟩ := arg_ints Try.underlying22 Try.underlying3 (by kernel_rfl) (hval 0 22 v0 rfl rfl) h0
  clear hA0 hval0
  refine (wsetSlope_any v0 l0 n1 W hl0 ⟨ao0, cap0, hv0⟩).mono fun e W' ⟨he, hb⟩ => ?_
  subst he
  exact ⟨_, rfl, law_post hW' hb wsetSlope_laidOut rfl (by kernel_rfl) (by kernel_rfl) Try.underlying4 rfl rfl rfl⟩

theorem wsetSlope_holds : Rows.WsetSlopeSaid :=
  OpenClaim.holds_of_wide 4 Try.f4 rfl rfl rfl rfl rfl rfl rfl ⟨rfl, rfl, rfl, rfl, rfl⟩ rfl rfl rfl rfl rfl (by kernel_rfl) Try.func4 (by kernel_rfl)
    (of_decide_eq_true (by kernel_rfl)) (by unfold Func.isWrapper; first | (rw [if_pos (by decide +kernel)]; kernel_rfl) | (rw [if_neg (by decide +kernel)]; exact ⟨rfl, rfl⟩))
    (fun os started H enc _ => wsetSlope_lifted os started H enc)
end Go.Proofs.Ytbnhlnjbgimibaa
