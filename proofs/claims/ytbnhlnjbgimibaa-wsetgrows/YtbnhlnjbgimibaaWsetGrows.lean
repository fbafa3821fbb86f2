/- WsetGrows is proved: for every list of requests and every window, in whatever memory and on every schedule, it returns true and leaves its argument as it was: a wider window sees more, and misses less. No condition. -/
import Derived.Test.YtbnhlnjbgimibaaWsetFact
import Derived.Test.YtbnhlnjbgimibaaSomeIs
import Derived.Test.YtbnhlnjbgimibaaLawkit
namespace Go.Proofs.Ytbnhlnjbgimibaa
open Go.ChangeShapes Go.WideShapes Go.ChangeAt Go.RowKit Go.Sort

/-- A bit of the narrower set is one of the wider one. -/
theorem bit_more {n : Nat} {l : List Int} (hl : allIn l) {k j : Nat} (hk : k ≤ l.length) (hj : j < 16) (h : setN (wset n l k) / 2 ^ j % 2 = 1) : setN (wset (n+1) l k) / 2 ^ j % 2 = 1 :=
  (msk_half (msk_wset hl k) hj).2 (wset_more (Nat.le_succ n) hk ((msk_half (msk_wset hl k) hj).1 h))

theorem set_at {w : World} {n dcp k : Nat} {ad : Option Addr} {l : List Int} (h : IsInts w (.slice ad l.length dcp) (setsOf n l l.length)) (hk : k < l.length) :
    ∃ b off, ad = some ⟨b, off, none⟩ ∧ l.length ≤ dcp ∧ dcp ≤ maxLen ∧ ∀ j, j < l.length → w.cell? ⟨b, off + j, none⟩ = some (.int .i64 (setN (wset n l (j+1)))) := by
  have hl := setsOf_length n l l.length
  rcases h with ⟨h0, _⟩ | ⟨b, off, cap, hv, hpos, hlc, hcap, hc⟩
  · rw [h0] at hl; simp at hl; omega
  · rw [hl] at hv hlc
    simp only [Value.slice.injEq, true_and] at hv
    obtain ⟨rfl, rfl⟩ := hv
    exact ⟨b, off, rfl, hlc, hcap, fun j hj => by rw [hc j (by rw [hl]; exact hj), setsOf_get hj]⟩

set_option maxRecDepth 100000 in
set_option maxHeartbeats 4000000 in
theorem wsetGrows_any (v : Value) (l : List Int) (win : Int) (w : World) (hv : IsInts w v l) (hform : ∃ ao cap, v = .slice ao l.length cap) :
    Calls Try.prog 3 #[v, .int .i64 win] w fun e w' => e = .returned (.bool true) ∧ Below w.heap.size w w' := by
  have HV : Hid (IsInts w v l) := hv
  obtain ⟨ao, cap, rfl⟩ := hform
  clear hv
  by_cases h : wchk l win = 0
  · obtain ⟨hc8, h1, h40⟩ := wchk_zero h
    obtain ⟨n, rfl⟩ : ∃ n : Nat, win = n := ⟨win.toNat, by omega⟩
    obtain ⟨hl40, _, _⟩ := chk_zero hc8
    have HA : Hid (allIn l) := chk_allIn hc8
    have HC : Hid (wchk l n = 0) := h
    have HN : Hid (wsN l n = mc (whit n l) l.length) := by have := wsN_ok h; rwa [Int.toNat_natCast] at this
    have HX : Hid (wsS l n = wsum n l l.length) := by have := wsS_ok h; rwa [Int.toNat_natCast] at this
    have HL : Hid (wsL l n = setsOf n l l.length) := by have := wsL_ok h; rwa [Int.toNat_natCast] at this
    clear h hc8
    go_enter Try.func3, Try.ntmps3
    go_wp2_with (first | (go_at_call 7; go_must (refine (win_any _).mono ?_; rintro e w1 ⟨rfl, hb1⟩)) | (go_at_call 8; fail))
    refine (sets_any _ l n _ (HV.out.below hb1)).mono ?_
    rintro e w2 ⟨vs, rfl, hO, hb2⟩
    rw [HC.out, show errV 0 = .nilIface from rfl]
    rw [HL.out] at hO
    obtain ⟨ad, dcp, rfl, hD⟩ := set_cells hO
    have HB2 : Hid (Below w.heap.size w w2) := hb1.trans (hb2.mono hb1.size)
    have HO2 : Hid (IsInts w2 (.slice ad l.length dcp) (setsOf n l l.length)) := hO.isInts
    clear hb1 hb2 hO hD
    go_wp2_with (go_at_call 8; fail)
    refine (sets_any _ l ((n : Int) + 1) _ (HV.out.below HB2.out)).mono ?_
    rintro e w3 ⟨vt, rfl, hO, hb3⟩
    have HB3 : Hid (Below w.heap.size w w3) := HB2.out.trans (hb3.mono HB2.out.size)
    have HO3 : Hid (IsInts w3 (.slice ad l.length dcp) (setsOf n l l.length)) := HO2.out.below hb3
    clear hb3 HB2 HO2
    by_cases hc2 : wchk l ((n : Int) + 1) = 0
    · have HC2 : Hid (wchk l ((n : Int) + 1) = 0) := hc2
      have HN2 : Hid (wsN l ((n : Int) + 1) = mc (whit (n+1) l) l.length) := by have := wsN_ok hc2; rwa [show ((n : Int) + 1).toNat = n + 1 by omega] at this
      have HX2 : Hid (wsS l ((n : Int) + 1) = wsum (n+1) l l.length) := by have := wsS_ok hc2; rwa [show ((n : Int) + 1).toNat = n + 1 by omega] at this
      have hL2 : wsL l ((n : Int) + 1) = setsOf (n+1) l l.length := by have := wsL_ok hc2; rwa [show ((n : Int) + 1).toNat = n + 1 by omega] at this
      rw [hL2] at hO
      obtain ⟨at2, tcp, rfl, hD⟩ := set_cells hO
      have HT3 : Hid (IsInts w3 (.slice at2 l.length tcp) (setsOf (n+1) l l.length)) := hO.isInts
      rw [hc2, show errV 0 = .nilIface from rfl]
      clear hc2 hL2 hO hD
      go_wp2_with (go_at_call 9; fail)
      refine (miss_any _ l n _ (HV.out.below HB3.out)).mono ?_
      rintro e w4 ⟨rfl, hb4⟩
      rw [HC.out, HN.out, HX.out, show errV 0 = .nilIface from rfl]
      have HB4 : Hid (Below w.heap.size w w4) := HB3.out.trans (hb4.mono HB3.out.size)
      have HO4 : Hid (IsInts w4 (.slice ad l.length dcp) (setsOf n l l.length)) := HO3.out.below hb4
      have HT4 : Hid (IsInts w4 (.slice at2 l.length tcp) (setsOf (n+1) l l.length)) := HT3.out.below hb4
      clear hb4 HB3 HO3 HT3
      go_wp2_with (go_at_call 9; fail)
      refine (miss_any _ l ((n : Int) + 1) _ (HV.out.below HB4.out)).mono ?_
      rintro e w5 ⟨rfl, hb5⟩
      rw [HC2.out, HN2.out, HX2.out, show errV 0 = .nilIface from rfl]
      have HB5 : Hid (Below w.heap.size w w5) := HB4.out.trans (hb5.mono HB4.out.size)
      have HO5 : Hid (IsInts w5 (.slice ad l.length dcp) (setsOf n l l.length)) := HO4.out.below hb5
      have HT5 : Hid (IsInts w5 (.slice at2 l.length tcp) (setsOf (n+1) l l.length)) := HT4.out.below hb5
      have HV5 : Hid (IsInts w5 (.slice ao l.length cap) l) := HV.out.below HB5.out
      clear hb5 HB4 HO4 HT4 HV
      have hq1 : ¬ ((mc (whit n l) l.length : Int) < (mc (whit (n+1) l) l.length : Int)) := by have := miss_less (show n ≤ n + 1 by omega) (l := l) (Nat.le_refl l.length); omega
      have hq2 : ¬ ((wsum (n+1) l l.length : Int) < (wsum n l l.length : Int)) := by have := wsum_more (show n ≤ n + 1 by omega) (l := l) l.length (Nat.le_refl _); omega
      have hq3 : ¬ ((mc (whit (n+1) l) l.length : Int) < (firsts l l.length : Int)) := by have := miss_firsts (w := n+1) (l := l) l.length (Nat.le_refl _); omega
      generalize mc (whit n l) l.length = ma at *
      generalize mc (whit (n+1) l) l.length = mb at *
      generalize wsum n l l.length = sa at *
      generalize wsum (n+1) l l.length = sb at *
      generalize hf : firsts l l.length = f at *
      have HF : Hid (firsts l l.length = f) := hf
      clear hf
      go_wp2_with (go_at_call 10; fail)
      refine (some_is HV5.out HF.out _ (by rfl)).mono ?_
      rintro e w6 ⟨rfl, q, hw6⟩
      have HB6 : Hid (Below w.heap.size w w6) := by rw [hw6]; exact below_drewN HB5.out q
      have HO6 : Hid (IsInts w6 (.slice ad l.length dcp) (setsOf n l l.length)) := by rw [hw6]; exact HO5.out.drewN q
      have HT6 : Hid (IsInts w6 (.slice at2 l.length tcp) (setsOf (n+1) l l.length)) := by rw [hw6]; exact HT5.out.drewN q
      clear hw6 HO5 HT5 HB5 HV5
      clear HN HX HL HN2 HX2 HC HC2 HF
      go_wp2
      go_loop [16, 17, 18, 19] (fun i _ _ _ => ∃ k : Nat, k ≤ l.length ∧ i = .int .i64 k) (fun i _ _ _ => l.length - (intOf i).toNat)
      case atStart => exact ⟨0, by omega, rfl⟩
      case round =>
        obtain ⟨k, hk, rfl⟩ := hrel
        by_cases hlt : k < l.length
        · obtain ⟨g1, o1, rfl, ha1, ha2, hA1⟩ := set_at HO6.out hlt
          obtain ⟨g2, o2, rfl, hb1, hb2, hA2⟩ := set_at HT6.out hlt
          have hc1 := hA1 k hlt
          have hc2 := hA2 k hlt
          have HBM : Hid (∀ j, j < 16 → setN (wset n l (k+1)) / 2 ^ j % 2 = 1 → setN (wset (n+1) l (k+1)) / 2 ^ j % 2 = 1) := fun j hj h => bit_more HA.out (by omega) hj h
          have hs16 : setN (wset n l (k+1)) < 65536 := setN_lt HA.out (k+1)
          have ht16 : setN (wset (n+1) l (k+1)) < 65536 := setN_lt HA.out (k+1)
          unfold maxLen at ha2 hb2
          clear hA1 hA2
          generalize setN (wset n l (k+1)) = S at *
          generalize setN (wset (n+1) l (k+1)) = T at *
          go_wp2
          go_loop [17, 18, 19] (fun s t i => ∃ j : Nat, j ≤ 16 ∧ i = .int .i64 j ∧ s = .int .i64 ((S / 2 ^ j : Nat) : Int) ∧ t = .int .i64 ((T / 2 ^ j : Nat) : Int)) (fun _ _ i => 16 - (intOf i).toNat)
          case atStart => exact ⟨0, by omega, rfl, by simp, by simp⟩
          case round =>
            obtain ⟨j, hj, rfl, rfl, rfl⟩ := hrel
            by_cases hj16 : j < 16
            · have hS : S / 2 ^ j ≤ S := Nat.div_le_self _ _
              have hT : T / 2 ^ j ≤ T := Nat.div_le_self _ _
              have HDS : Hid (S / 2 ^ (j+1) = S / 2 ^ j / 2) := by unfold Hid; rw [Nat.pow_succ, Nat.div_div_eq_div_mul]
              have HDT : Hid (T / 2 ^ (j+1) = T / 2 ^ j / 2) := by unfold Hid; rw [Nat.pow_succ, Nat.div_div_eq_div_mul]
              have hbm := HBM.out j hj16
              generalize S / 2 ^ j = x at *
              generalize T / 2 ^ j = y at *
              by_cases hx : x % 2 = 1
              · have hy := hbm hx
                clear hbm
                go_wp2
                go_round
                case rel => exact ⟨j + 1, by omega, by go_num, by rw [HDS.out]; go_num, by rw [HDT.out]; go_num⟩
                case measure => simp [intOf]; omega
              · have hx0 : x % 2 = 0 := by omega
                clear hbm hx
                go_wp2
                go_round
                case rel => exact ⟨j + 1, by omega, by go_num, by rw [HDS.out]; go_num, by rw [HDT.out]; go_num⟩
                case measure => simp [intOf]; omega
            · generalize S / 2 ^ j = x at *
              generalize T / 2 ^ j = y at *
              go_wp2
              go_round
              case rel => exact ⟨k + 1, by omega, by go_num⟩
              case measure => simp [intOf]; omega
        · go_wp2
          go_ret
          exact ⟨rfl, HB6.out⟩
    · rw [errV_pos hc2]
      have HB3' := HB3
      generalize wchk l ((n : Int) + 1) = c at *
      clear hO hc2
      go_wp2_with (go_at_call 9; fail)
      refine (miss_any _ l n _ (HV.out.below HB3.out)).mono ?_
      rintro e w4 ⟨rfl, hb4⟩
      rw [HC.out, HN.out, HX.out, show errV 0 = .nilIface from rfl]
      have HB4 : Hid (Below w.heap.size w w4) := HB3.out.trans (hb4.mono HB3.out.size)
      clear hb4 HB3 HO3 HB3'
      go_wp2_with (go_at_call 9; fail)
      refine (miss_any _ l ((n : Int) + 1) _ (HV.out.below HB4.out)).mono ?_
      rintro e w5 ⟨rfl, hb5⟩
      have HB5 : Hid (Below w.heap.size w w5) := HB4.out.trans (hb5.mono HB4.out.size)
      clear hb5 HB4
      generalize errV (wchk l ((n : Int) + 1)) = ev at *
      generalize wsN l ((n : Int) + 1) = na at *
      generalize wsS l ((n : Int) + 1) = nb at *
      go_wp2
      go_ret
      exact ⟨rfl, HB5.out⟩
  · have HE : Hid (errV (wchk l win) = .iface 43 (.int .i64 (wchk l win))) := errV_pos h
    clear h
    go_enter Try.func3, Try.ntmps3
    go_wp2_with (first | (go_at_call 7; go_must (refine (win_any _).mono ?_; rintro e w1 ⟨rfl, hb1⟩)) | (go_at_call 8; fail))
    refine (sets_any _ l win _ (HV.out.below hb1)).mono ?_
    rintro e w2 ⟨vs, rfl, hO, hb2⟩
    rw [HE.out]
    have HB2 : Hid (Below w.heap.size w w2) := hb1.trans (hb2.mono hb1.size)
    clear hb1 hb2 hO
    generalize hc : wchk l win = c at *
    have HCC : Hid (wchk l win = c) := hc
    clear hc
    go_wp2_with (go_at_call 8; fail)
    refine (sets_any _ l _ _ (HV.out.below HB2.out)).mono ?_
    rintro e w3 ⟨vt, rfl, hO, hb3⟩
    have HB3 : Hid (Below w.heap.size w w3) := HB2.out.trans (hb3.mono HB2.out.size)
    clear hb3 HB2 hO
    go_wp2_with (go_at_call 9; fail)
    refine (miss_any _ l win _ (HV.out.below HB3.out)).mono ?_
    rintro e w4 ⟨rfl, hb4⟩
    have HB4 : Hid (Below w.heap.size w w4) := HB3.out.trans (hb4.mono HB3.out.size)
    clear hb4 HB3
    generalize wsN l win = na at *
    generalize wsS l win = nb at *
    go_wp2_with (go_at_call 9; fail)
    refine (miss_any _ l _ _ (HV.out.below HB4.out)).mono ?_
    rintro e w5 ⟨rfl, hb5⟩
    have HB5 : Hid (Below w.heap.size w w5) := HB4.out.trans (hb5.mono HB4.out.size)
    clear hb5 HB4
    go_wp2
    go_ret
    exact ⟨rfl, HB5.out⟩

theorem wsetGrows_own : ownKnob Try.prog.godebug = none := by kernel_rfl
theorem wsetGrows_laidOut : laidOutB Try.prog = true := by kernel_rfl

set_option maxRecDepth 100000 in
theorem wsetGrows_lifted (os : Os) (started : os.Started) (H : Type) (enc : TypeId × Value → H) :
    ReturnsInHanded {} Try.checked os 3 .any (Rows.wsetGrowsSpec.pre6 enc Try.prog Try.f3 Rows.wsetGrowsRow.domain false) (Rows.wsetGrowsSpec.post enc Try.prog Try.f3 false true false false) := by
  refine returnsInHanded_of_change (C := Try.checked) wsetGrows_own started (by kernel_rfl) Try.func3
    (ChangeSpec.witness6 (enc := enc) (C := Try.checked) false ⟨#[], #[.slice none 0 0, .int .i64 0], []⟩ 8 (by kernel_rfl) (by kernel_rfl) (by kernel_rfl) (by kernel_rfl)) ?_
  intro W base args ds gs before hval0 hW _ _
  have hval : ∀ (j : Nat) t v, Try.f3.params[j]? = some t → args[j]? = some v → Value.okWide Try.prog W .any base t v := hval0
  have hW' : DataW.Whole enc Try.prog Try.f3.params.toList Rows.wsetGrowsSpec.vars false W args.toList ds gs before := hW
  obtain ⟨p, q, hA0, hV, rfl, hfz, hnd⟩ := hW
  have hA : DataW.TrodAll enc Try.prog W 0 (fun _ => true) true Try.f3.params.toList args.toList ds p := hA0
  rw [Try.params3] at hA hval
  obtain ⟨v0, vs0, d0, ds0, p0, q0, hargs, rfl, rfl, h0, r0⟩ := trodAll_cons hA
  obtain ⟨v1, vs1, d1, ds1, p1, q1, rfl, rfl, rfl, h1, r1⟩ := trodAll_cons r0
  obtain ⟨rfl, rfl, rfl⟩ := trodAll_nil r1
  obtain rfl : args = #[v0, v1] := by cases args; simp_all
  obtain ⟨rfl, rfl⟩ := trodVars_none hV
  obtain ⟨n1, rfl, rfl, rfl, wn1⟩ := open_int Try.underlying3 (hval 1 3 v1 rfl rfl) h1
  obtain ⟨l0, ao0, cap0, hv0, hl0⟩ := arg_ints Try.underlying22 Try.underlying3 (by kernel_rfl) (hval 0 22 v0 rfl rfl) h0
  clear hA0 hval0
  refine (wsetGrows_any v0 l0 n1 W hl0 ⟨ao0, cap0, hv0⟩).mono fun e W' ⟨he, hb⟩ => ?_
  subst he
  exact ⟨_, rfl, law_post hW' hb wsetGrows_laidOut rfl (by kernel_rfl) (by kernel_rfl) Try.underlying4 rfl rfl rfl⟩

theorem wsetGrows_holds : Rows.WsetGrowsSaid :=
  OpenClaim.holds_of_wide 3 Try.f3 rfl rfl rfl rfl rfl rfl rfl ⟨rfl, rfl, rfl, rfl, rfl⟩ rfl rfl rfl rfl rfl (by kernel_rfl) Try.func3 (by kernel_rfl)
    (of_decide_eq_true (by kernel_rfl)) (by unfold Func.isWrapper; first | (rw [if_pos (by decide +kernel)]; kernel_rfl) | (rw [if_neg (by decide +kernel)]; exact ⟨rfl, rfl⟩))
    (fun os started H enc _ => wsetGrows_lifted os started H enc)
end Go.Proofs.Ytbnhlnjbgimibaa
