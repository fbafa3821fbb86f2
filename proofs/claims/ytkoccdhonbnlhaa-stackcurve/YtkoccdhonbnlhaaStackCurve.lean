/- StackCurve is proved: for every list of requests and every number of slots, in whatever memory and on every schedule, it returns true and leaves its argument as it was: one pass tells all sizes. No condition. -/
import Derived.Test.YtkoccdhonbnlhaaStackFact
import Derived.Test.YtkoccdhonbnlhaaCurve
import Derived.Test.YtkoccdhonbnlhaaDepthL
import Derived.Test.YtkoccdhonbnlhaaLru
import Derived.Test.YtkoccdhonbnlhaaMissIs
import Derived.Test.YtkoccdhonbnlhaaLawIn
import Derived.Test.YtkoccdhonbnlhaaLawkit
namespace Go.Proofs.Ytkoccdhonbnlhaa
open Go.ChangeShapes Go.WideShapes Go.ChangeAt Go.RowKit Go.Sort

theorem hit_tell {l : List Int} {n k : Nat} : (hitAt n l k != (decide ((0 : Int) < (deep l k : Int)) && decide ((deep l k : Int) ≤ (n : Int)))) = false := by
  rw [deep_hit]
  have e1 : decide ((0 : Int) < (deep l k : Int)) = decide (0 < deep l k) := by rw [decide_eq_decide]; omega
  have e2 : decide ((deep l k : Int) ≤ (n : Int)) = decide (deep l k ≤ n) := by rw [decide_eq_decide]; omega
  rw [e1, e2]; simp

set_option maxHeartbeats 1000000 in
theorem stackCurve_any (v : Value) (l : List Int) (s : Int) (w : World) (hv : IsInts w v l) (hform : ∃ ao cap, v = .slice ao l.length cap) :
    Calls Try.prog 3 #[v, .int .i64 s] w fun e w' => e = .returned (.bool true) ∧ Below w.heap.size w w' := by
  have HV : Hid (IsInts w v l) := hv
  obtain ⟨ao, cap, rfl⟩ := hform
  clear hv
  go_enter Try.func3, Try.ntmps3
  go_wp2_with (first | (go_at_call 6; go_must (refine (pile_any _).mono ?_; rintro e w1 ⟨rfl, hb1⟩)) | (go_at_call 7; fail))
  refine (curve_any _ l _ (HV.out.below hb1)).mono ?_
  rintro e w2 ⟨vm, rfl, hO, hb2⟩
  have HB2 : Hid (Below w.heap.size w w2) := hb1.trans (hb2.mono hb1.size)
  by_cases hc : chk l 8 = 0
  · obtain ⟨h40, _, _⟩ := chk_zero hc
    have HC : Hid (chk l 8 = 0) := hc
    have HD : Hid (stkD l = depthsOf l l.length) := stkD_ok hc
    rw [stkC_ok hc] at hO
    rw [hc, show errV 0 = .nilIface from rfl]
    have HO : Hid (OwnI w2 w1.heap.size vm (curveOf l 8)) := hO
    clear hO hb1 hb2 hc
    go_wp2_with (go_at_call 8; fail)
    refine (depths_any _ l _ (HV.out.below HB2.out)).mono ?_
    rintro e w3 ⟨vd, rfl, hd, hb3⟩
    rw [HC.out, show errV 0 = .nilIface from rfl]
    rw [HD.out] at hd
    have HB3 : Hid (Below w.heap.size w w3) := HB2.out.trans (hb3.mono HB2.out.size)
    obtain ⟨g, mcp, rfl, hm8, hmm, hM⟩ := curve_cells (HO.out.later hb3)
    obtain ⟨ad, dcp, rfl, hD⟩ := depth_cells hd
    have HMC : Hid (∀ j, j < 8 → w3.cell? ⟨g, j, none⟩ = some (.int .i64 (deeper l (j+1) l.length))) := hM
    have HDC : Hid (0 < l.length → ∃ g, ad = some ⟨g, 0, none⟩ ∧ l.length ≤ dcp ∧ dcp ≤ maxLen ∧ ∀ j, j < l.length → w3.cell? ⟨g, j, none⟩ = some (.int .i64 (deep l j))) := hD
    have hll : ((l.length : Int) != (l.length : Int)) = false := by simp
    have hgw : g < w3.heap.size := World.block_lt_of_cell? w3 _ (hM 0 (by omega))
    unfold maxLen at hmm
    clear hM hD hd hb3 HO
    go_wp2_with (go_at_call 9; fail)
    refine (within_any s 1 8 _).mono ?_
    rintro e w' ⟨rfl, hw⟩
    have hw := hw.symm
    subst hw
    by_cases hs : 1 ≤ s ∧ s ≤ 8
    · have HW : Hid (within s 1 8 = true) := by unfold Hid within; simp; omega
      have HCS : Hid (chk l s = 0) := chk_eight HC.out hs.1 hs.2
      obtain ⟨n, rfl⟩ : ∃ n : Nat, s = n := ⟨s.toNat, by omega⟩
      obtain ⟨m, hm⟩ : ∃ m : Nat, n = m + 1 := ⟨n - 1, by omega⟩
      have hsub : IntKind.i64.wrap ((n : Int) - 1) = (m : Int) := by rw [IntKind.wrap_i64]; omega
      have hm7 : m < 8 := by omega
      have hmc := HMC.out m hm7
      rw [← hm] at hmc
      have HBL : Hid (lruB l n = marks (hitAt n l) l.length) := lruB_ok HCS.out
      rw [HW.out]
      clear hs hm HMC
      go_wp2_with (go_at_call 10; fail)
      refine (lru_any _ l n _ (HV.out.below HB3.out)).mono ?_
      rintro e w4 ⟨vb, vh, rfl, hB, _, hb4⟩
      rw [HCS.out, show errV 0 = .nilIface from rfl]
      rw [HBL.out] at hB
      have HB4 : Hid (Below w.heap.size w w4) := HB3.out.trans (hb4.mono HB3.out.size)
      have HBB : Hid (IsBools w4 vb (marks (hitAt n l) l.length)) := hB.isBools
      have hmc4 : w4.cell? ⟨g, m, none⟩ = some (.int .i64 (deeper l n l.length)) := (hb4.cell (by exact hgw)).trans hmc
      have HDC4 : Hid (0 < l.length → ∃ g, ad = some ⟨g, 0, none⟩ ∧ l.length ≤ dcp ∧ dcp ≤ maxLen ∧ ∀ j, j < l.length → w4.cell? ⟨g, j, none⟩ = some (.int .i64 (deep l j))) := fun hp => by
        obtain ⟨g2, h1, h2, h3, h4⟩ := HDC.out hp
        have hg2 : g2 < w3.heap.size := World.block_lt_of_cell? w3 _ (h4 0 hp)
        exact ⟨g2, h1, h2, h3, fun j hj => (hb4.cell (by exact hg2)).trans (h4 j hj)⟩
      obtain ⟨ab, bcp, hvb⟩ := hB.form
      rw [marks_length] at hvb
      subst hvb
      have HMS : Hid (missed (marks (hitAt n l) l.length) (marks (hitAt n l) l.length).length = deeper l n l.length) := deeper_lru l n
      clear hB hb4 hmc HDC
      generalize deeper l n l.length = d at *
      have hdd : ((d : Int) != (d : Int)) = false := by simp
      go_wp2
      go_quiet (first | (go_at_call 11; exact Calls.quiet_of_same (misses_is HBB.out HMS.out _ (by rfl))))
      go_wp2
      go_loopw [13] (fun i wr => ∃ k q : Nat, k ≤ l.length ∧ i = .int .i64 k ∧ wr = w4.drewN q) (fun i _ => l.length - (intOf i).toNat)
      case atStart => exact ⟨0, _, by omega, rfl, rfl⟩
      case round =>
        obtain ⟨k, q, hk, rfl, rfl⟩ := hrel
        by_cases hlt : k < l.length
        · obtain ⟨g2, rfl, hd1, hd2, hdc⟩ := HDC4.out (by omega)
          have hck := hdc k hlt
          obtain ⟨b3, off3, cap3, hv3, hn3, hm3, hc3⟩ := marks_cells HBB.out (by omega)
          simp only [Value.slice.injEq, true_and] at hv3
          obtain ⟨rfl, rfl⟩ := hv3
          have hbk := hc3 k hlt
          have hht : (hitAt n l k != (decide ((0 : Int) < (deep l k : Int)) && decide ((deep l k : Int) ≤ (n : Int)))) = false := hit_tell
          unfold maxLen at hd2 hm3
          clear hdc hc3
          generalize hitAt n l k = hb at *
          generalize deep l k = dk at *
          rcases (by omega : dk = 0 ∨ (0 < dk ∧ dk ≤ n) ∨ (0 < dk ∧ n < dk)) with h | ⟨h1, h2⟩ | ⟨h1, h2⟩
          · subst h
            have hhb : hb = false := by cases hb <;> simp at hht ⊢
            subst hhb
            clear hht
            have hck : w4.cell? ⟨g2, k, none⟩ = some (.int .i64 0) := hck
            go_wp2
            go_quiet (fail)
            go_wp2
            go_roundw
            case rel => exact ⟨k + 1, _, by omega, by go_num, rfl⟩
            case measure => simp [intOf]; omega
          · have hhb : hb = true := by
              rw [decide_eq_true (show (0 : Int) < (dk : Int) by omega), decide_eq_true (show (dk : Int) ≤ (n : Int) by omega)] at hht
              cases hb <;> simp at hht ⊢
            subst hhb
            clear hht
            have h3 : (0 : Int) < (dk : Int) := by omega
            have h4 : (dk : Int) ≤ (n : Int) := by omega
            have htt : (true != true) = false := rfl
            go_wp2
            go_quiet (fail)
            go_wp2
            go_roundw
            case rel => exact ⟨k + 1, _, by omega, by go_num, rfl⟩
            case measure => simp [intOf]; omega
          · have hhb : hb = false := by
              have e : decide ((dk : Int) ≤ (n : Int)) = false := by rw [decide_eq_false_iff_not]; omega
              rw [e] at hht
              cases hb <;> simp at hht ⊢
            subst hhb
            clear hht
            have h3 : (0 : Int) < (dk : Int) := by omega
            have h4 : ¬ ((dk : Int) ≤ (n : Int)) := by omega
            have htt : (false != false) = false := rfl
            go_wp2
            go_quiet (fail)
            go_wp2
            go_roundw
            case rel => exact ⟨k + 1, _, by omega, by go_num, rfl⟩
            case measure => simp [intOf]; omega
        · go_wp2
          go_ret
          exact ⟨rfl, below_drewN HB4.out _⟩
    · have HW : Hid (within s 1 8 = false) := by unfold Hid within; simp; omega
      rw [HW.out]
      clear hs
      go_wp2
      go_ret
      exact ⟨rfl, HB3.out⟩
  · have HS : Hid (stkC l = []) := stkC_bad hc
    have HE : Hid (errV (chk l 8) = .iface 46 (.int .i64 (chk l 8))) := errV_pos hc
    clear hc hO hb1 hb2
    generalize hcc : chk l 8 = c at *
    have HCC : Hid (chk l 8 = c) := hcc
    clear hcc
    rw [HE.out]
    go_wp2_with (go_at_call 8; fail)
    refine (depths_any _ l _ (HV.out.below HB2.out)).mono ?_
    rintro e w3 ⟨vd, rfl, hd, hb3⟩
    rw [HCC.out, HE.out]
    have HB3 : Hid (Below w.heap.size w w3) := HB2.out.trans (hb3.mono HB2.out.size)
    clear hd hb3
    go_wp2
    go_ret
    exact ⟨rfl, HB3.out⟩

theorem stackCurve_own : ownKnob Try.prog.godebug = none := by kernel_rfl
theorem stackCurve_laidOut : laidOutB Try.prog = true := by kernel_rfl

set_option maxRecDepth 100000 in
theorem stackCurve_lifted (os : Os) (started : os.Started) (H : Type) (enc : TypeId × Value → H) :
    ReturnsInHanded {} Try.checked os 3 .any (Rows.stackCurveSpec.pre6 enc Try.prog Try.f3 Rows.stackCurveRow.domain false) (Rows.stackCurveSpec.post enc Try.prog Try.f3 false true false false) := by
  refine returnsInHanded_of_change (C := Try.checked) stackCurve_own started (by kernel_rfl) Try.func3
    (ChangeSpec.witness6 (enc := enc) (C := Try.checked) false ⟨#[], #[.slice none 0 0, .int .i64 0], []⟩ 8 (by kernel_rfl) (by kernel_rfl) (by kernel_rfl) (by kernel_rfl)) ?_
  intro W base args ds gs before hval0 hW _ _
  have hval : ∀ (j : Nat) t v, Try.f3.params[j]? = some t → args[j]? = some v → Value.okWide Try.prog W .any base t v := hval0
  have hW' : DataW.Whole enc Try.prog Try.f3.params.toList Rows.stackCurveSpec.vars false W args.toList ds gs before := hW
  obtain ⟨p, q, hA0, hV, rfl, hfz, hnd⟩ := hW
  have hA : DataW.TrodAll enc Try.prog W 0 (fun _ => true) true Try.f3.params.toList args.toList ds p := hA0
  rw [Try.params3] at hA hval
  obtain ⟨v0, vs0, d0, ds0, p0, q0, hargs, rfl, rfl, h0, r0⟩ := trodAll_cons hA
  obtain ⟨v1, vs1, d1, ds1, p1, q1, rfl, rfl, rfl, h1, r1⟩ := trodAll_cons r0
  obtain ⟨rfl, rfl, rfl⟩ := trodAll_nil r1
  obtain rfl : args = #[v0, v1] := by cases args; simp_all
  obtain ⟨rfl, rfl⟩ := trodVars_none hV
  obtain ⟨n1, rfl, rfl, rfl, wn1⟩ := open_int Try.underlying3 (hval 1 3 v1 rfl rfl) h1
  obtain ⟨l0, ao0, cap0, hv0, hl0⟩ := arg_ints Try.underlying22 Try.underlying3 (by kernel_rfl) (hval 0 22 v0 rfl rfl) h0
  clear hA0 hval0
  refine (stackCurve_any v0 l0 n1 W hl0 ⟨ao0, cap0, hv0⟩).mono fun e W' ⟨he, hb⟩ => ?_
  subst he
  exact ⟨_, rfl, law_post hW' hb stackCurve_laidOut rfl (by kernel_rfl) (by kernel_rfl) Try.underlying4 rfl rfl rfl⟩

theorem stackCurve_holds : Rows.StackCurveSaid :=
  OpenClaim.holds_of_wide 3 Try.f3 rfl rfl rfl rfl rfl rfl rfl ⟨rfl, rfl, rfl, rfl, rfl⟩ rfl rfl rfl rfl rfl (by kernel_rfl) Try.func3 (by kernel_rfl)
    (of_decide_eq_true (by kernel_rfl)) (by unfold Func.isWrapper; first | (rw [if_pos (by decide +kernel)]; kernel_rfl) | (rw [if_neg (by decide +kernel)]; exact ⟨rfl, rfl⟩))
    (fun os started H enc _ => stackCurve_lifted os started H enc)
end Go.Proofs.Ytkoccdhonbnlhaa
