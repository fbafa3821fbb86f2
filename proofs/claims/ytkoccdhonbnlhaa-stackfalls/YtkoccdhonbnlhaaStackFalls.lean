/- StackFalls is proved: for every list of requests, in whatever memory and on every schedule, it returns true and leaves its argument as it was: more slots are no worse; the curve falls from as many as are unlike their neighbour to no fewer than are unlike at all. No condition. -/
import Derived.Test.YtkoccdhonbnlhaaStackFact
import Derived.Test.YtkoccdhonbnlhaaCurve
import Derived.Test.YtkoccdhonbnlhaaDepthL
import Derived.Test.YtkoccdhonbnlhaaSomeIs
import Derived.Test.YtkoccdhonbnlhaaLawkit
namespace Go.Proofs.Ytkoccdhonbnlhaa
open Go.ChangeShapes Go.WideShapes Go.ChangeAt Go.RowKit Go.Sort

theorem unlike_le (l : List Int) : ∀ n, unlike l n ≤ n
  | 0 => Nat.le_refl _
  | n + 1 => by
    have := unlike_le l n
    rw [unlike]
    split <;> omega
theorem unlike_yes {l : List Int} {n : Nat} (h : n = 0 ∨ l[n]?.getD 0 ≠ l[n-1]?.getD 0) : unlike l (n+1) = unlike l n + 1 := by rw [unlike, if_pos h]
theorem unlike_no {l : List Int} {n : Nat} (h : ¬ (n = 0 ∨ l[n]?.getD 0 ≠ l[n-1]?.getD 0)) : unlike l (n+1) = unlike l n := by rw [unlike, if_neg h]; rfl

set_option maxHeartbeats 1000000 in
theorem stackFalls_any (v : Value) (l : List Int) (w : World) (hv : IsInts w v l) (hform : ∃ ao cap, v = .slice ao l.length cap) :
    Calls Try.prog 4 #[v] w fun e w' => e = .returned (.bool true) ∧ Below w.heap.size w w' := by
  have HV : Hid (IsInts w v l) := hv
  obtain ⟨ao, cap, rfl⟩ := hform
  clear hv
  go_enter Try.func4, Try.ntmps4
  go_wp2_with (first | (go_at_call 6; go_must (refine (pile_any _).mono ?_; rintro e w1 ⟨rfl, hb1⟩)) | (go_at_call 7; fail))
  refine (curve_any _ l _ (HV.out.below hb1)).mono ?_
  rintro e w2 ⟨vm, rfl, hO, hb2⟩
  have HB2 : Hid (Below w.heap.size w w2) := hb1.trans (hb2.mono hb1.size)
  have HV2 : Hid (IsInts w2 (.slice ao l.length cap) l) := HV.out.below HB2.out
  by_cases hc : chk l 8 = 0
  · obtain ⟨h40, _, _⟩ := chk_zero hc
    rw [stkC_ok hc] at hO
    rw [hc, show errV 0 = .nilIface from rfl]
    obtain ⟨g, mcp, rfl, hm8, hmm, hM⟩ := curve_cells hO
    have HM : Hid (∀ j, j < 8 → w2.cell? ⟨g, j, none⟩ = some (.int .i64 (deeper l (j+1) l.length))) := hM
    unfold maxLen at hmm
    clear hM hO hb1 hb2 hc HV
    go_wp2
    go_loopw [6] (fun i wr => ∃ k q : Nat, 1 ≤ k ∧ k ≤ 8 ∧ i = .int .i64 k ∧ wr = w2.drewN q) (fun i _ => 8 - (intOf i).toNat)
    case atStart => exact ⟨1, 0, by omega, by omega, rfl, rfl⟩
    case round =>
      obtain ⟨k, q, hk1, hk8, rfl, rfl⟩ := hrel
      by_cases hlt : k < 8
      · obtain ⟨m, hm⟩ : ∃ m : Nat, k = m + 1 := ⟨k - 1, by omega⟩
        have hck := HM.out k hlt
        have hcm := HM.out m (by omega)
        rw [← hm] at hcm
        have hle : ¬ ((deeper l k l.length : Int) < (deeper l (k+1) l.length : Int)) := by have := deeper_falls l k l.length; omega
        have hsub : IntKind.i64.wrap ((k : Int) - 1) = (m : Int) := by rw [IntKind.wrap_i64]; omega
        have hm7 : m < 8 := by omega
        clear hm
        generalize deeper l k l.length = a at *
        generalize deeper l (k+1) l.length = b at *
        go_wp2
        go_quiet (fail)
        go_wp2
        go_roundw
        case rel => exact ⟨k + 1, _, by omega, by omega, by go_num, rfl⟩
        case measure => simp [intOf]; omega
      · have hk : k = 8 := by omega
        subst hk
        clear hlt hk1 hk8
        go_wp2
        go_loopw [7, 8] (fun n i wr => ∃ k q : Nat, k ≤ l.length ∧ i = .int .i64 k ∧ n = .int .i64 (unlike l k) ∧ wr = w2.drewN q) (fun _ i _ => l.length - (intOf i).toNat)
        case atStart => exact ⟨0, q, by omega, rfl, rfl, rfl⟩
        case round =>
          obtain ⟨k, q2, hk, rfl, rfl, rfl⟩ := hrel
          have hul := unlike_le l k
          by_cases hlt : k < l.length
          · have hv2 := HV2.out
            rcases hv2 with ⟨h0, _⟩ | ⟨b, off, cap2, hv3, hpos, hlc, hcap, hc⟩
            · subst h0; simp at hlt
            simp only [Value.slice.injEq, true_and] at hv3
            obtain ⟨rfl, rfl⟩ := hv3
            unfold maxLen at hcap
            by_cases h0 : k = 0
            · have HU : Hid (unlike l (k+1) = unlike l k + 1) := unlike_yes (.inl h0)
              have hk0 : ((k : Int) == 0) = true := by rw [h0]; rfl
              clear h0 hc
              generalize unlike l k = n at *
              go_wp2
              go_quiet (fail)
              go_wp2
              go_roundw
              case rel => exact ⟨k + 1, _, by omega, by go_num, by rw [HU.out]; go_num, rfl⟩
              case measure => simp [intOf]; omega
            · have hk0 : ((k : Int) == 0) = false := by rw [beq_eq_false_iff_ne]; omega
              obtain ⟨m, hm⟩ : ∃ m : Nat, k = m + 1 := ⟨k - 1, by omega⟩
              have hck := hc k hlt
              have hcm := hc m (by omega)
              have hsub : IntKind.i64.wrap ((k : Int) - 1) = (m : Int) := by rw [IntKind.wrap_i64]; omega
              have hml : m < l.length := by omega
              have hkm : l[k-1]?.getD 0 = l[m]?.getD 0 := by rw [hm, Nat.add_sub_cancel]
              by_cases hne : l[k]?.getD 0 = l[m]?.getD 0
              · have HU : Hid (unlike l (k+1) = unlike l k) := unlike_no (by rw [hkm]; omega)
                rw [hne] at hck
                clear hm hc h0 hkm hne
                generalize l[m]?.getD 0 = p at *
                have hpp : (p != p) = false := by simp
                generalize unlike l k = n at *
                go_wp2
                go_quiet (fail)
                go_wp2
                go_roundw
                case rel => exact ⟨k + 1, _, by omega, by go_num, by rw [HU.out], rfl⟩
                case measure => simp [intOf]; omega
              · have HU : Hid (unlike l (k+1) = unlike l k + 1) := unlike_yes (.inr (by rw [hkm]; exact hne))
                have hpp : (l[k]?.getD 0 != l[m]?.getD 0) = true := by rw [bne_iff_ne]; exact hne
                clear hm hc h0 hkm hne
                generalize l[k]?.getD 0 = p at *
                generalize l[m]?.getD 0 = p2 at *
                generalize unlike l k = n at *
                go_wp2
                go_quiet (fail)
                go_wp2
                go_roundw
                case rel => exact ⟨k + 1, _, by omega, by go_num, by rw [HU.out]; go_num, rfl⟩
                case measure => simp [intOf]; omega
          · have HU : Hid (unlike l k = deeper l 1 l.length) := by unfold Hid; rw [deeper_one l _ (Nat.le_refl _), show k = l.length by omega]
            have hc0 : (w2.drewN q2).cell? ⟨g, 0, none⟩ = some (.int .i64 (deeper l (0+1) l.length)) := HM.out 0 (by omega)
            have hc7 : (w2.drewN q2).cell? ⟨g, 7, none⟩ = some (.int .i64 (deeper l (7+1) l.length)) := HM.out 7 (by omega)
            have HV3 : Hid (IsInts (w2.drewN q2) (.slice ao l.length cap) l) := HV2.out.drewN q2
            have HB3 : Hid (Below w.heap.size w (w2.drewN q2)) := below_drewN HB2.out q2
            have HF : Hid (firsts l l.length ≤ deeper l 8 l.length) := deeper_firsts
            have HA : Hid (firsts l l.length ≤ 8 → deeper l 8 l.length = firsts l l.length) := deeper_all
            rw [← HU.out] at hc0
            clear HM HV2 HB2
            generalize w2.drewN q2 = w3 at *
            generalize hf : firsts l l.length = f at *
            have HFE : Hid (firsts l l.length = f) := hf
            clear hf
            generalize unlike l k = n at *
            generalize deeper l 8 l.length = d at *
            have hnn : ((n : Int) == (n : Int)) = true := by simp
            have hfd : (f : Int) ≤ (d : Int) := by have := HF.out; omega
            by_cases h8 : f ≤ 8
            · have hdf : ((d : Int) == (f : Int)) = true := by have := HA.out h8; rw [this]; simp
              have h82 : ¬ ((8 : Int) < (f : Int)) := by omega
              clear h8
              go_wp2
              go_quiet (first | (go_at_call 12; exact Calls.quiet_of (some_is HV3.out HFE.out _ (by rfl))))
              go_wp2
              go_ret
              exact ⟨rfl, below_drewN HB3.out _⟩
            · have h82 : (8 : Int) < (f : Int) := by omega
              clear h8
              go_wp2
              go_quiet (first | (go_at_call 12; exact Calls.quiet_of (some_is HV3.out HFE.out _ (by rfl))))
              go_wp2
              go_ret
              exact ⟨rfl, below_drewN HB3.out _⟩
  · have HS : Hid (stkC l = []) := stkC_bad hc
    have HE : Hid (errV (chk l 8) = .iface 46 (.int .i64 (chk l 8))) := errV_pos hc
    rw [HS.out] at hO
    obtain ⟨am, mcp, hvm⟩ := hO.form
    have hvm : vm = .slice am 0 mcp := hvm
    subst hvm
    clear hc hO hb1 hb2
    generalize chk l 8 = c at *
    rw [HE.out]
    go_wp2
    go_ret
    exact ⟨rfl, HB2.out⟩

theorem stackFalls_own : ownKnob Try.prog.godebug = none := by kernel_rfl
theorem stackFalls_laidOut : laidOutB Try.prog = true := by kernel_rfl

set_option maxRecDepth 100000 in
theorem stackFalls_lifted (os : Os) (started : os.Started) (H : Type) (enc : TypeId × Value → H) :
    ReturnsInHanded {} Try.checked os 4 .any (Rows.stackFallsSpec.pre6 enc Try.prog Try.f4 Rows.stackFallsRow.domain false) (Rows.stackFallsSpec.post enc Try.prog Try.f4 false true false false) := by
  refine returnsInHanded_of_change (C := Try.checked) stackFalls_own started (by kernel_rfl) Try.func4
    (ChangeSpec.witness6 (enc := enc) (C := Try.checked) false ⟨#[], #[.slice none 0 0], []⟩ 8 (by kernel_rfl) (by kernel_rfl) (by kernel_rfl) (by kernel_rfl)) ?_
  intro W base args ds gs before hval0 hW _ _
  have hval : ∀ (j : Nat) t v, Try.f4.params[j]? = some t → args[j]? = some v → Value.okWide Try.prog W .any base t v := hval0
  have hW' : DataW.Whole enc Try.prog Try.f4.params.toList Rows.stackFallsSpec.vars false W args.toList ds gs before := hW
  obtain ⟨p, q, hA0, hV, rfl, hfz, hnd⟩ := hW
  have hA : DataW.TrodAll enc Try.prog W 0 (fun _ => true) true Try.f4.params.toList args.toList ds p := hA0
  rw [Try.params4] at hA hval
  obtain ⟨v0, vs0, d0, ds0, p0, q0, hargs, rfl, rfl, h0, r0⟩ := trodAll_cons hA
  obtain ⟨rfl, rfl, rfl⟩ := trodAll_nil r0
  obtain rfl : args = #[v0] := by cases args; simp_all
  obtain ⟨rfl, rfl⟩ := trodVars_none hV
  obtain ⟨l0, ao0, cap0, hv0, hl0⟩ := arg_ints Try.underlying22 Try.underlying3 (by kernel_rfl) (hval 0 22 v0 rfl rfl) h0
  clear hA0 hval0
  refine (stackFalls_any v0 l0 W hl0 ⟨ao0, cap0, hv0⟩).mono fun e W' ⟨he, hb⟩ => ?_
  subst he
  exact ⟨_, rfl, law_post hW' hb stackFalls_laidOut rfl (by kernel_rfl) (by kernel_rfl) Try.underlying4 rfl rfl rfl⟩

theorem stackFalls_holds : Rows.StackFallsSaid :=
  OpenClaim.holds_of_wide 4 Try.f4 rfl rfl rfl rfl rfl rfl rfl ⟨rfl, rfl, rfl, rfl, rfl⟩ rfl rfl rfl rfl rfl (by kernel_rfl) Try.func4 (by kernel_rfl)
    (of_decide_eq_true (by kernel_rfl)) (by unfold Func.isWrapper; first | (rw [if_pos (by decide +kernel)]; kernel_rfl) | (rw [if_neg (by decide +kernel)]; exact ⟨rfl, rfl⟩))
    (fun os started H enc _ => stackFalls_lifted os started H enc)
end Go.Proofs.Ytkoccdhonbnlhaa
