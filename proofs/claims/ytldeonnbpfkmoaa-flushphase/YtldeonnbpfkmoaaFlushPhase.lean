/- FlushPhase is proved: for every list of requests and every number of slots, in whatever memory and on every schedule, it returns true and leaves its argument as it was: all are let go of where a phase begins. No condition. -/
import Derived.Test.YtldeonnbpfkmoaaFlushFact
import Derived.Test.YtldeonnbpfkmoaaPhase
import Derived.Test.YtldeonnbpfkmoaaPhaseL
import Derived.Test.YtldeonnbpfkmoaaHasAt
import Derived.Test.YtldeonnbpfkmoaaLawkit
namespace Go.Proofs.Ytldeonnbpfkmoaa
open Go.ChangeShapes Go.WideShapes Go.ChangeAt Go.RowKit Go.Sort

theorem lst_le (s : Nat) (l : List Int) (k : Nat) : lst s l (k+1) ≤ k := by have := (lst_facts s l (k+1) (by omega)).1; omega
theorem phase_hit {s : Nat} {l : List Int} {k : Nat} (hk : k < l.length) : ((l.take k).drop (lst s l (k+1))).contains (l[k]?.getD 0) = ehit s l k := by
  cases hb : begins s l k
  · rw [lst_no hb, Bool.eq_iff_iff, List.contains_iff_mem, seg_mem (by omega)]
    exact (flush_phase hk hb).symm
  · rw [lst_yes hb, begins_miss hb, List.drop_of_length_le (by rw [List.length_take]; omega)]; rfl

set_option maxHeartbeats 1000000 in
theorem flushPhase_any (v : Value) (l : List Int) (s : Int) (w : World) (hv : IsInts w v l) (hform : ∃ ao cap, v = .slice ao l.length cap) :
    Calls Try.prog 3 #[v, .int .i64 s] w fun e w' => e = .returned (.bool true) ∧ Below w.heap.size w w' := by
  have HV : Hid (IsInts w v l) := hv
  obtain ⟨ao, cap, rfl⟩ := hform
  clear hv
  go_enter Try.func3, Try.ntmps3
  go_wp2_with (first | (go_at_call 8; go_must (refine (empty_any _).mono ?_; rintro e w1 ⟨rfl, hb1⟩)) | (go_at_call 9; fail))
  refine (flush_any _ l s _ (HV.out.below hb1)).mono ?_
  rintro e w2 ⟨vb, vh, rfl, hB, _, hb2⟩
  have HB2 : Hid (Below w.heap.size w w2) := hb1.trans (hb2.mono hb1.size)
  have HBa : Hid (OwnB w2 w1.heap.size vb (flushB l s)) := hB
  clear hB hb1 hb2
  go_wp2_with (go_at_call 10; fail)
  refine (phase_any _ l s _ (HV.out.below HB2.out)).mono ?_
  rintro e w3 ⟨vs, rfl, hO, hb3⟩
  have HB3 : Hid (Below w.heap.size w w3) := HB2.out.trans (hb3.mono HB2.out.size)
  have HO3 : Hid (OwnI w3 w2.heap.size vs (phaseL l s)) := hO
  have HBb : Hid (OwnB w3 w1.heap.size vb (flushB l s)) := HBa.out.later hb3
  clear hO hb3 HBa
  by_cases hc : chk l s = 0
  · obtain ⟨h40, h1, h8⟩ := chk_zero hc
    obtain ⟨n, rfl⟩ : ∃ n : Nat, s = n := ⟨s.toNat, by omega⟩
    have hs1 : 1 ≤ n := by omega
    have hB := HBb.out
    rw [flushB_ok hc, Int.toNat_natCast] at hB
    have hO := HO3.out
    rw [phaseL_ok hc, Int.toNat_natCast] at hO
    rw [hc, show errV 0 = .nilIface from rfl]
    have HVc : Hid (IsInts w3 (.slice ao l.length cap) l) := HV.out.below HB3.out
    have HBc : Hid (IsBools w3 vb (marks (ehit n l) l.length)) := hB.isBools
    have HOc : Hid (IsInts w3 vs (starts n l l.length)) := hO.isInts
    obtain ⟨ab, cb, hvb⟩ := hB.form
    rw [marks_length] at hvb
    subst hvb
    clear hB hO HBb HO3 hc HV
    go_wp2
    go_loopw [11, 12] (fun vf i wr => ∃ k : Nat, k ≤ l.length ∧ i = .int .i64 k ∧ vf = .int .i64 (lst n l k) ∧ wr.heap = w3.heap ∧ Below w.heap.size w wr) (fun _ i _ => l.length - (intOf i).toNat)
    case atStart => exact ⟨0, Nat.zero_le _, rfl, rfl, rfl, HB3.out⟩
    case round =>
      obtain ⟨k, hk, rfl, rfl, hh, hbw⟩ := hrel
      by_cases hlt : k < l.length
      · rcases HVc.out with ⟨h, _⟩ | ⟨b, off, cap, hv, hp, hlc, hcap, hc⟩
        · subst h; simp at hlt
        simp only [Value.slice.injEq] at hv
        obtain ⟨rfl, _, rfl⟩ := hv
        have hck : wr.cell? ⟨b, off + k, none⟩ = some (.int .i64 (l[k]?.getD 0)) := by
          have := hc k hlt
          unfold World.cell? at *
          rw [hh]; exact this
        obtain ⟨b2, o2, c2, hv2, hn2, hm2, hc2⟩ := marks_cells HBc.out hp
        simp only [Value.slice.injEq] at hv2
        obtain ⟨rfl, _, rfl⟩ := hv2
        have hckb : wr.cell? ⟨b2, o2 + k, none⟩ = some (.bool (ehit n l k)) := by
          have := hc2 k hlt
          unfold World.cell? at *
          rw [hh]; exact this
        unfold maxLen at hcap hm2
        have HST : Hid ((starts n l l.length).contains (k : Int) = begins n l k) := starts_has hlt
        have hfk := lst_le n l k
        have HPT : Hid (IsInts wr (.slice (some ⟨b, off + lst n l (k+1), none⟩) (k - lst n l (k+1)) (cap - lst n l (k+1))) ((l.take k).drop (lst n l (k+1)))) := (isInts_part HVc.out hfk hk).heap hh
        have HHI : Hid (((l.take k).drop (lst n l (k+1))).contains (l[k]?.getD 0) = ehit n l k) := phase_hit hlt
        clear hc hc2
        cases hb : begins n l k
        · have HLS : Hid (lst n l (k+1) = lst n l k) := lst_no hb
          rw [hb] at HST
          rw [HLS.out] at HPT HHI hfk
          have hcf : ¬ cap = lst n l k := by omega
          clear hb
          generalize l[k]?.getD 0 = p at *
          generalize ehit n l k = r at *
          generalize lst n l k = f at *
          go_wp2_with (go_at_call 11; go_must (refine (has_at HOc.out HST.out _ hh).mono ?_; rintro e w' ⟨rfl, hw⟩; have hw := hw.symm; subst hw))
          go_quiet (first | (go_at_call 11; exact Calls.quiet_of_same (has_at HPT.out HHI.out _ (by rfl))))
          go_wp2
          go_roundw
          case rel => exact ⟨k + 1, by omega, by go_num, by rw [HLS.out], hh, below_drewN hbw _⟩
          case measure => simp [intOf]; omega

        · have HLS : Hid (lst n l (k+1) = k) := lst_yes hb
          rw [hb] at HST
          rw [HLS.out] at HPT HHI hfk
          rw [Nat.sub_self] at HPT
          have hcf : ¬ cap = k := by omega
          clear hb
          generalize l[k]?.getD 0 = p at *
          generalize ehit n l k = r at *
          generalize lst n l k = f at *
          go_wp2_with (go_at_call 11; go_must (refine (has_at HOc.out HST.out _ hh).mono ?_; rintro e w' ⟨rfl, hw⟩; have hw := hw.symm; subst hw))
          go_quiet (first | (go_at_call 11; exact Calls.quiet_of_same (has_at HPT.out HHI.out _ (by rfl))))
          go_wp2
          go_roundw
          case rel => exact ⟨k + 1, by omega, by go_num, by rw [HLS.out], hh, below_drewN hbw _⟩
          case measure => simp [intOf]; omega

      · go_wp2
        go_ret
        exact ⟨rfl, hbw⟩
  · have HE : Hid (errV (chk l s) = .iface 60 (.int .i64 (chk l s))) := errV_pos hc
    clear hc
    generalize chk l s = c at *
    rw [HE.out]
    go_wp2
    go_ret
    exact ⟨rfl, HB3.out⟩

theorem flushPhase_own : ownKnob Try.prog.godebug = none := by kernel_rfl
theorem flushPhase_laidOut : laidOutB Try.prog = true := by kernel_rfl

set_option maxRecDepth 100000 in
theorem flushPhase_lifted (os : Os) (started : os.Started) (H : Type) (enc : TypeId × Value → H) :
    ReturnsInHanded {} Try.checked os 3 .any (Rows.flushPhaseSpec.pre6 enc Try.prog Try.f3 Rows.flushPhaseRow.domain false) (Rows.flushPhaseSpec.post enc Try.prog Try.f3 false true false false) := by
  refine returnsInHanded_of_change (C := Try.checked) flushPhase_own started (by kernel_rfl) Try.func3
    (ChangeSpec.witness6 (enc := enc) (C := Try.checked) false ⟨#[], #[.slice none 0 0, .int .i64 0], []⟩ 8 (by kernel_rfl) (by kernel_rfl) (by kernel_rfl) (by kernel_rfl)) ?_
  intro W base args ds gs before hval0 hW _ _
  have hval : ∀ (j : Nat) t v, Try.f3.params[j]? = some t → args[j]? = some v → Value.okWide Try.prog W .any base t v := hval0
  have hW' : DataW.Whole enc Try.prog Try.f3.params.toList Rows.flushPhaseSpec.vars false W args.toList ds gs before := hW
  obtain ⟨p, q, hA0, hV, rfl, hfz, hnd⟩ := hW
  have hA : DataW.TrodAll enc Try.prog W 0 (fun _ => true) true Try.f3.params.toList args.toList ds p := hA0
  rw [Try.params3] at hA hval
  obtain ⟨v0, vs0, d0, ds0, p0, q0, hargs, rfl, rfl, h0, r0⟩ := trodAll_cons hA
  obtain ⟨v1, vs1, d1, ds1, p1, q1, rfl, rfl, rfl, h1, r1⟩ := trodAll_cons r0
  obtain ⟨rfl, rfl, rfl⟩ := trodAll_nil r1
  obtain rfl : args = #[v0, v1] := by cases args; simp_all
  obtain ⟨rfl, rfl⟩ := trodVars_none hV
  obtain ⟨n1, rfl, rfl, rfl, wn1⟩ := open_int Try.underlying3 (hval 1 3 v1 rfl rfl) h1
  obtain ⟨l0, ao0, cap0, hv0, hl0⟩ := arg_ints Try.underlying22 Try.underlying3 (by kernel_rfl) (hval 0 22 v0 rfl rfl) h0
  clear hA0 hval0
  refine (flushPhase_any v0 l0 n1 W hl0 ⟨ao0, cap0, hv0⟩).mono fun e W' ⟨he, hb⟩ => ?_
  subst he
  exact ⟨_, rfl, law_post hW' hb flushPhase_laidOut rfl (by kernel_rfl) (by kernel_rfl) Try.underlying4 rfl rfl rfl⟩

theorem flushPhase_holds : Rows.FlushPhaseSaid :=
  OpenClaim.holds_of_wide 3 Try.f3 rfl rfl rfl rfl rfl rfl rfl ⟨rfl, rfl, rfl, rfl, rfl⟩ rfl rfl rfl rfl rfl (by kernel_rfl) Try.func3 (by kernel_rfl)
    (of_decide_eq_true (by kernel_rfl)) (by unfold Func.isWrapper; first | (rw [if_pos (by decide +kernel)]; kernel_rfl) | (rw [if_neg (by decide +kernel)]; exact ⟨rfl, rfl⟩))
    (fun os started H enc _ => flushPhase_lifted os started H enc)
end Go.Proofs.Ytldeonnbpfkmoaa
