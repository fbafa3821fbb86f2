/- ClockFifo is proved: for every list of requests and every number of slots, in whatever memory and on every schedule, it returns true and leaves its argument as it was: without a second asking there is no second chance. -/
import Derived.Test.YtkeaeekbnmlbjaaClockFact
import Derived.Test.YtkeaeekbnmlbjaaNoSecond
import Derived.Test.YtkeaeekbnmlbjaaFifo
import Derived.Test.YtkeaeekbnmlbjaaSameB
import Derived.Test.YtkeaeekbnmlbjaaLawkit
namespace Go.Proofs.Ytkeaeekbnmlbjaa
open Go.ChangeShapes Go.WideShapes Go.ChangeAt Go.RowKit Go.Sort

set_option maxHeartbeats 2000000 in
theorem clockFifo_any (v : Value) (l : List Int) (s : Int) (w : World) (hv : IsInts w v l) (_ : ∃ ao cap, v = .slice ao l.length cap) :
    Calls Try.prog 3 #[v, .int .i64 s] w fun e w' => e = .returned (.bool true) ∧ Below w.heap.size w w' := by
  have HV : Hid (IsInts w v l) := hv
  clear hv
  by_cases hc : chk l s = 0
  · obtain ⟨h40, h1, h8⟩ := chk_zero hc
    have HC : Hid (chk l s = 0) := hc
    have HRB : Hid (clockB l s = marks (chit s.toNat l) l.length) := clockB_ok hc
    have HRF : Hid (fifoB l s = marks (fhit s.toNat l) l.length) := fifoB_ok hc
    obtain ⟨n, rfl⟩ : ∃ n : Nat, s = n := ⟨s.toNat, by omega⟩
    rw [Int.toNat_natCast] at HRB HRF
    have hn1 : 1 ≤ n := by omega
    clear hc
    go_enter Try.func3, Try.ntmps3
    go_wp2_with (first | (go_at_call 5; go_must (refine (chance_any _).mono ?_; rintro e w1 ⟨rfl, hb1⟩)) | (go_at_call 6; fail))
    have H1 : Hid (IsInts w1 v l) := HV.out.below hb1
    refine (clock_any _ l n _ H1.out).mono ?_
    rintro e w2 ⟨va, vl, rfl, hA, _, hb2⟩
    rw [HC.out, show errV 0 = .nilIface from rfl]
    rw [HRB.out] at hA
    have H2 : Hid (IsInts w2 v l) := H1.out.below hb2
    have HB2 : Hid (Below w.heap.size w w2) := hb1.trans (hb2.mono hb1.size)
    obtain ⟨aa, ac, hva⟩ := hA.form
    rw [marks_length] at hva
    subst hva
    have HA2 : Hid (IsBools w2 (.slice aa l.length ac) (marks (chit n l) l.length)) := hA.isBools
    clear hA hb1 hb2 H1
    go_wp2_with (go_at_call 7; fail)
    refine (fifo_any _ l n _ H2.out).mono ?_
    rintro e w3 ⟨vb, vl2, rfl, hB, _, hb3⟩
    rw [HC.out, show errV 0 = .nilIface from rfl]
    rw [HRF.out] at hB
    have HB3 : Hid (Below w.heap.size w w3) := HB2.out.trans (hb3.mono HB2.out.size)
    have HA3 : Hid (IsBools w3 (.slice aa l.length ac) (marks (chit n l) l.length)) := HA2.out.below hb3
    have HF3 : Hid (IsBools w3 vb (marks (fhit n l) l.length)) := hB.isBools
    clear hB hb3 HA2 H2 HB2
    by_cases hl : l.length = 0
    · have HA4 : Hid (IsBools w3 (.slice aa 0 ac) []) := by have := HA3.out; rw [hl, show marks (chit n l) 0 = [] by simp [marks]] at this; exact this
      have HF4 : Hid (IsBools w3 vb []) := by have := HF3.out; rw [hl, show marks (fhit n l) 0 = [] by simp [marks]] at this; exact this
      go_wp2
      go_loop [13] (fun i => i = .int .i64 0) (fun _ => 0)
      case atStart => rfl
      case round =>
        obtain rfl := hrel
        go_wp2_with (go_at_call 8; go_must (refine (bools_same _ _ [] _ HA4.out HF4.out).mono ?_; rintro e w5 ⟨rfl, q, rfl⟩))
        go_ret
        exact ⟨rfl, below_drewN HB3.out _⟩
    · obtain ⟨b, off, cap, hvv, hlc, hcap, hcell⟩ := marks_cells HA3.out (by omega)
      simp only [Value.slice.injEq] at hvv
      obtain ⟨rfl, _, rfl⟩ := hvv
      have HCE : Hid (∀ j, j < l.length → w3.cell? ⟨b, off + j, none⟩ = some (.bool (chit n l j))) := hcell
      clear hcell
      unfold maxLen at hcap
      go_wp2
      go_loop [13] (fun i => ∃ k : Nat, k ≤ l.length ∧ i = .int .i64 k ∧ Hid (∀ j, j < k → chit n l j = false)) (fun i => l.length - (intOf i).toNat)
      case atStart => exact ⟨0, by omega, rfl, fun j hj => absurd hj (Nat.not_lt_zero _)⟩
      case round =>
        obtain ⟨k, hk, rfl, HA⟩ := hrel
        by_cases hlt : k < l.length
        · have hck := HCE.out k hlt
          cases hh : chit n l k
          · have HH : Hid (chit n l k = false) := hh
            rw [hh] at hck
            clear hh
            go_wp2
            go_round
            case rel =>
              refine ⟨k + 1, by omega, by go_num, (show Hid _ from fun j hj => ?_)⟩
              by_cases e : j = k
              · subst e; exact HH.out
              · exact HA.out j (by omega)
            case measure => simp [intOf]; omega
          · rw [hh] at hck
            clear hh
            go_wp2
            go_ret
            exact ⟨rfl, HB3.out⟩
        · have hkl : k = l.length := by omega
          have HE : Hid (marks (chit n l) l.length = marks (fhit n l) l.length) := no_second hn1 (by rw [← hkl]; exact HA.out)
          have HF4 : Hid (IsBools w3 vb (marks (chit n l) l.length)) := by rw [HE.out]; exact HF3
          clear hkl HA
          go_wp2_with (go_at_call 8; go_must (refine (bools_same _ _ (marks (chit n l) l.length) _ HA3.out HF4.out).mono ?_; rintro e w5 ⟨rfl, q, rfl⟩))
          go_ret
          exact ⟨rfl, below_drewN HB3.out _⟩
  · have HC : Hid (chk l s ≠ 0) := hc
    clear hc
    generalize hcn : chk l s = c at *
    have HCN : Hid (chk l s = c) := hcn
    clear hcn
    have HEV : Hid (errV c = .iface 47 (.int .i64 c)) := errV_pos HC.out
    go_enter Try.func3, Try.ntmps3
    go_wp2_with (first | (go_at_call 5; go_must (refine (chance_any _).mono ?_; rintro e w1 ⟨rfl, hb1⟩)) | (go_at_call 6; fail))
    have H1 : Hid (IsInts w1 v l) := HV.out.below hb1
    refine (clock_any _ l s _ H1.out).mono ?_
    rintro e w2 ⟨va, vl, rfl, _, _, hb2⟩
    rw [HCN.out, HEV.out]
    have H2 : Hid (IsInts w2 v l) := H1.out.below hb2
    have HB2 : Hid (Below w.heap.size w w2) := hb1.trans (hb2.mono hb1.size)
    clear hb1 hb2 H1
    go_wp2_with (go_at_call 7; fail)
    refine (fifo_any _ l s _ H2.out).mono ?_
    rintro e w3 ⟨vb, vl2, rfl, _, _, hb3⟩
    rw [HCN.out, HEV.out]
    have HB3 : Hid (Below w.heap.size w w3) := HB2.out.trans (hb3.mono HB2.out.size)
    clear hb3
    go_wp2
    go_ret
    exact ⟨rfl, HB3.out⟩

theorem clockFifo_own : ownKnob Try.prog.godebug = none := by kernel_rfl
theorem clockFifo_laidOut : laidOutB Try.prog = true := by kernel_rfl

set_option maxRecDepth 100000 in
theorem clockFifo_lifted (os : Os) (started : os.Started) (H : Type) (enc : TypeId × Value → H) :
    ReturnsInHanded {} Try.checked os 3 .any (Rows.clockFifoSpec.pre6 enc Try.prog Try.f3 Rows.clockFifoRow.domain false) (Rows.clockFifoSpec.post enc Try.prog Try.f3 false true false false) := by
  refine returnsInHanded_of_change (C := Try.checked) clockFifo_own started (by kernel_rfl) Try.func3
    (ChangeSpec.witness6 (enc := enc) (C := Try.checked) false ⟨#[], #[.slice none 0 0, .int .i64 0], []⟩ 8 (by kernel_rfl) (by kernel_rfl) (by kernel_rfl) (by kernel_rfl)) ?_
  intro W base args ds gs before hval0 hW _ _
  have hval : ∀ (j : Nat) t v, Try.f3.params[j]? = some t → args[j]? = some v → Value.okWide Try.prog W .any base t v := hval0
  have hW' : DataW.Whole enc Try.prog Try.f3.params.toList Rows.clockFifoSpec.vars false W args.toList ds gs before := hW
  obtain ⟨p, q, hA0, hV, rfl, hfz, hnd⟩ := hW
  have hA : DataW.TrodAll enc Try.prog W 0 (fun _ => true) true Try.f3.params.toList args.toList ds p := hA0
  rw [Try.params3] at hA hval
  obtain ⟨v0, vs0, d0, ds0, p0, q0, hargs, rfl, rfl, h0, r0⟩ := trodAll_cons hA
  obtain ⟨v1, vs1, d1, ds1, p1, q1, rfl, rfl, rfl, h1, r1⟩ := trodAll_cons r0
  obtain ⟨rfl, rfl, rfl⟩ := trodAll_nil r1
  obtain rfl : args = #[v0, v1] := by cases args; simp_all
  obtain ⟨rfl, rfl⟩ := trodVars_none hV
  obtain ⟨n1, rfl, rfl, rfl, wn1⟩ := open_int Try.underlying3 (hval 1 3 v1 rfl rfl) h1
  obtain ⟨l0, ao0, cap0, hv0, hl0⟩ := arg_ints Try.underlying22 Try.underlying3 (by kernel_rfl) (hval 0 22 v0 rfl rfl) h0
  clear hA0 hval0
  refine (clockFifo_any v0 l0 n1 W hl0 ⟨ao0, cap0, hv0⟩).mono fun e W' ⟨he, hb⟩ => ?_
  subst he
  exact ⟨_, rfl, law_post hW' hb clockFifo_laidOut rfl (by kernel_rfl) (by kernel_rfl) Try.underlying4 rfl rfl rfl⟩

theorem clockFifo_holds : Rows.ClockFifoSaid :=
  OpenClaim.holds_of_wide 3 Try.f3 rfl rfl rfl rfl rfl rfl rfl ⟨rfl, rfl, rfl, rfl, rfl⟩ rfl rfl rfl rfl rfl (by kernel_rfl) Try.func3 (by kernel_rfl)
    (of_decide_eq_true (by kernel_rfl)) (by unfold Func.isWrapper; first | (rw [if_pos (by decide +kernel)]; kernel_rfl) | (rw [if_neg (by decide +kernel)]; exact ⟨rfl, rfl⟩))
    (fun os started H enc _ => clockFifo_lifted os started H enc)
end Go.Proofs.Ytkeaeekbnmlbjaa
