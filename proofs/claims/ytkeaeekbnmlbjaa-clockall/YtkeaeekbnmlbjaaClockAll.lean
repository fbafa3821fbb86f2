/- ClockAll is proved: for every list of requests and every number of slots, in whatever memory and on every schedule, it returns true and leaves its argument as it was: nothing is let go of while there is room. -/
import Derived.Test.YtkeaeekbnmlbjaaClockFact
import Derived.Test.YtkeaeekbnmlbjaaAllIn
import Derived.Test.YtkeaeekbnmlbjaaFifo
import Derived.Test.YtkeaeekbnmlbjaaLru
import Derived.Test.YtkeaeekbnmlbjaaSome
import Derived.Test.YtkeaeekbnmlbjaaMisses
import Derived.Test.YtkeaeekbnmlbjaaLawkit
namespace Go.Proofs.Ytkeaeekbnmlbjaa
open Go.ChangeShapes Go.WideShapes Go.ChangeAt Go.RowKit Go.Sort

set_option maxHeartbeats 2000000 in
theorem clockAll_any (v : Value) (l : List Int) (s : Int) (w : World) (hv : IsInts w v l) (_ : ∃ ao cap, v = .slice ao l.length cap) :
    Calls Try.prog 4 #[v, .int .i64 s] w fun e w' => e = .returned (.bool true) ∧ Below w.heap.size w w' := by
  have HV : Hid (IsInts w v l) := hv
  clear hv
  by_cases hc : chk l s = 0
  · obtain ⟨h40, h1, h8⟩ := chk_zero hc
    have HC : Hid (chk l s = 0) := hc
    have HRB : Hid (clockB l s = marks (chit s.toNat l) l.length) := clockB_ok hc
    have HRL : Hid (clockL l s = pagesOf (cst s.toNat l l.length).1) := clockL_ok hc
    have HRH : Hid (clockH l s = (cst s.toNat l l.length).2) := clockH_ok hc
    have HRF : Hid (fifoB l s = marks (fhit s.toNat l) l.length) := fifoB_ok hc
    have HRU : Hid (lruB l s = marks (hitAt s.toNat l) l.length) := lruB_ok hc
    obtain ⟨n, rfl⟩ : ∃ n : Nat, s = n := ⟨s.toNat, by omega⟩
    rw [Int.toNat_natCast] at HRB HRF HRL HRH HRU
    have hn1 : 1 ≤ n := by omega
    clear hc
    have hfl := firsts_le l l.length
    obtain ⟨CL, CH⟩ := clock_fill n hn1 l l.length (Nat.le_refl _)
    go_enter Try.func4, Try.ntmps4
    have HCL : Hid ((cst n l l.length).1.length = min (firsts l l.length) n) := CL
    have HCH : Hid (firsts l l.length ≤ n → (cst n l l.length).2 = 0 ∧ ∀ x, x ∈ pagesOf (cst n l l.length).1 ↔ x ∈ l.take l.length) := CH
    clear CL CH
    go_wp2_with (first | (go_at_call 5; go_must (refine (chance_any _).mono ?_; rintro e w1 ⟨rfl, hb1⟩)) | (go_at_call 6; fail))
    have H1 : Hid (IsInts w1 v l) := HV.out.below hb1
    refine (clock_any _ l n _ H1.out).mono ?_
    rintro e w2 ⟨va, vl, rfl, hA, hL, hb2⟩
    rw [HC.out, show errV 0 = .nilIface from rfl, HRH.out]
    rw [HRB.out] at hA
    rw [HRL.out] at hL
    have H2 : Hid (IsInts w2 v l) := H1.out.below hb2
    have HB2 : Hid (Below w.heap.size w w2) := hb1.trans (hb2.mono hb1.size)
    have HA2 : Hid (IsBools w2 va (marks (chit n l) l.length)) := hA.isBools
    obtain ⟨al, lc, hvl⟩ := hL.form
    rw [pagesOf_length, HCL.out] at hvl
    subst hvl
    clear hA hL hb1 hb2 H1
    generalize hhd : (cst n l l.length).2 = hd
    have HHD : Hid ((cst n l l.length).2 = hd) := hhd
    clear hhd
    go_wp2_with (go_at_call 7; fail)
    refine (fifo_any _ l n _ H2.out).mono ?_
    rintro e w3 ⟨vb, vl2, rfl, hB, _, hb3⟩
    rw [HC.out, show errV 0 = .nilIface from rfl]
    rw [HRF.out] at hB
    have H3 : Hid (IsInts w3 v l) := H2.out.below hb3
    have HB3 : Hid (Below w.heap.size w w3) := HB2.out.trans (hb3.mono HB2.out.size)
    have HA3 : Hid (IsBools w3 va (marks (chit n l) l.length)) := HA2.out.below hb3
    have HF3 : Hid (IsBools w3 vb (marks (fhit n l) l.length)) := hB.isBools
    clear hB hb3 HA2 H2 HB2
    go_wp2_with (go_at_call 9; fail)
    refine (lru_any _ l n _ H3.out).mono ?_
    rintro e w4 ⟨vc, vl3, rfl, hU, _, hb4⟩
    rw [HC.out, show errV 0 = .nilIface from rfl]
    rw [HRU.out] at hU
    have H4 : Hid (IsInts w4 v l) := H3.out.below hb4
    have HB4 : Hid (Below w.heap.size w w4) := HB3.out.trans (hb4.mono HB3.out.size)
    have HA4 : Hid (IsBools w4 va (marks (chit n l) l.length)) := HA3.out.below hb4
    have HF4 : Hid (IsBools w4 vb (marks (fhit n l) l.length)) := HF3.out.below hb4
    have HU4 : Hid (IsBools w4 vc (marks (hitAt n l) l.length)) := hU.isBools
    clear hU hb4 HA3 HF3 H3 HB3
    go_wp2_with (go_at_call 10; fail)
    refine (some_any _ l _ H4.out).mono ?_
    rintro e w5 ⟨rfl, q, hw5⟩
    have HB5 : Hid (Below w.heap.size w w5) := by rw [hw5]; exact below_drewN HB4.out q
    have HA5 : Hid (IsBools w5 va (marks (chit n l) l.length)) := by rw [hw5]; exact HA4.out.drewN q
    have HF5 : Hid (IsBools w5 vb (marks (fhit n l) l.length)) := by rw [hw5]; exact HF4.out.drewN q
    have HU5 : Hid (IsBools w5 vc (marks (hitAt n l) l.length)) := by rw [hw5]; exact HU4.out.drewN q
    clear hw5 H4 HB4 HA4 HF4 HU4
    by_cases hroom : firsts l l.length ≤ n
    · have HMA : Hid (missed (marks (chit n l) l.length) (marks (chit n l) l.length).length = firsts l l.length) := missed_eq fun i hi => clock_room hn1 hroom hi
      have HMF : Hid (missed (marks (fhit n l) l.length) (marks (fhit n l) l.length).length = firsts l l.length) := missed_eq fun i hi => fifo_room hroom hi
      have HMU : Hid (missed (marks (hitAt n l) l.length) (marks (hitAt n l) l.length).length = firsts l l.length) := missed_eq fun i hi => lru_room hroom hi
      have hd0 : hd = 0 := HHD.out.symm.trans (HCH.out hroom).1
      subst hd0
      rw [Nat.min_eq_left hroom]
      clear HCL HCH HHD
      generalize firsts l l.length = m at *
      have hgt : ¬ ((n : Int) < (m : Int)) := by omega
      go_wp2_with (go_at_call 11; fail)
      refine (misses_any _ _ _ HA5.out).mono ?_
      rintro e w6 ⟨rfl, hw⟩
      have hw := hw.symm
      subst hw
      rw [HMA.out]
      go_wp2_with (go_at_call 11; fail)
      refine (misses_any _ _ _ HF5.out).mono ?_
      rintro e w6 ⟨rfl, hw⟩
      have hw := hw.symm
      subst hw
      rw [HMF.out]
      go_wp2_with (go_at_call 11; fail)
      refine (misses_any _ _ _ HU5.out).mono ?_
      rintro e w6 ⟨rfl, hw⟩
      have hw := hw.symm
      subst hw
      rw [HMU.out]
      go_wp2
      go_ret
      exact ⟨rfl, HB5.out⟩
    · have HMA : Hid (firsts l l.length ≤ missed (marks (chit n l) l.length) (marks (chit n l) l.length).length) := missed_ge fun i hi h => clock_seen hn1 hi h
      have HMF : Hid (firsts l l.length ≤ missed (marks (fhit n l) l.length) (marks (fhit n l) l.length).length) := missed_ge fun i hi h => fifo_seen hi h
      have HMU : Hid (firsts l l.length ≤ missed (marks (hitAt n l) l.length) (marks (hitAt n l) l.length).length) := missed_ge fun i _ h => lru_seen h
      rw [Nat.min_eq_right (by omega)]
      clear HCL HCH HHD
      generalize firsts l l.length = m at *
      have hgt : (n : Int) < (m : Int) := by omega
      go_wp2_with (go_at_call 11; fail)
      refine (misses_any _ _ _ HA5.out).mono ?_
      rintro e w6 ⟨rfl, hw⟩
      have hw := hw.symm
      subst hw
      generalize missed (marks (chit n l) l.length) (marks (chit n l) l.length).length = a at *
      have hma : (m : Int) ≤ (a : Int) := by have := HMA.out; omega
      go_wp2_with (go_at_call 11; fail)
      refine (misses_any _ _ _ HF5.out).mono ?_
      rintro e w6 ⟨rfl, hw⟩
      have hw := hw.symm
      subst hw
      generalize missed (marks (fhit n l) l.length) (marks (fhit n l) l.length).length = b at *
      have hmb : (m : Int) ≤ (b : Int) := by have := HMF.out; omega
      go_wp2_with (go_at_call 11; fail)
      refine (misses_any _ _ _ HU5.out).mono ?_
      rintro e w6 ⟨rfl, hw⟩
      have hw := hw.symm
      subst hw
      generalize missed (marks (hitAt n l) l.length) (marks (hitAt n l) l.length).length = c at *
      have hmc : (m : Int) ≤ (c : Int) := by have := HMU.out; omega
      go_wp2
      go_ret
      exact ⟨rfl, HB5.out⟩
  · have HC : Hid (chk l s ≠ 0) := hc
    clear hc
    generalize hcn : chk l s = c at *
    have HCN : Hid (chk l s = c) := hcn
    clear hcn
    have HEV : Hid (errV c = .iface 47 (.int .i64 c)) := errV_pos HC.out
    go_enter Try.func4, Try.ntmps4
    go_wp2_with (first | (go_at_call 5; go_must (refine (chance_any _).mono ?_; rintro e w1 ⟨rfl, hb1⟩)) | (go_at_call 6; fail))
    have H1 : Hid (IsInts w1 v l) := HV.out.below hb1
    refine (clock_any _ l s _ H1.out).mono ?_
    rintro e w2 ⟨va, vl, rfl, _, _, hb2⟩
    rw [HCN.out, HEV.out]
    have H2 : Hid (IsInts w2 v l) := H1.out.below hb2
    have HB2 : Hid (Below w.heap.size w w2) := hb1.trans (hb2.mono hb1.size)
    clear hb1 hb2 H1
    go_wp2_with (go_at_call 7; fail)
    refine (fifo_any _ l s _ H2.out).mono ?_
    rintro e w3 ⟨vb, vl2, rfl, _, _, hb3⟩
    rw [HCN.out, HEV.out]
    have H3 : Hid (IsInts w3 v l) := H2.out.below hb3
    have HB3 : Hid (Below w.heap.size w w3) := HB2.out.trans (hb3.mono HB2.out.size)
    clear hb3 H2 HB2
    go_wp2_with (go_at_call 9; fail)
    refine (lru_any _ l s _ H3.out).mono ?_
    rintro e w4 ⟨vc, vl3, rfl, _, _, hb4⟩
    rw [HCN.out, HEV.out]
    have HB4 : Hid (Below w.heap.size w w4) := HB3.out.trans (hb4.mono HB3.out.size)
    clear hb4 H3 HB3
    go_wp2
    go_ret
    exact ⟨rfl, HB4.out⟩

theorem clockAll_own : ownKnob Try.prog.godebug = none := by kernel_rfl
theorem clockAll_laidOut : laidOutB Try.prog = true := by kernel_rfl

set_option maxRecDepth 100000 in
theorem clockAll_lifted (os : Os) (started : os.Started) (H : Type) (enc : TypeId × Value → H) :
    ReturnsInHanded {} Try.checked os 4 .any (Rows.clockAllSpec.pre6 enc Try.prog Try.f4 Rows.clockAllRow.domain false) (Rows.clockAllSpec.post enc Try.prog Try.f4 false true false false) := by
  refine returnsInHanded_of_change (C := Try.checked) clockAll_own started (by kernel_rfl) Try.func4
    (ChangeSpec.witness6 (enc := enc) (C := Try.checked) false ⟨#[], #[.slice none 0 0, .int .i64 0], []⟩ 8 (by kernel_rfl) (by kernel_rfl) (by kernel_rfl) (by kernel_rfl)) ?_
  intro W base args ds gs before hval0 hW _ _
  have hval : ∀ (j : Nat) t v, Try.f4.params[j]? = some t → args[j]? = some v → Value.okWide Try.prog W .any base t v := hval0
  have hW' : DataW.Whole enc Try.prog Try.f4.params.toList Rows.clockAllSpec.vars false W args.toList ds gs before := hW
  obtain ⟨p, q, hA0, hV, rfl, hfz, hnd⟩ := hW
  have hA : DataW.TrodAll enc Try.prog W 0 (fun _ => true) true Try.f4.params.toList args.toList ds p := hA0
  rw [Try.params4] at hA hval
  obtain ⟨v0, vs0, d0, ds0, p0, q0, hargs, rfl, rfl, h0, r0⟩ := trodAll_cons hA
  obtain ⟨v1, vs1, d1, ds1, p1, q1, rfl, rfl, rfl, h1, r1⟩ := trodAll_cons r0
  obtain ⟨rfl, rfl, rfl⟩ := trodAll_nil r1
  obtain rfl : args = #[v0, v1] := by cases args; simp_all
  obtain ⟨rfl, rfl⟩ := trodVars_none hV
  obtain ⟨n1, rfl, rfl, rfl, wn1⟩ := open_int Try.underlying3 (hval 1 3 v1 rfl rfl) h1
  obtain ⟨l0, ao0, cap0, hv0, hl0⟩ := arg_ints Try.underlying22 Try.underlying3 (by kernel_rfl) (hval 0 22 v0 rfl rfl) h0
  clear hA0 hval0
  refine (clockAll_any v0 l0 n1 W hl0 ⟨ao0, cap0, hv0⟩).mono fun e W' ⟨he, hb⟩ => ?_
  subst he
  exact ⟨_, rfl, law_post hW' hb clockAll_laidOut rfl (by kernel_rfl) (by kernel_rfl) Try.underlying4 rfl rfl rfl⟩

theorem clockAll_holds : Rows.ClockAllSaid :=
  OpenClaim.holds_of_wide 4 Try.f4 rfl rfl rfl rfl rfl rfl rfl ⟨rfl, rfl, rfl, rfl, rfl⟩ rfl rfl rfl rfl rfl (by kernel_rfl) Try.func4 (by kernel_rfl)
    (of_decide_eq_true (by kernel_rfl)) (by unfold Func.isWrapper; first | (rw [if_pos (by decide +kernel)]; kernel_rfl) | (rw [if_neg (by decide +kernel)]; exact ⟨rfl, rfl⟩))
    (fun os started H enc _ => clockAll_lifted os started H enc)
end Go.Proofs.Ytkeaeekbnmlbjaa
