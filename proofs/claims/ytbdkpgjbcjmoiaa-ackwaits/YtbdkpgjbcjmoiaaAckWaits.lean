/- AckWaits is proved: for every list of times and every price, in whatever memory and on every schedule, it returns true and leaves its argument as it was: what is told at one time did not wait longer, together, than the price, and would have, one later; all is told. No condition. -/
import Derived.Test.YtbdkpgjbcjmoiaaAckWaitsL
import Derived.Test.YtbdkpgjbcjmoiaaLawIn2
import Derived.Test.YtbdkpgjbcjmoiaaLawkit
namespace Go.Proofs.Ytbdkpgjbcjmoiaa
set_option maxRecDepth 100000
open Go.ChangeShapes Go.WideShapes Go.ChangeAt Go.RowKit Go.Sort

set_option maxHeartbeats 4000000 in
theorem awaits_any (v : Value) (l : List Int) (p : Int) (w : World) (hv : IsInts w v l) (_ : ∃ ao cap, v = .slice ao l.length cap) :
    Calls Try.prog 6 #[v, .int .i64 p] w fun e w' => e = .returned (.bool true) ∧ Below w.heap.size w w' := by
  have HV : Hid (IsInts w v l) := hv
  obtain ⟨ao, cap, rfl, hcap, _⟩ := hv.opened
  unfold maxLen at hcap
  clear hv
  go_enter Try.func6, Try.ntmps6
  go_wp2_with (first | (go_at_call 7; go_must (refine (afact_any _).mono ?_; rintro e w1 ⟨rfl, hb1⟩; have HB1 : Hid (Below w.heap.size w w1) := hb1; clear hb1)) | (go_at_call 8; fail))
  refine (arun_any _ l p _ (HV.out.below HB1.out)).mono ?_
  rintro e w2 ⟨vp, rfl, hO, hb2⟩
  have HB2 : Hid (Below w.heap.size w w2) := HB1.out.trans (hb2.mono HB1.out.size)
  clear hb2 HB1
  by_cases hc : chkA l p = 0
  case neg =>
    have hn : chkA l p = 1 ∨ chkA l p = 4 ∨ chkA l p = 6 := by have := chkA_cases l p; omega
    have ht : toldA l p = [] := by unfold toldA; rw [if_neg hc]
    rw [ht] at hO
    obtain ⟨at_, ac, rfl⟩ := hO.form
    generalize paidA l p = N at *
    rcases hn with hn | hn | hn
    all_goals
      rw [hn]
      clear hn hc hO ht
      simp only [errV, List.length_nil]
      go_wp2
      go_ret
      exact ⟨rfl, HB2.out⟩
  have F := chkA_zero hc
  have HF : Hid (FineA l p) := F
  have hn : paidA l p = tc p l := by unfold paidA; rw [if_pos hc]
  have ht : toldA l p = tl p l := by unfold toldA; rw [if_pos hc]
  have hp := F.price
  have hl20 := F.many
  rw [ht] at hO
  rw [hc, hn, show errV 0 = .nilIface from rfl]
  have HL : Hid (IsInts w2 vp (tl p l)) := hO.isInts
  have HV2 : Hid (IsInts w2 (.slice ao l.length cap) l) := HV.out.below HB2.out
  obtain ⟨al, cl, rfl, hcl, hcells⟩ := HL.out.opened
  unfold maxLen at hcl
  obtain ⟨_, _, hv2, _, hcv⟩ := HV2.out.opened
  simp only [Value.slice.injEq, true_and] at hv2
  obtain ⟨rfl, rfl⟩ := hv2
  have HC : Hid (∀ k, k < (tl p l).length → ∃ b off, al = some ⟨b, off, none⟩ ∧ (tl p l).length ≤ cl ∧ b < w2.heap.size ∧ ∀ j, j < (tl p l).length → w2.cell? ⟨b, off + j, none⟩ = some (.int .i64 ((tl p l)[j]?.getD 0))) := hcells
  have HCV : Hid (∀ k, k < l.length → ∃ b off, ao = some ⟨b, off, none⟩ ∧ l.length ≤ cap ∧ b < w2.heap.size ∧ ∀ j, j < l.length → w2.cell? ⟨b, off + j, none⟩ = some (.int .i64 (l[j]?.getD 0))) := hcv
  have H0 : Hid (∀ x, x ∈ l → 0 ≤ x) := fun x hx => (F.times x hx).1
  have HT0 : Hid (∀ k, k < l.length → 0 ≤ l[k]?.getD 0 ∧ l[k]?.getD 0 ≤ 1000) := fun k hk => by rw [List.getElem?_eq_getElem hk]; exact F.times _ (List.getElem_mem hk)
  have hlen : (tl p l).length ≤ 20 := by have := told_few p l.length l; unfold tl; omega
  have hST : Hid (∀ {i f many sum}, Told l p i f many sum → i < (tl p l).length → ∀ {a}, (tl p l)[i]?.getD 0 = a → f < a ∧ 0 ≤ a ∧ a ≤ 1020 ∧ 0 < manyTo f a l l.length ∧ lateTo f a l l.length ≤ p ∧ p < lateTo f (a+1) l l.length ∧ Told l p (i+1) a (many + manyTo f a l l.length) (sum + lateTo f a l l.length + p)) := fun h hi _ ha => h.step F hi ha
  have HE : Hid (∀ {i f many sum}, Told l p i f many sum → (tl p l).length ≤ i → many = l.length ∧ sum = tc p l) := fun h hi => h.atEnd F hi
  have HS0 : Hid (Told l p 0 (-1) 0 0) := Told.start F
  have HM : Hid (∀ {i f many sum}, Told l p i f many sum → sum ≤ 800 ∧ many ≤ 20 ∧ 0 ≤ sum ∧ -1 ≤ f ∧ f ≤ 1020) := fun h => ⟨(h.most F).1, (h.most F).2, h.pos, h.from_⟩
  have htc := tc_most F
  clear hcells hcv hO hc hn ht F HV HL HV2
  have hcl2 : (tl p l).length ≤ 20 := hlen
  generalize hnl : (tl p l).length = nl at *
  generalize tc p l = N at *
  go_wp2
  go_loopw [9, 10, 11, 12] (fun sm td fr ix wr => ∃ (i many q : Nat) (f sum : Int), i ≤ nl ∧ ix = .int .i64 i ∧ td = .int .i64 many ∧ sm = .int .i64 sum ∧ fr = .int .i64 f ∧ wr = w2.drewN q ∧ Hid (Told l p i f many sum)) (fun _ _ _ ix _ => nl - (intOf ix).toNat)
  case atStart => exact ⟨0, 0, 0, -1, 0, by omega, rfl, rfl, rfl, rfl, rfl, HS0.out⟩
  case round =>
    obtain ⟨i, many, q, f, sum, hi, rfl, rfl, rfl, rfl, rfl, HT⟩ := hrel
    obtain ⟨hm1, hm2, hm3, hm4, hm5⟩ := HM.out HT.out
    by_cases hlt : i < nl
    · obtain ⟨b, off, rfl, hlc, _, hcell⟩ := HC.out i hlt
      have hci0 := hcell i hlt
      obtain ⟨a, ha⟩ : ∃ a, (tl p l)[i]?.getD 0 = a := ⟨_, rfl⟩
      obtain ⟨hfa, ha0, ha1, hmm, hnow, hnext, hT2⟩ := hST.out HT.out hlt ha
      have HT2 : Hid (Told l p (i+1) a (many + manyTo f a l l.length) (sum + lateTo f a l l.length + p)) := hT2
      rw [ha] at hci0
      have HCI : Hid (∀ q, (w2.drewN q).cell? ⟨b, off + i, none⟩ = some (.int .i64 a)) := fun _ => hci0
      have hci := HCI.out q
      have HW : Hid (within a 0 3000 = true) := by unfold Hid within; simp; omega
      have hnf : ¬ a ≤ f := by omega
      have HEND : Hid (0 < manyTo f a l l.length ∧ lateTo f a l l.length ≤ p ∧ p < lateTo f (a+1) l l.length) := ⟨hmm, hnow, hnext⟩
      have HBD : Hid (∀ k, 0 ≤ lateTo f a l k ∧ lateTo f a l k ≤ 80000 ∧ 0 ≤ lateTo f (a+1) l k ∧ lateTo f (a+1) l k ≤ 80000 ∧ manyTo f a l k ≤ 20) := fun k => by
        have h1 := lateTo_bound (f := f) hl20 H0.out (show 0 ≤ a ∧ a ≤ 4000 by omega) k
        have h2 := lateTo_bound (f := f) hl20 H0.out (show 0 ≤ a + 1 ∧ a + 1 ≤ 4000 by omega) k
        have h3 := manyTo_le (f := f) (a := a) (l := l) k
        omega
      clear hcell ha hmm hnow hnext hT2 hci0
      go_wp2_with (go_at_call 10; go_must (refine (within_any _ _ _ _).mono ?_; rintro e w' ⟨rfl, hw⟩; have hw := hw.symm; subst hw; rw [HW.out]))
      clear hci
      go_loopw [13, 14, 15, 16] (fun nw nx mn kx wr => ∃ (k q2 : Nat), k ≤ l.length ∧ kx = .int .i64 k ∧ nw = .int .i64 (lateTo f a l k) ∧ nx = .int .i64 (lateTo f (a+1) l k) ∧ mn = .int .i64 (manyTo f a l k) ∧ wr = w2.drewN q2) (fun _ _ _ kx _ => l.length - (intOf kx).toNat)
      case atStart => exact ⟨0, q, by omega, rfl, rfl, rfl, rfl, rfl⟩
      case round =>
        obtain ⟨k, q2, hk, rfl, rfl, rfl, rfl, rfl⟩ := hrel
        obtain ⟨g1, g2, g3, g4, g5⟩ := HBD.out k
        by_cases hkl : k < l.length
        · obtain ⟨b2, off2, rfl, hlc2, _, hcell2⟩ := HCV.out k hkl
          have hct : (w2.drewN q2).cell? ⟨b2, off2 + k, none⟩ = some (.int .i64 (l[k]?.getD 0)) := hcell2 k hkl
          have hci := HCI.out q2
          have ht := HT0.out k hkl
          obtain ⟨g6, g7, g8, g9, g10⟩ := HBD.out (k+1)
          have HW0 : Hid (∀ n, ∃ q', (w2.drewN q2).drewN n = w2.drewN q') := fun n => ⟨q2 + n, by rw [World.drewN_drewN]⟩
          by_cases c1 : f < l[k]?.getD 0
          · by_cases c2 : l[k]?.getD 0 ≤ a
            · have EM : Hid (manyTo f a l (k+1) = manyTo f a l k + 1) := manyTo_in hkl c1 c2
              have EL : Hid (lateTo f a l (k+1) = lateTo f a l k + (a - l[k]?.getD 0)) := lateTo_in hkl c1 c2
              have EN : Hid (lateTo f (a+1) l (k+1) = lateTo f (a+1) l k + (a + 1 - l[k]?.getD 0)) := lateTo_in hkl c1 (by omega)
              rw [EL.out] at g6 g7
              rw [EN.out] at g8 g9
              clear hcell2
              generalize l[k]?.getD 0 = t at *
              generalize lateTo f a l k = x at *
              generalize lateTo f (a+1) l k = y at *
              generalize manyTo f a l k = m at *
              generalize w2.drewN q2 = wq at *
              have d1 : decide (f < t) = true := decide_eq_true c1
              have d2 : decide (t ≤ a) = true := decide_eq_true c2
              have d3 : decide (t ≤ a + 1) = true := decide_eq_true (by omega)
              go_wp2
              go_quiet (fail)
              go_wp2
              go_quiet (fail)
              go_wp2
              go_quiet (fail)
              go_wp2
              go_quiet (fail)
              go_wp2
              go_roundw
              case rel => exact ⟨k + 1, (HW0.out _).choose, by omega, by go_num, by first | (rw [EL.out]; done) | (rw [EL.out]; go_num), by first | (rw [EN.out]; done) | (rw [EN.out]; go_num), by first | (rw [EM.out]; done) | (rw [EM.out]; go_num), (HW0.out _).choose_spec⟩
              case measure => simp [intOf]; omega
            · by_cases c3 : l[k]?.getD 0 ≤ a + 1
              · have EM : Hid (manyTo f a l (k+1) = manyTo f a l k) := manyTo_out hkl (by omega)
                have EL : Hid (lateTo f a l (k+1) = lateTo f a l k) := lateTo_out hkl (by omega)
                have EN : Hid (lateTo f (a+1) l (k+1) = lateTo f (a+1) l k + (a + 1 - l[k]?.getD 0)) := lateTo_in hkl c1 c3
                rw [EL.out] at g6 g7
                rw [EN.out] at g8 g9
                clear hcell2
                generalize l[k]?.getD 0 = t at *
                generalize lateTo f a l k = x at *
                generalize lateTo f (a+1) l k = y at *
                generalize manyTo f a l k = m at *
                generalize w2.drewN q2 = wq at *
                have d1 : decide (f < t) = true := decide_eq_true c1
                have d2 : decide (t ≤ a) = false := decide_eq_false c2
                have d3 : decide (t ≤ a + 1) = true := decide_eq_true c3
                go_wp2
                go_quiet (fail)
                go_wp2
                go_quiet (fail)
                go_wp2
                go_quiet (fail)
                go_wp2
                go_roundw
                case rel => exact ⟨k + 1, (HW0.out _).choose, by omega, by go_num, by first | (rw [EL.out]; done) | (rw [EL.out]; go_num), by first | (rw [EN.out]; done) | (rw [EN.out]; go_num), by first | (rw [EM.out]; done) | (rw [EM.out]; go_num), (HW0.out _).choose_spec⟩
                case measure => simp [intOf]; omega
              · have EM : Hid (manyTo f a l (k+1) = manyTo f a l k) := manyTo_out hkl (by omega)
                have EL : Hid (lateTo f a l (k+1) = lateTo f a l k) := lateTo_out hkl (by omega)
                have EN : Hid (lateTo f (a+1) l (k+1) = lateTo f (a+1) l k) := lateTo_out hkl (by omega)
                rw [EL.out] at g6 g7
                rw [EN.out] at g8 g9
                clear hcell2
                generalize l[k]?.getD 0 = t at *
                generalize lateTo f a l k = x at *
                generalize lateTo f (a+1) l k = y at *
                generalize manyTo f a l k = m at *
                generalize w2.drewN q2 = wq at *
                have d1 : decide (f < t) = true := decide_eq_true c1
                have d2 : decide (t ≤ a) = false := decide_eq_false c2
                have d3 : decide (t ≤ a + 1) = false := decide_eq_false c3
                go_wp2
                go_quiet (fail)
                go_wp2
                go_quiet (fail)
                go_wp2
                go_roundw
                case rel => exact ⟨k + 1, (HW0.out _).choose, by omega, by go_num, by first | (rw [EL.out]; done) | (rw [EL.out]; go_num), by first | (rw [EN.out]; done) | (rw [EN.out]; go_num), by first | (rw [EM.out]; done) | (rw [EM.out]; go_num), (HW0.out _).choose_spec⟩
                case measure => simp [intOf]; omega
          · have EM : Hid (manyTo f a l (k+1) = manyTo f a l k) := manyTo_out hkl (by omega)
            have EL : Hid (lateTo f a l (k+1) = lateTo f a l k) := lateTo_out hkl (by omega)
            have EN : Hid (lateTo f (a+1) l (k+1) = lateTo f (a+1) l k) := lateTo_out hkl (by omega)
            rw [EL.out] at g6 g7
            rw [EN.out] at g8 g9
            clear hcell2
            generalize l[k]?.getD 0 = t at *
            generalize lateTo f a l k = x at *
            generalize lateTo f (a+1) l k = y at *
            generalize manyTo f a l k = m at *
            generalize w2.drewN q2 = wq at *
            have d1 : decide (f < t) = false := decide_eq_false c1
            go_wp2
            go_quiet (fail)
            go_wp2
            go_quiet (fail)
            go_wp2
            go_roundw
            case rel => exact ⟨k + 1, (HW0.out _).choose, by omega, by go_num, by first | (rw [EL.out]; done) | (rw [EL.out]; go_num), by first | (rw [EN.out]; done) | (rw [EN.out]; go_num), by first | (rw [EM.out]; done) | (rw [EM.out]; go_num), (HW0.out _).choose_spec⟩
            case measure => simp [intOf]; omega
        · have hkm : k = l.length := by omega
          subst hkm
          obtain ⟨e1, e2, e3⟩ := HEND.out
          have HT3 : Hid (Told l p (i+1) a (many + manyTo f a l l.length) (sum + lateTo f a l l.length + p)) := HT2.out
          obtain ⟨n1, n2, n3, _, _⟩ := HM.out HT3.out
          have hci := HCI.out q2
          clear HT2 HEND HBD
          generalize lateTo f a l l.length = x at *
          generalize lateTo f (a+1) l l.length = y at *
          generalize manyTo f a l l.length = m at *
          have z1 : ((m : Int) == 0) = false := by rw [beq_eq_false_iff_ne]; omega
          have z2 : ¬ p < x := by omega
          have z3 : ¬ y ≤ p := by omega
          go_wp2
          go_roundw
          case rel => exact ⟨i + 1, many + m, _, a, sum + x + p, by omega, by go_num, by go_num, by go_num, rfl, rfl, HT3.out⟩
          case measure => simp [intOf]; omega
    · obtain ⟨e1, e2⟩ := HE.out HT.out (by omega)
      subst e1
      subst e2
      go_wp2
      go_ret
      exact ⟨rfl, below_drewN HB2.out _⟩

theorem ackWaits_own : ownKnob Try.prog.godebug = none := by kernel_rfl
theorem ackWaits_laidOut : laidOutB Try.prog = true := by kernel_rfl

set_option maxRecDepth 100000 in
theorem ackWaits_lifted (os : Os) (started : os.Started) (H : Type) (enc : TypeId × Value → H) :
    ReturnsInHanded {} Try.checked os 6 .any (Rows.ackWaitsSpec.pre6 enc Try.prog Try.f6 Rows.ackWaitsRow.domain false) (Rows.ackWaitsSpec.post enc Try.prog Try.f6 false true false false) := by
  refine returnsInHanded_of_change (C := Try.checked) ackWaits_own started (by kernel_rfl) Try.func6
    (ChangeSpec.witness6 (enc := enc) (C := Try.checked) false ⟨#[], #[.slice none 0 0, .int .i64 0], []⟩ 8 (by kernel_rfl) (by kernel_rfl) (by kernel_rfl) (by kernel_rfl)) ?_
  intro W base args ds gs before hval0 hW _ _
  have hval : ∀ (j : Nat) t v, Try.f6.params[j]? = some t → args[j]? = some v → Value.okWide Try.prog W .any base t v := hval0
  have hW' : DataW.Whole enc Try.prog Try.f6.params.toList Rows.ackWaitsSpec.vars false W args.toList ds gs before := hW
  obtain ⟨p, q, hA0, hV, rfl, hfz, hnd⟩ := hW
  have hA : DataW.TrodAll enc Try.prog W 0 (fun _ => true) true Try.f6.params.toList args.toList ds p := hA0
  rw [Try.params6] at hA hval
  obtain ⟨v0, vs0, d0, ds0, p0, q0, hargs, rfl, rfl, h0, r0⟩ := trodAll_cons hA
  obtain ⟨v1, vs1, d1, ds1, p1, q1, rfl, rfl, rfl, h1, r1⟩ := trodAll_cons r0
  obtain ⟨rfl, rfl, rfl⟩ := trodAll_nil r1
  obtain rfl : args = #[v0, v1] := by cases args; simp_all
  obtain ⟨rfl, rfl⟩ := trodVars_none hV
  obtain ⟨n1, rfl, rfl, rfl, wn1⟩ := open_int Try.underlying3 (hval 1 3 v1 rfl rfl) h1
  obtain ⟨l0, ao0, cap0, hv0, hl0⟩ := arg_ints Try.underlying22 Try.underlying3 (by kernel_rfl) (hval 0 22 v0 rfl rfl) h0
  clear hA0 hval0
  refine (awaits_any v0 l0 n1 W hl0 ⟨ao0, cap0, hv0⟩).mono fun e W' ⟨he, hb⟩ => ?_
  subst he
  exact ⟨_, rfl, law_post hW' hb ackWaits_laidOut rfl (by kernel_rfl) (by kernel_rfl) Try.underlying4 rfl rfl rfl⟩

theorem ackWaits_holds : Rows.AckWaitsSaid :=
  OpenClaim.holds_of_wide 6 Try.f6 rfl rfl rfl rfl rfl rfl rfl ⟨rfl, rfl, rfl, rfl, rfl⟩ rfl rfl rfl rfl rfl (by kernel_rfl) Try.func6 (by kernel_rfl)
    (of_decide_eq_true (by kernel_rfl)) (by unfold Func.isWrapper; first | (rw [if_pos (by decide +kernel)]; kernel_rfl) | (rw [if_neg (by decide +kernel)]; exact ⟨rfl, rfl⟩))
    (fun os started H enc _ => ackWaits_lifted os started H enc)
end Go.Proofs.Ytbdkpgjbcjmoiaa
