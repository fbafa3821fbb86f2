/- AckLater is proved: for every list of times, every price and every delay, in whatever memory and on every schedule, it returns true and leaves its argument as it was: where all messages come so much later, all is told so much later, for as much. No condition. -/
import Derived.Test.YtbdkpgjbcjmoiaaAckWaitsL
import Derived.Test.YtbdkpgjbcjmoiaaLawIn2
import Derived.Test.YtbdkpgjbcjmoiaaLawkit
namespace Go.Proofs.Ytbdkpgjbcjmoiaa
set_option maxRecDepth 100000
open Go.ChangeShapes Go.WideShapes Go.ChangeAt Go.RowKit Go.Sort

theorem laterTo_succ {l : List Int} {b : Int} {k : Nat} (h : k < l.length) : later b (l.take (k+1)) = later b (l.take k) ++ [l[k]?.getD 0 + b] := by
  unfold later
  rw [List.take_succ_eq_append_getElem h, List.map_append, List.getElem?_eq_getElem h]; rfl
theorem laterTo_length {l : List Int} {b : Int} {k : Nat} (h : k ≤ l.length) : (later b (l.take k)).length = k := by rw [later_length, List.length_take]; omega
theorem tl_later (p b : Int) (l : List Int) : tl p (later b l) = later b (tl p l) ∧ tc p (later b l) = tc p l := by
  unfold tl tc
  rw [later_length]
  exact told_later p b l.length l

theorem told_range {p : Int} : ∀ (f : Nat) (ts : List Int), FineA ts p → ∀ x, x ∈ told p f ts → 0 ≤ x ∧ x ≤ 1020
  | 0, _, _, x, hx => by simp [told] at hx
  | f + 1, [], _, x, hx => by simp [told] at hx
  | f + 1, t :: r, hf, x, hx => by
    rw [told] at hx
    rcases List.mem_cons.1 hx with rfl | hx
    · exact first_le hf (by simp)
    · exact told_range f _ (hf.past _) x hx
theorem tl_range {p : Int} {l : List Int} (hf : FineA l p) {k : Nat} (hk : k < (tl p l).length) : 0 ≤ (tl p l)[k]?.getD 0 ∧ (tl p l)[k]?.getD 0 ≤ 1020 := by
  rw [List.getElem?_eq_getElem hk]
  exact told_range _ _ hf _ (List.getElem_mem hk)

set_option maxHeartbeats 4000000 in
theorem alater_any (v : Value) (l : List Int) (p by_ : Int) (w : World) (hv : IsInts w v l) (_ : ∃ ao cap, v = .slice ao l.length cap) :
    Calls Try.prog 5 #[v, .int .i64 p, .int .i64 by_] w fun e w' => e = .returned (.bool true) ∧ Below w.heap.size w w' := by
  have HV : Hid (IsInts w v l) := hv
  obtain ⟨ao, cap, rfl, hcap, ho⟩ := hv.opened
  have HO : Hid (∀ k, k < l.length → ∃ b off, ao = some ⟨b, off, none⟩ ∧ l.length ≤ cap ∧ b < w.heap.size ∧ ∀ j, j < l.length → w.cell? ⟨b, off + j, none⟩ = some (.int .i64 (l[j]?.getD 0))) := ho
  unfold maxLen at hcap
  clear hv ho
  obtain ⟨i0, hi, hz0, hz1, hz2⟩ := info_parts Try.info3
  have HI : Hid (Try.prog.info? 3 = some i0 ∧ i0.zero = some (.int .i64 0) ∧ i0.size = 1 ∧ i0.bytes = 8) := ⟨hi, hz0, hz1, hz2⟩
  clear hi hz0 hz1 hz2
  by_cases hb : within by_ 0 1000 = true
  case neg =>
    have HK : Hid (within by_ 0 1000 = false) := by unfold Hid; simpa using hb
    clear hb
    go_enter Try.func5, Try.ntmps5
    go_wp2_with (first | (go_at_call 7; go_must (refine (afact_any _).mono ?_; rintro e w1 ⟨rfl, hb1⟩; have HB1 : Hid (Below w.heap.size w w1) := hb1; clear hb1)) | (go_at_call 10; go_must (refine (within_any _ _ _ _).mono ?_; rintro e w' ⟨rfl, hw⟩; have hw := hw.symm; subst hw; rw [HK.out])))
    go_ret
    exact ⟨rfl, HB1.out⟩
  have HK : Hid (within by_ 0 1000 = true) := hb
  simp [within] at hb
  go_enter Try.func5, Try.ntmps5
  go_wp2_with (first | (go_at_call 7; go_must (refine (afact_any _).mono ?_; rintro e w1 ⟨rfl, hb1⟩; have HB1 : Hid (Below w.heap.size w w1) := hb1; clear hb1)) | (go_at_call 10; go_must (refine (within_any _ _ _ _).mono ?_; rintro e w' ⟨rfl, hw⟩; have hw := hw.symm; subst hw; rw [HK.out])))
  go_loopw [8, 9] (fun vm i wr => ∃ k : Nat, k ≤ l.length ∧ k ≤ 21 ∧ i = .int .i64 k ∧ OwnI wr w.heap.size vm (later by_ (l.take k)) ∧ Below w.heap.size w wr) (fun _ i _ => 21 - (intOf i).toNat)
  case atStart => exact ⟨0, Nat.zero_le _, by omega, rfl, OwnI.nil _ _, HB1.out⟩
  case round =>
    obtain ⟨k, hk, hk7, rfl, hom, hbr⟩ := hrel
    have HBR : Hid (Below w.heap.size w wr) := hbr
    obtain ⟨am, cm, hvm⟩ := hom.form
    rw [laterTo_length hk] at hvm
    subst hvm
    have HOM : Hid (OwnI wr w.heap.size (.slice am k cm) (later by_ (l.take k))) := hom
    clear hom hbr
    by_cases hlt : k < l.length
    · by_cases hlt7 : k < 21
      · obtain ⟨b, off, rfl, hlc, hbw, hcell⟩ := HO.out k hlt
        have hck : wr.cell? ⟨b, off + k, none⟩ = some (.int .i64 (l[k]?.getD 0)) := (HBR.out.cell (by exact hbw)).trans (hcell k hlt)
        have HL : Hid ((later by_ (l.take k)).length = k) := laterTo_length hk
        have HR : Hid (later by_ (l.take (k+1)) = later by_ (l.take k) ++ [l[k]?.getD 0 + by_]) := laterTo_succ hlt
        clear hcell
        generalize later by_ (l.take k) = lk at *
        generalize l[k]?.getD 0 = q at *
        by_cases hq : within q 0 1000 = true
        · have HQ : Hid (within q 0 1000 = true) := hq
          simp [within] at hq
          go_wp2_with (first | (go_at_call 10; go_must (refine (within_any _ _ _ _).mono ?_; rintro e w' ⟨rfl, hw⟩; have hw := hw.symm; subst hw; rw [HQ.out])) | (at_builtin; (refine wpList_append_own _ rfl _ _ 22 rfl w.heap.size 3 i0 (.int .i64 0) 1 8 Try.underlying22 HI.out.1 HI.out.2.1 HI.out.2.2.1 HI.out.2.2.2 rfl (by decide) _ k (lk.map (Value.int .i64)) rfl (World.ownsRow.alloc (HOM.out.rows HL.out rfl) _) ⟨wr.heap.size, 0, none⟩ 1 1 [.int .i64 (q + by_)] rfl rfl (by exact new_one _ _ _) (one_cell _) (by unfold maxLen; omega) (by omega) (by have := HBR.out.size; simp; omega) ?_; intro v2 w2 hown' hgrow _; have R := keeps_append HOM.out HL.out HBR.out.size hown' hgrow; have HR2 : Hid (OwnI w2 w.heap.size v2 (lk ++ [q + by_])) := R.1; have HK2 : Hid (Below w.heap.size w w2) := R.2.2 _ (Nat.le_refl _) HBR.out; clear hown' hgrow R)))
          go_roundw
          case rel => exact ⟨k + 1, by omega, by omega, by go_num, by rw [HR.out]; exact HR2.out, HK2.out⟩
          case measure => simp [intOf]; omega
        · have HQ : Hid (within q 0 1000 = false) := by unfold Hid; simpa using hq
          clear hq
          go_wp2_with (go_at_call 10; go_must (refine (within_any _ _ _ _).mono ?_; rintro e w' ⟨rfl, hw⟩; have hw := hw.symm; subst hw; rw [HQ.out]))
          go_ret
          exact ⟨rfl, HBR.out⟩
      · have hk77 : k = 21 := by omega
        subst hk77
        have HC4 : Hid (chkA l p = 4) := chkA_long (by omega)
        generalize later by_ (l.take 21) = lk at *
        go_wp2_with (go_at_call 8; fail)
        refine (arun_any _ l p _ (HV.out.below HBR.out)).mono ?_
        rintro e w2 ⟨vp, rfl, hO2, hb2⟩
        have HB2 : Hid (Below w.heap.size w w2) := HBR.out.trans (hb2.mono HBR.out.size)
        have HM2 : Hid (IsInts w2 (.slice am 21 cm) lk) := HOM.out.isInts.below hb2
        have HP2 : Hid (IsInts w2 vp (toldA l p)) := hO2.isInts
        clear hb2 hO2
        go_wp2_with (go_at_call 8; fail)
        refine (arun_any _ lk p _ HM2.out).mono ?_
        rintro e w3 ⟨vp3, rfl, hO3, hb3⟩
        have HB3 : Hid (Below w.heap.size w w3) := HB2.out.trans (hb3.mono HB2.out.size)
        have HM3 : Hid (IsInts w3 (.slice am 21 cm) lk) := HM2.out.below hb3
        have HP3 : Hid (IsInts w3 vp (toldA l p)) := HP2.out.below hb3
        have HQ3 : Hid (IsInts w3 vp3 (toldA lk p)) := hO3.isInts
        clear hb3 hO3
        go_wp2_with (go_at_call 9; fail)
        refine (wleast_any _ l p _ (HV.out.below HB3.out)).mono ?_
        rintro e w4 ⟨x, rfl, hx, hb4⟩
        have HB4 : Hid (Below w.heap.size w w4) := HB3.out.trans (hb4.mono HB3.out.size)
        have HM4 : Hid (IsInts w4 (.slice am 21 cm) lk) := HM3.out.below hb4
        have HP4 : Hid (IsInts w4 vp (toldA l p)) := HP3.out.below hb4
        have HQ4 : Hid (IsInts w4 vp3 (toldA lk p)) := HQ3.out.below hb4
        have HX : Hid (LeastA l p x) := hx
        clear hb4 hx
        go_wp2_with (go_at_call 9; fail)
        refine (wleast_any _ lk p _ HM4.out).mono ?_
        rintro e w5 ⟨y, rfl, hy, hb5⟩
        have HB5 : Hid (Below w.heap.size w w5) := HB4.out.trans (hb5.mono HB4.out.size)
        have HP5 : Hid (IsInts w5 vp (toldA l p)) := HP4.out.below hb5
        have HQ5 : Hid (IsInts w5 vp3 (toldA lk p)) := HQ4.out.below hb5
        clear hb5 HV HO HOM HM2 HM3 HM4 HP2 HP3 HP4 HQ3 HQ4
        rw [HC4.out]
        generalize errV (chkA lk p) = er at *
        generalize paidA l p = N1 at *
        generalize paidA lk p = N2 at *
        clear HX hy HP5 HQ5
        simp only [errV]
        go_wp2
        go_ret
        exact ⟨rfl, HB5.out⟩
    · have hkc : k = l.length := by omega
      subst hkc
      obtain ⟨lk, hlk⟩ : ∃ lk, later by_ (l.take l.length) = lk := ⟨_, rfl⟩
      have HLK : Hid (later by_ l = lk) := by unfold Hid; rw [← hlk, List.take_length]
      rw [hlk] at HOM
      clear hlk hlt
      go_wp2_with (go_at_call 8; fail)
      refine (arun_any _ l p _ (HV.out.below HBR.out)).mono ?_
      rintro e w2 ⟨vp, rfl, hO2, hb2⟩
      have HB2 : Hid (Below w.heap.size w w2) := HBR.out.trans (hb2.mono HBR.out.size)
      have HM2 : Hid (IsInts w2 (.slice am l.length cm) lk) := HOM.out.isInts.below hb2
      have HP2 : Hid (IsInts w2 vp (toldA l p)) := hO2.isInts
      clear hb2 hO2
      go_wp2_with (go_at_call 8; fail)
      refine (arun_any _ lk p _ HM2.out).mono ?_
      rintro e w3 ⟨vp3, rfl, hO3, hb3⟩
      have HB3 : Hid (Below w.heap.size w w3) := HB2.out.trans (hb3.mono HB2.out.size)
      have HM3 : Hid (IsInts w3 (.slice am l.length cm) lk) := HM2.out.below hb3
      have HP3 : Hid (IsInts w3 vp (toldA l p)) := HP2.out.below hb3
      have HQ3 : Hid (IsInts w3 vp3 (toldA lk p)) := hO3.isInts
      clear hb3 hO3
      go_wp2_with (go_at_call 9; fail)
      refine (wleast_any _ l p _ (HV.out.below HB3.out)).mono ?_
      rintro e w4 ⟨x, rfl, hx, hb4⟩
      have HB4 : Hid (Below w.heap.size w w4) := HB3.out.trans (hb4.mono HB3.out.size)
      have HM4 : Hid (IsInts w4 (.slice am l.length cm) lk) := HM3.out.below hb4
      have HP4 : Hid (IsInts w4 vp (toldA l p)) := HP3.out.below hb4
      have HQ4 : Hid (IsInts w4 vp3 (toldA lk p)) := HQ3.out.below hb4
      have HX : Hid (LeastA l p x) := hx
      clear hb4 hx
      go_wp2_with (go_at_call 9; fail)
      refine (wleast_any _ lk p _ HM4.out).mono ?_
      rintro e w5 ⟨y, rfl, hy, hb5⟩
      have HB5 : Hid (Below w.heap.size w w5) := HB4.out.trans (hb5.mono HB4.out.size)
      have HP5 : Hid (IsInts w5 vp (toldA l p)) := HP4.out.below hb5
      have HQ5 : Hid (IsInts w5 vp3 (toldA lk p)) := HQ4.out.below hb5
      clear hb5 HV HO HOM HM2 HM3 HM4 HP2 HP3 HP4 HQ3 HQ4
      by_cases hc : chkA l p = 0
      case neg =>
        have hn : chkA l p = 1 ∨ chkA l p = 4 ∨ chkA l p = 6 := by have := chkA_cases l p; omega
        generalize paidA l p = N1 at *
        generalize paidA lk p = N2 at *
        clear HX hy HP5 HQ5
        generalize errV (chkA lk p) = er at *
        rcases hn with hn | hn | hn
        all_goals
          rw [hn]
          clear hn hc
          simp only [errV]
          go_wp2
          go_ret
          exact ⟨rfl, HB5.out⟩
      by_cases hc2 : chkA lk p = 0
      case neg =>
        have hn : chkA lk p = 1 ∨ chkA lk p = 4 ∨ chkA lk p = 6 := by have := chkA_cases lk p; omega
        generalize paidA l p = N1 at *
        generalize paidA lk p = N2 at *
        clear HX hy HP5 HQ5
        rw [hc]
        rcases hn with hn | hn | hn
        all_goals
          rw [hn]
          clear hn hc hc2
          simp only [errV, if_true]
          go_wp2
          go_ret
          exact ⟨rfl, HB5.out⟩
      have F := chkA_zero hc
      have hp := F.price
      have e1 : paidA lk p = paidA l p := by unfold paidA; rw [if_pos hc, if_pos hc2, ← HLK.out]; exact (tl_later p by_ l).2
      have e2 : toldA lk p = later by_ (toldA l p) := by unfold toldA; rw [if_pos hc, if_pos hc2, ← HLK.out]; exact (tl_later p by_ l).1
      have e3 : y = x := by
        have h2 := hy.ok hc2
        rw [← HLK.out] at h2
        have := leastTell_unique (leastTell_later (HX.out.ok hc)) h2
        omega
      have e4 : (toldA l p).length ≤ 20 := by
        unfold toldA; rw [if_pos hc]
        have := told_few p l.length l
        have := F.many
        unfold tl; omega
      subst e3
      rw [hc, hc2, e1]
      rw [e2] at HQ5
      simp only [errV, if_true]
      obtain ⟨al, cl, rfl, hcl, hcells⟩ := HP5.out.opened
      obtain ⟨al2, cl2, hv2, hcl2, hcells2⟩ := HQ5.out.opened
      subst hv2
      rw [later_length] at hcells2 HQ5 ⊢
      have HTB : Hid (∀ k, k < (toldA l p).length → 0 ≤ (toldA l p)[k]?.getD 0 ∧ (toldA l p)[k]?.getD 0 ≤ 1020) := fun k hk => by
        have ht : toldA l p = tl p l := by unfold toldA; rw [if_pos hc]
        rw [ht] at hk ⊢
        exact tl_range F hk
      have HAT : Hid (∀ k, k < (toldA l p).length → (later by_ (toldA l p))[k]?.getD 0 = (toldA l p)[k]?.getD 0 + by_) := fun k hk => by
        unfold later
        rw [List.getElem?_map, List.getElem?_eq_getElem hk]; rfl
      have HC1 : Hid (∀ k, k < (toldA l p).length → ∃ b off, al = some ⟨b, off, none⟩ ∧ (toldA l p).length ≤ cl ∧ b < w5.heap.size ∧ ∀ j, j < (toldA l p).length → w5.cell? ⟨b, off + j, none⟩ = some (.int .i64 ((toldA l p)[j]?.getD 0))) := hcells
      have HC2 : Hid (∀ k, k < (toldA l p).length → ∃ b off, al2 = some ⟨b, off, none⟩ ∧ (toldA l p).length ≤ cl2 ∧ b < w5.heap.size ∧ ∀ j, j < (toldA l p).length → w5.cell? ⟨b, off + j, none⟩ = some (.int .i64 ((later by_ (toldA l p))[j]?.getD 0))) := hcells2
      generalize paidA l p = N1 at *
      clear hcells hcells2 HX hy HP5 HQ5 F hc hc2 e1 e2
      unfold maxLen at hcl hcl2
      generalize (toldA l p).length = nl at *
      go_wp2
      go_loopw [20] (fun i wr => ∃ k q : Nat, k ≤ nl ∧ i = .int .i64 k ∧ wr = w5.drewN q) (fun i _ => nl - (intOf i).toNat)
      case atStart => exact ⟨0, 0, by omega, rfl, rfl⟩
      case round =>
        obtain ⟨k, q, hk, rfl, rfl⟩ := hrel
        by_cases hlt : k < nl
        · obtain ⟨b, off, rfl, hlc, _, hcell⟩ := HC1.out k hlt
          obtain ⟨b2, off2, rfl, hlc2, _, hcell2⟩ := HC2.out k hlt
          have h1 : (w5.drewN q).cell? ⟨b, off + k, none⟩ = some (.int .i64 ((toldA l p)[k]?.getD 0)) := hcell k hlt
          have h2 : (w5.drewN q).cell? ⟨b2, off2 + k, none⟩ = some (.int .i64 ((later by_ (toldA l p))[k]?.getD 0)) := hcell2 k hlt
          rw [HAT.out k hlt] at h2
          have HW0 : Hid (∀ n, ∃ q', (w5.drewN q).drewN n = w5.drewN q') := fun n => ⟨q + n, by rw [World.drewN_drewN]⟩
          have hr := HTB.out k hlt
          clear hcell hcell2
          generalize (toldA l p)[k]?.getD 0 = t at *
          generalize w5.drewN q = wq at *
          go_wp2
          go_quiet (fail)
          go_wp2
          go_roundw
          case rel => exact ⟨k + 1, (HW0.out _).choose, by omega, by go_num, (HW0.out _).choose_spec⟩
          case measure => simp [intOf]; omega
        · go_wp2
          go_ret
          exact ⟨rfl, below_drewN HB5.out _⟩

theorem ackLater_own : ownKnob Try.prog.godebug = none := by kernel_rfl
theorem ackLater_laidOut : laidOutB Try.prog = true := by kernel_rfl

set_option maxRecDepth 100000 in
theorem ackLater_lifted (os : Os) (started : os.Started) (H : Type) (enc : TypeId × Value → H) :
    ReturnsInHanded {} Try.checked os 5 .any (Rows.ackLaterSpec.pre6 enc Try.prog Try.f5 Rows.ackLaterRow.domain false) (Rows.ackLaterSpec.post enc Try.prog Try.f5 false true false false) := by
  refine returnsInHanded_of_change (C := Try.checked) ackLater_own started (by kernel_rfl) Try.func5
    (ChangeSpec.witness6 (enc := enc) (C := Try.checked) false ⟨#[], #[.slice none 0 0, .int .i64 0, .int .i64 0], []⟩ 8 (by kernel_rfl) (by kernel_rfl) (by kernel_rfl) (by kernel_rfl)) ?_
  intro W base args ds gs before hval0 hW _ _
  have hval : ∀ (j : Nat) t v, Try.f5.params[j]? = some t → args[j]? = some v → Value.okWide Try.prog W .any base t v := hval0
  have hW' : DataW.Whole enc Try.prog Try.f5.params.toList Rows.ackLaterSpec.vars false W args.toList ds gs before := hW
  obtain ⟨p, q, hA0, hV, rfl, hfz, hnd⟩ := hW
  have hA : DataW.TrodAll enc Try.prog W 0 (fun _ => true) true Try.f5.params.toList args.toList ds p := hA0
  rw [Try.params5] at hA hval
  obtain ⟨v0, vs0, d0, ds0, p0, q0, hargs, rfl, rfl, h0, r0⟩ := trodAll_cons hA
  obtain ⟨v1, vs1, d1, ds1, p1, q1, rfl, rfl, rfl, h1, r1⟩ := trodAll_cons r0
  obtain ⟨v2, vs2, d2, ds2, p2, q2, rfl, rfl, rfl, h2, r2⟩ := trodAll_cons r1
  obtain ⟨rfl, rfl, rfl⟩ := trodAll_nil r2
  obtain rfl : args = #[v0, v1, v2] := by cases args; simp_all
  obtain ⟨rfl, rfl⟩ := trodVars_none hV
  obtain ⟨n1, rfl, rfl, rfl, wn1⟩ := open_int Try.underlying3 (hval 1 3 v1 rfl rfl) h1
  obtain ⟨n2, rfl, rfl, rfl, wn2⟩ := open_int Try.underlying3 (hval 2 3 v2 rfl rfl) h2
  obtain ⟨l0, ao0, cap0, hv0, hl0⟩ := arg_ints Try.underlying22 Try.underlying3 (by kernel_rfl) (hval 0 22 v0 rfl rfl) h0
  clear hA0 hval0
  refine (alater_any v0 l0 n1 n2 W hl0 ⟨ao0, cap0, hv0⟩).mono fun e W' ⟨he, hb⟩ => ?_
  subst he
  exact ⟨_, rfl, law_post hW' hb ackLater_laidOut rfl (by kernel_rfl) (by kernel_rfl) Try.underlying4 rfl rfl rfl⟩

theorem ackLater_holds : Rows.AckLaterSaid :=
  OpenClaim.holds_of_wide 5 Try.f5 rfl rfl rfl rfl rfl rfl rfl ⟨rfl, rfl, rfl, rfl, rfl⟩ rfl rfl rfl rfl rfl (by kernel_rfl) Try.func5 (by kernel_rfl)
    (of_decide_eq_true (by kernel_rfl)) (by unfold Func.isWrapper; first | (rw [if_pos (by decide +kernel)]; kernel_rfl) | (rw [if_neg (by decide +kernel)]; exact ⟨rfl, rfl⟩))
    (fun os started H enc _ => ackLater_lifted os started H enc)
end Go.Proofs.Ytbdkpgjbcjmoiaa
