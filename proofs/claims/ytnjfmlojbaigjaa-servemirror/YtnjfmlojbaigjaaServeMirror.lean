/- ServeMirror is proved: for every list of servers and every list of asks, in whatever memory and on every schedule, it returns true and leaves its arguments as they were: where all places are the other way round, to go from both sides is as far, and all are where they were, the other way round; so is the least. No condition. -/
import Derived.Test.YtnjfmlojbaigjaaSFact
import Derived.Test.YtnjfmlojbaigjaaLawIn2
import Derived.Test.YtnjfmlojbaigjaaLawkit
import Derived.Deep.QuietTactic
namespace Go.Proofs.Ytnjfmlojbaigjaa
set_option maxRecDepth 100000
open Go.ChangeShapes Go.WideShapes Go.ChangeAt Go.RowKit Go.Sort

theorem mirTo_succ {l : List Int} {k : Nat} (h : k < l.length) : mir (l.take (k+1)) = mir (l.take k) ++ [12 - l[k]?.getD 0] := by
  rw [List.take_succ_eq_append_getElem h, List.getElem?_eq_getElem h]
  unfold mir
  rw [List.map_append]; rfl
theorem mirTo_length {l : List Int} {k : Nat} (h : k ≤ l.length) : (mir (l.take k)).length = k := by rw [mir_length, List.length_take]; omega
theorem chkS_mir {s asks : List Int} (h : chkS s asks = 0) : chkS (mir s) (mir asks) = 0 := by
  have F := chkS_zero h
  have hb : ∀ l : List Int, onLine l → (mir l).any badP = false := fun l hl => by
    rw [List.any_eq_false]
    intro z hz
    have := hl _ (mir_of hz)
    simp [badP]; omega
  unfold chkS
  rw [mir_length, mir_length, if_neg (fun e => F.some (List.eq_nil_of_length_eq_zero e)), if_neg (by have := F.few; have := F.many; omega), hb s F.line, hb asks F.asked]
  rfl
theorem ris_mir {l : List Int} (h : Ris l) : Ris (mir l).reverse := by
  unfold Ris mir
  rw [List.pairwise_reverse, List.pairwise_map]
  exact h.imp fun h => by omega
/-- In a mirror it is the same. -/
theorem mirror {s asks : List Int} (F : FineS s asks) (F2 : FineS (mir s) (mir asks)) : goCost true (mir s) (mir asks) asks.length = goCost true s asks asks.length ∧ goRow true (mir s) (mir asks) asks.length = (mir (goRow true s asks asks.length)).reverse := by
  have h1 := both_mir (row_both F.some F.line F.asked _ (Nat.le_refl asks.length))
  have h2 := row_both F2.some F2.line F2.asked asks.length (by rw [mir_length]; exact Nat.le_refl _)
  obtain ⟨p, c⟩ := both_unique _ h2 h1
  refine ⟨c, ris_unique (rowOk true F2.some F2.line F2.asked asks.length (by rw [mir_length]; exact Nat.le_refl _)).ris (ris_mir (rowOk true F.some F.line F.asked _ (Nat.le_refl _)).ris) (p.trans (List.reverse_perm _).symm)⟩
theorem mirror_at {R : List Int} {n k : Nat} (hn : R.length = n) (hk : k < n) : (mir R).reverse[n - 1 - k]?.getD 0 = 12 - R[k]?.getD 0 := by
  have hl : (mir R).length = n := by rw [mir_length]; exact hn
  rw [List.getElem?_reverse (by omega), hl, show n - 1 - (n - 1 - k) = k by omega]
  unfold mir
  rw [List.getElem?_map, List.getElem?_eq_getElem (show k < R.length by omega)]
  rfl

set_option maxHeartbeats 20000000 in
theorem smir_any (v : Value) (s : List Int) (va : Value) (asks : List Int) (w : World) (hv : IsInts w v s) (_ : ∃ ao cap, v = .slice ao s.length cap) (ha : IsInts w va asks) (_ : ∃ ao cap, va = .slice ao asks.length cap) :
    Calls Try.prog 6 #[v, va] w fun e w' => e = .returned (.bool true) ∧ Below w.heap.size w w' := by
  have HV : Hid (IsInts w v s) := hv
  have HA : Hid (IsInts w va asks) := ha
  obtain ⟨ao, cap, rfl, hcap, hos⟩ := hv.opened
  have HOS : Hid (∀ k, k < s.length → ∃ b off, ao = some ⟨b, off, none⟩ ∧ s.length ≤ cap ∧ b < w.heap.size ∧ ∀ j, j < s.length → w.cell? ⟨b, off + j, none⟩ = some (.int .i64 (s[j]?.getD 0))) := hos
  obtain ⟨aa, capa, rfl, hcapa, ho⟩ := ha.opened
  have HO : Hid (∀ k, k < asks.length → ∃ b off, aa = some ⟨b, off, none⟩ ∧ asks.length ≤ capa ∧ b < w.heap.size ∧ ∀ j, j < asks.length → w.cell? ⟨b, off + j, none⟩ = some (.int .i64 (asks[j]?.getD 0))) := ho
  obtain ⟨i0, hi, hz0, hz1, hz2⟩ := info_parts Try.info3
  have HI : Hid (Try.prog.info? 3 = some i0 ∧ i0.zero = some (.int .i64 0) ∧ i0.size = 1 ∧ i0.bytes = 8) := ⟨hi, hz0, hz1, hz2⟩
  unfold maxLen at hcap hcapa
  clear hv ha hos ho hi hz0 hz1 hz2
  go_enter Try.func6, Try.ntmps6
  go_wp2_with (first | (go_at_call 8; go_must (refine (sfact_any _).mono ?_; rintro e w1 ⟨rfl, hb1⟩; have HB1 : Hid (Below w.heap.size w w1) := hb1; clear hb1)))
  go_loopw [6, 8] (fun vm i wr => ∃ k : Nat, k ≤ s.length ∧ k ≤ 4 ∧ i = .int .i64 k ∧ OwnI wr w.heap.size vm (mir (s.take k)) ∧ Below w.heap.size w wr) (fun _ i _ => 4 - (intOf i).toNat)
  case atStart => exact ⟨0, Nat.zero_le _, by omega, rfl, OwnI.nil _ _, HB1.out⟩
  case round =>
    obtain ⟨k, hk, hk4, rfl, hom, hbr⟩ := hrel
    have HBR : Hid (Below w.heap.size w wr) := hbr
    obtain ⟨am, cm, hvm⟩ := hom.form
    rw [mirTo_length hk] at hvm
    subst hvm
    have HOM : Hid (OwnI wr w.heap.size (.slice am k cm) (mir (s.take k))) := hom
    clear hom hbr
    by_cases hgo : k < s.length ∧ k < 4
    · obtain ⟨hlt, hlt4⟩ := hgo
      obtain ⟨b, off, rfl, hlc, hbw, hcell⟩ := HOS.out k hlt
      have hck : wr.cell? ⟨b, off + k, none⟩ = some (.int .i64 (s[k]?.getD 0)) := (HBR.out.cell (by exact hbw)).trans (hcell k hlt)
      have HL : Hid ((mir (s.take k)).length = k) := mirTo_length hk
      have HR : Hid (mir (s.take (k+1)) = mir (s.take k) ++ [12 - s[k]?.getD 0]) := mirTo_succ hlt
      clear hcell
      generalize mir (s.take k) = lk at *
      generalize s[k]?.getD 0 = q at *
      by_cases hq : within q 0 12 = true
      · have HQ : Hid (within q 0 12 = true) := hq
        simp [within] at hq
        have hw12 : IntKind.i64.wrap (12 - q) = 12 - q := by rw [IntKind.wrap_i64]; omega
        go_wp2_with (first | (go_at_call 13; go_must (refine (within_any _ _ _ _).mono ?_; rintro e w' ⟨rfl, hw⟩; have hw := hw.symm; subst hw; rw [HQ.out])) | (at_builtin; (refine wpList_append_own _ rfl _ _ 22 rfl w.heap.size 3 i0 (.int .i64 0) 1 8 Try.underlying22 HI.out.1 HI.out.2.1 HI.out.2.2.1 HI.out.2.2.2 rfl (by decide) _ k (lk.map (Value.int .i64)) rfl (World.ownsRow.alloc (HOM.out.rows HL.out rfl) _) ⟨wr.heap.size, 0, none⟩ 1 1 [.int .i64 (12 - q)] rfl rfl (by exact new_one _ _ _) (one_cell _) (by unfold maxLen; omega) (by omega) (by have := HBR.out.size; simp; omega) ?_; intro v2 w2 hown' hgrow _; have R := keeps_append HOM.out HL.out HBR.out.size hown' hgrow; have HR2 : Hid (OwnI w2 w.heap.size v2 (lk ++ [12 - q])) := R.1; have HK2 : Hid (Below w.heap.size w w2) := R.2.2 _ (Nat.le_refl _) HBR.out; clear R hown' hgrow)))
        go_roundw
        case rel => exact ⟨k + 1, by omega, by omega, by go_num, by rw [HR.out]; exact HR2.out, HK2.out⟩
        case measure => simp [intOf]; omega
      · have HQ : Hid (within q 0 12 = false) := by unfold Hid; simpa using hq
        clear hq
        go_wp2_with (go_at_call 13; go_must (refine (within_any _ _ _ _).mono ?_; rintro e w' ⟨rfl, hw⟩; have hw := hw.symm; subst hw; rw [HQ.out]))
        go_ret
        exact ⟨rfl, HBR.out⟩
    · have hcs : (s.length ≤ k) ∨ (k < s.length ∧ 4 ≤ k) := by omega
      have HKS : Hid (s.length ≤ 3 → k = s.length) := fun h => by omega
      have HS4 : Hid (k ≤ 4) := hk4
      clear hgo hk4
      obtain ⟨wA, hwA⟩ : ∃ wA, wA = wr := ⟨_, rfl⟩
      subst hwA
      rcases hcs with hcs | ⟨hcs, hcs4⟩
      all_goals
        go_wp2
        go_loopw [7, 9] (fun vm i wq => ∃ m : Nat, m ≤ asks.length ∧ m ≤ 21 ∧ i = .int .i64 m ∧ OwnI wq wA.heap.size vm (mir (asks.take m)) ∧ Below wA.heap.size wA wq) (fun _ i _ => 21 - (intOf i).toNat)
        case atStart => exact ⟨0, Nat.zero_le _, by omega, rfl, OwnI.nil _ _, Below.refl _ _⟩
        case round =>
          obtain ⟨m, hm, hm21, rfl, hom, hbr⟩ := hrel
          have HBR2 : Hid (Below wA.heap.size wA wr) := hbr
          obtain ⟨an, cn_, hvn⟩ := hom.form
          rw [mirTo_length hm] at hvn
          subst hvn
          have HOM2 : Hid (OwnI wr wA.heap.size (.slice an m cn_) (mir (asks.take m))) := hom
          clear hom hbr
          by_cases hgo : m < asks.length ∧ m < 21
          · obtain ⟨hlt, hlt4⟩ := hgo
            obtain ⟨b, off, rfl, hlc, hbw, hcell⟩ := HO.out m hlt
            have hck : wr.cell? ⟨b, off + m, none⟩ = some (.int .i64 (asks[m]?.getD 0)) := ((HBR.out.trans (HBR2.out.mono HBR.out.size)).cell (by exact hbw)).trans (hcell m hlt)
            have HL : Hid ((mir (asks.take m)).length = m) := mirTo_length hm
            have HR : Hid (mir (asks.take (m+1)) = mir (asks.take m) ++ [12 - asks[m]?.getD 0]) := mirTo_succ hlt
            clear hcell
            generalize mir (asks.take m) = lk at *
            generalize asks[m]?.getD 0 = q at *
            by_cases hq : within q 0 12 = true
            · have HQ : Hid (within q 0 12 = true) := hq
              simp [within] at hq
              have hw12 : IntKind.i64.wrap (12 - q) = 12 - q := by rw [IntKind.wrap_i64]; omega
              go_wp2_with (first | (go_at_call 13; go_must (refine (within_any _ _ _ _).mono ?_; rintro e w' ⟨rfl, hw⟩; have hw := hw.symm; subst hw; rw [HQ.out])) | (at_builtin; (refine wpList_append_own _ rfl _ _ 22 rfl wA.heap.size 3 i0 (.int .i64 0) 1 8 Try.underlying22 HI.out.1 HI.out.2.1 HI.out.2.2.1 HI.out.2.2.2 rfl (by decide) _ m (lk.map (Value.int .i64)) rfl (World.ownsRow.alloc (HOM2.out.rows HL.out rfl) _) ⟨wr.heap.size, 0, none⟩ 1 1 [.int .i64 (12 - q)] rfl rfl (by exact new_one _ _ _) (one_cell _) (by unfold maxLen; omega) (by omega) (by have := HBR2.out.size; simp; omega) ?_; intro v2 w2 hown' hgrow _; have R := keeps_append HOM2.out HL.out HBR2.out.size hown' hgrow; have HR2 : Hid (OwnI w2 wA.heap.size v2 (lk ++ [12 - q])) := R.1; have HK2 : Hid (Below wA.heap.size wA w2) := R.2.2 _ (Nat.le_refl _) HBR2.out; clear R hown' hgrow)))
              go_roundw
              case rel => exact ⟨m + 1, by omega, by omega, by go_num, by rw [HR.out]; exact HR2.out, HK2.out⟩
              case measure => simp [intOf]; omega
            · have HQ : Hid (within q 0 12 = false) := by unfold Hid; simpa using hq
              clear hq
              go_wp2_with (go_at_call 13; go_must (refine (within_any _ _ _ _).mono ?_; rintro e w' ⟨rfl, hw⟩; have hw := hw.symm; subst hw; rw [HQ.out]))
              go_ret
              exact ⟨rfl, HBR.out.trans (HBR2.out.mono HBR.out.size)⟩
          · have hcm : (asks.length ≤ m) ∨ (m < asks.length ∧ 21 ≤ m) := by omega
            have HMS : Hid (asks.length ≤ 20 → m = asks.length) := fun h => by omega
            have HBW : Hid (Below w.heap.size w wr) := HBR.out.trans (HBR2.out.mono HBR.out.size)
            have HSR : Hid (IsInts wr (.slice am k cm) (mir (s.take k))) := HOM.out.isInts.below HBR2.out
            have HXR : Hid (IsInts wr (.slice an m cn_) (mir (asks.take m))) := HOM2.out.isInts
            clear hgo hm21
            rcases hcm with hcm | ⟨hcm, hcm21⟩
            all_goals
              go_wp2_with (go_at_call 9; fail)
              refine (sdouble_any _ _ s asks _ (HV.out.below HBW.out) (HA.out.below HBW.out)).mono ?_
              rintro e w2 ⟨vd, rfl, hO2, hb2⟩
              have HB2 : Hid (Below w.heap.size w w2) := HBW.out.trans (hb2.mono HBW.out.size)
              have HS2 : Hid (IsInts w2 (.slice am k cm) (mir (s.take k))) := HSR.out.below hb2
              have HX2 : Hid (IsInts w2 (.slice an m cn_) (mir (asks.take m))) := HXR.out.below hb2
              have HP2 : Hid (IsInts w2 vd (goL true s asks)) := hO2.isInts
              obtain ⟨N1, hN1⟩ : ∃ N1, goN true s asks = N1 := ⟨_, rfl⟩
              have HG1 : Hid (goN true s asks = N1) := hN1
              rw [hN1]
              obtain ⟨ad, cd, rfl⟩ := hO2.form
              clear hb2 hO2 hN1
              go_wp2_with (go_at_call 9; fail)
              refine (sdouble_any _ _ (mir (s.take k)) (mir (asks.take m)) _ HS2.out HX2.out).mono ?_
              rintro e w3 ⟨ve, rfl, hO3, hb3⟩
              have HB3 : Hid (Below w.heap.size w w3) := HB2.out.trans (hb3.mono HB2.out.size)
              have HS3 : Hid (IsInts w3 (.slice am k cm) (mir (s.take k))) := HS2.out.below hb3
              have HX3 : Hid (IsInts w3 (.slice an m cn_) (mir (asks.take m))) := HX2.out.below hb3
              have HP3 : Hid (IsInts w3 (.slice ad (goL true s asks).length cd) (goL true s asks)) := HP2.out.below hb3
              have HQ3 : Hid (IsInts w3 ve (goL true (mir (s.take k)) (mir (asks.take m)))) := hO3.isInts
              obtain ⟨M1, hM1⟩ : ∃ M1, goN true (mir (s.take k)) (mir (asks.take m)) = M1 := ⟨_, rfl⟩
              have HG2 : Hid (goN true (mir (s.take k)) (mir (asks.take m)) = M1) := hM1
              rw [hM1]
              obtain ⟨ae, ce, rfl⟩ := hO3.form
              clear hb3 hO3 hM1 HS2 HX2 HP2
              go_wp2_with (go_at_call 10; fail)
              refine (sleast_any _ _ s asks _ (HV.out.below HB3.out) (HA.out.below HB3.out)).mono ?_
              rintro e w4 ⟨x, rfl, hx, hb4⟩
              have HB4 : Hid (Below w.heap.size w w4) := HB3.out.trans (hb4.mono HB3.out.size)
              have HS4w : Hid (IsInts w4 (.slice am k cm) (mir (s.take k))) := HS3.out.below hb4
              have HX4 : Hid (IsInts w4 (.slice an m cn_) (mir (asks.take m))) := HX3.out.below hb4
              have HP4 : Hid (IsInts w4 (.slice ad (goL true s asks).length cd) (goL true s asks)) := HP3.out.below hb4
              have HQ4 : Hid (IsInts w4 (.slice ae (goL true (mir (s.take k)) (mir (asks.take m))).length ce) (goL true (mir (s.take k)) (mir (asks.take m)))) := HQ3.out.below hb4
              have HLX : Hid (LeastS s asks x) := hx
              clear hb4 hx HS3 HX3 HP3 HQ3
              go_wp2_with (go_at_call 10; fail)
              refine (sleast_any _ _ (mir (s.take k)) (mir (asks.take m)) _ HS4w.out HX4.out).mono ?_
              rintro e w5 ⟨y, rfl, hy, hb5⟩
              have HB5 : Hid (Below w.heap.size w w5) := HB4.out.trans (hb5.mono HB4.out.size)
              have HP5 : Hid (IsInts w5 (.slice ad (goL true s asks).length cd) (goL true s asks)) := HP4.out.below hb5
              have HQ5 : Hid (IsInts w5 (.slice ae (goL true (mir (s.take k)) (mir (asks.take m))).length ce) (goL true (mir (s.take k)) (mir (asks.take m)))) := HQ4.out.below hb5
              clear hb5 HS4w HX4 HP4 HQ4
              by_cases hc : chkS s asks = 0
              case neg =>
                have hn : chkS s asks = 1 ∨ chkS s asks = 4 ∨ chkS s asks = 5 := by have := chkS_cases s asks; omega
                clear HP5 HQ5 hy
                generalize goL true s asks = L1 at *
                generalize goL true (mir (s.take k)) (mir (asks.take m)) = L2 at *
                rcases hn with hn | hn | hn
                all_goals
                  rw [hn]
                  clear hn hc
                  simp only [errV]
                  go_wp2
                  all_goals go_ret
                  all_goals exact ⟨rfl, HB5.out⟩
              have F := chkS_zero hc
              have hc2 := chkS_mir hc
              have F2 := chkS_zero hc2
              have eS : mir (s.take k) = mir s := by rw [HKS.out F.few, List.take_of_length_le (Nat.le_refl _)]
              have eX : mir (asks.take m) = mir asks := by rw [HMS.out F.many, List.take_of_length_le (Nat.le_refl _)]
              rw [eS, eX] at hy HQ5 HG2 ⊢
              have M := mirror F F2
              have e1 : M1 = N1 := by
                rw [← HG2.out, ← HG1.out]
                unfold goN
                rw [if_pos hc, if_pos hc2, mir_length]; exact M.1
              have l1 : goL true s asks = goRow true s asks asks.length := by unfold goL; rw [if_pos hc]
              have l2 : goL true (mir s) (mir asks) = (mir (goRow true s asks asks.length)).reverse := by unfold goL; rw [if_pos hc2, mir_length]; exact M.2
              have e3 : y = x := by
                have := leastGo_unique (leastGo_mir (HLX.out.ok hc)) (hy.ok hc2)
                omega
              subst e3 e1
              have hl1 := goRow_length true s asks asks.length
              have hl2 : ((mir (goRow true s asks asks.length)).reverse).length = s.length := by rw [List.length_reverse, mir_length]; exact hl1
              rw [l1, hl1] at HP5 ⊢
              rw [l2, hl2] at HQ5 ⊢
              rw [hc, hc2]
              have hn3 := F.few
              have hLI := (rowOk true F.some F.line F.asked _ (Nat.le_refl asks.length)).line
              clear hc hc2 F F2 eS eX M l1 l2 hl2 hy HG1 HG2 HLX
              simp only [errV]
              generalize goRow true s asks asks.length = R at *
              have HC1 : Hid (∀ j, j < s.length → ∃ b off, ad = some ⟨b, off, none⟩ ∧ s.length ≤ cd ∧ w5.cell? ⟨b, off + j, none⟩ = some (.int .i64 (R[j]?.getD 0))) := fun j hj => by
                obtain ⟨ar, cr, e, hcr, h⟩ := HP5.out.opened
                simp only [Value.slice.injEq] at e
                obtain ⟨rfl, _, rfl⟩ := e
                obtain ⟨b, off, e2, h1, _, h3⟩ := h j (by omega)
                exact ⟨b, off, e2, by omega, h3 j (by omega)⟩
              have HC2 : Hid (∀ j, j < s.length → ∃ b off, ae = some ⟨b, off, none⟩ ∧ s.length ≤ ce ∧ w5.cell? ⟨b, off + (s.length - 1 - j), none⟩ = some (.int .i64 (12 - R[j]?.getD 0))) := fun j hj => by
                obtain ⟨ar, cr, e, hcr, h⟩ := HQ5.out.opened
                simp only [Value.slice.injEq] at e
                obtain ⟨rfl, _, rfl⟩ := e
                have hlr : ((mir R).reverse).length = s.length := by rw [List.length_reverse, mir_length]; exact hl1
                obtain ⟨b, off, e2, h1, _, h3⟩ := h (s.length - 1 - j) (by omega)
                have h4 := h3 (s.length - 1 - j) (by omega)
                rw [mirror_at hl1 hj] at h4
                exact ⟨b, off, e2, by omega, h4⟩
              have HRB : Hid (∀ j, j < s.length → 0 ≤ R[j]?.getD 0 ∧ R[j]?.getD 0 ≤ 12) := fun j hj => hLI _ (get_mem (by omega))
              clear HP5 HQ5 hl1 hLI
              generalize s.length = n at *
              go_wp2
              go_loopw [20] (fun i wr => ∃ k q : Nat, k ≤ n ∧ i = .int .i64 k ∧ wr = w5.drewN q) (fun i _ => n - (intOf i).toNat)
              case atStart => exact ⟨0, 0, by omega, rfl, rfl⟩
              case round =>
                obtain ⟨j, q, hj, rfl, rfl⟩ := hrel
                by_cases hlj : j < n
                · obtain ⟨b1, o1, rfl, hlc1, h1⟩ := HC1.out j hlj
                  obtain ⟨b2, o2, rfl, hlc2, h2⟩ := HC2.out j hlj
                  have c1 : (w5.drewN q).cell? ⟨b1, o1 + j, none⟩ = some (.int .i64 (R[j]?.getD 0)) := h1
                  have c2 : (w5.drewN q).cell? ⟨b2, o2 + (n - 1 - j), none⟩ = some (.int .i64 (12 - R[j]?.getD 0)) := h2
                  have HW0 : Hid (∀ n, ∃ q', (w5.drewN q).drewN n = w5.drewN q') := fun n => ⟨q + n, by rw [World.drewN_drewN]⟩
                  have hr := HRB.out j hlj
                  have hs1 : IntKind.i64.wrap ((n : Int) - 1) = (n : Int) - 1 := by rw [IntKind.wrap_i64]; omega
                  have hs2 : IntKind.i64.wrap ((n : Int) - 1 - (j : Int)) = ((n - 1 - j : Nat) : Int) := by rw [IntKind.wrap_i64]; omega
                  have hs3 : IntKind.i64.wrap (12 - (12 - R[j]?.getD 0)) = R[j]?.getD 0 := by rw [IntKind.wrap_i64]; omega
                  have hjn : n - 1 - j < n := by omega
                  clear h1 h2
                  generalize R[j]?.getD 0 = t at *
                  generalize n - 1 - j = j2 at *
                  generalize w5.drewN q = wq at *
                  have htt : (t != t) = false := by simp
                  go_wp2
                  go_quiet (fail)
                  go_wp2
                  go_roundw
                  case rel => exact ⟨j + 1, (HW0.out _).choose, by omega, by go_num, (HW0.out _).choose_spec⟩
                  case measure => simp [intOf]; omega
                · go_wp2
                  go_ret
                  exact ⟨rfl, below_drewN HB5.out _⟩

theorem serveMirror_own : ownKnob Try.prog.godebug = none := by kernel_rfl
theorem serveMirror_laidOut : laidOutB Try.prog = true := by kernel_rfl

set_option maxRecDepth 100000 in
theorem serveMirror_lifted (os : Os) (started : os.Started) (H : Type) (enc : TypeId × Value → H) :
    ReturnsInHanded {} Try.checked os 6 .any (Rows.serveMirrorSpec.pre6 enc Try.prog Try.f6 Rows.serveMirrorRow.domain false) (Rows.serveMirrorSpec.post enc Try.prog Try.f6 false true false false) := by
  refine returnsInHanded_of_change (C := Try.checked) serveMirror_own started (by kernel_rfl) Try.func6
    (ChangeSpec.witness6 (enc := enc) (C := Try.checked) false ⟨#[], #[.slice none 0 0, .slice none 0 0], []⟩ 8 (by kernel_rfl) (by kernel_rfl) (by kernel_rfl) (by kernel_rfl)) ?_
  intro W base args ds gs before hval0 hW _ _
  have hval : ∀ (j : Nat) t v, Try.f6.params[j]? = some t → args[j]? = some v → Value.okWide Try.prog W .any base t v := hval0
  have hW' : DataW.Whole enc Try.prog Try.f6.params.toList Rows.serveMirrorSpec.vars false W args.toList ds gs before := hW
  obtain ⟨p, q, hA0, hV, rfl, hfz, hnd⟩ := hW
  have hA : DataW.TrodAll enc Try.prog W 0 (fun _ => true) true Try.f6.params.toList args.toList ds p := hA0
  rw [Try.params6] at hA hval
  obtain ⟨v0, vs0, d0, ds0, p0, q0, hargs, rfl, rfl, h0, r0⟩ := trodAll_cons hA
  obtain ⟨v1, vs1, d1, ds1, p1, q1, rfl, rfl, rfl, h1, r1⟩ := trodAll_cons r0
  obtain ⟨rfl, rfl, rfl⟩ := trodAll_nil r1
  obtain rfl : args = #[v0, v1] := by cases args; simp_all
  obtain ⟨rfl, rfl⟩ := trodVars_none hV
  obtain ⟨l0, ao0, cap0, hv0, hl0⟩ := arg_ints Try.underlying22 Try.underlying3 (by kernel_rfl) (hval 0 22 v0 rfl rfl) h0
  obtain ⟨l1, ao1, cap1, hv1, hl1⟩ := arg_ints Try.underlying22 Try.underlying3 (by kernel_rfl) (hval 1 22 v1 rfl rfl) h1
  clear hA0 hval0
  refine (smir_any v0 l0 v1 l1 W hl0 ⟨ao0, cap0, hv0⟩ hl1 ⟨ao1, cap1, hv1⟩).mono fun e W' ⟨he, hb⟩ => ?_
  subst he
  exact ⟨_, rfl, law_post hW' hb serveMirror_laidOut rfl (by kernel_rfl) (by kernel_rfl) Try.underlying4 rfl rfl rfl⟩

theorem serveMirror_holds : Rows.ServeMirrorSaid :=
  OpenClaim.holds_of_wide 6 Try.f6 rfl rfl rfl rfl rfl rfl rfl ⟨rfl, rfl, rfl, rfl, rfl⟩ rfl rfl rfl rfl rfl (by kernel_rfl) Try.func6 (by kernel_rfl)
    (of_decide_eq_true (by kernel_rfl)) (by unfold Func.isWrapper; first | (rw [if_pos (by decide +kernel)]; kernel_rfl) | (rw [if_neg (by decide +kernel)]; exact ⟨rfl, rfl⟩))
    (fun os started H enc _ => serveMirror_lifted os started H enc)
end Go.Proofs.Ytnjfmlojbaigjaa
