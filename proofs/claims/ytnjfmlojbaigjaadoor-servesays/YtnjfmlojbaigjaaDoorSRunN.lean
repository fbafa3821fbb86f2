/- The walk of serve.run, where the nearest one goes. -/
import Derived.Test.YtnjfmlojbaigjaaDoorSRun
import Derived.Test.YtnjfmlojbaigjaaDoorSNear
namespace Go.Proofs.YtnjfmlojbaigjaaDoor
set_option maxRecDepth 100000
open Go.RowKit Go.Sort

set_option maxHeartbeats 4000000 in
theorem snear_ok (v va : Value) (s asks : List Int) (w : World) (hv : IsInts w v s) (ha : IsInts w va asks) (hc0 : chkV s asks = 0) :
    Calls Tryd.prog 22 #[v, va, .func (.func 24) #[] #[]] w fun e w' => ∃ vr, e = .returned (.tuple #[.int .i64 (goCost false s asks asks.length), vr, .nilIface]) ∧ OwnI w' w.heap.size vr (goRow false s asks asks.length) ∧ Below w.heap.size w w' := by
  have F := chkV_zero hc0
  have HV : Hid (IsInts w v s) := hv
  have HVA : Hid (IsInts w va asks) := ha
  have HCK : Hid (chkV s asks = 0) := hc0
  have HF : Hid (FineV s asks) := F
  have HBW : Hid (Betw 24 false) := near_betw
  have hn1 : 1 ≤ s.length := List.length_pos_iff.2 F.some
  have hn3 := F.few
  have ha20 := F.many
  obtain ⟨aa, capa, rfl, hcapa, ho⟩ := ha.opened
  have HO : Hid (∀ k, k < asks.length → ∃ b off, aa = some ⟨b, off, none⟩ ∧ asks.length ≤ capa ∧ b < w.heap.size ∧ ∀ j, j < asks.length → w.cell? ⟨b, off + j, none⟩ = some (.int .i64 (asks[j]?.getD 0))) := ho
  rcases hv with ⟨h, _⟩ | ⟨b, off, cap, rfl, hpos, hlc, hcap, hc⟩
  · exact absurd h F.some
  have hbw : b < w.heap.size := World.block_lt_of_cell? w _ (hc 0 hpos)
  have HSO : Hid (Calls Tryd.prog 34 #[.func (.func 47) #[] #[.pointer (some ⟨w.heap.size, 0, none⟩)]] (w.alloc (.cells #[.slice (some ⟨b, off, none⟩) s.length cap] 22)) fun e W' => ∃ v, e = .returned v ∧ OwnI W' (w.heap.size + 1) v (s.mergeSort zle) ∧ Below (w.heap.size + 1) (w.alloc (.cells #[.slice (some ⟨b, off, none⟩) s.length cap] 22)) W') := by
    have := seqsorted_any w.heap.size b off cap s (by omega) (w.alloc (.cells #[.slice (some ⟨b, off, none⟩) s.length cap] 22)) (by simp) (by simp; omega) (Boxed.new w _ _).cell (fun j hj => (((Below.refl _ w).alloc (Nat.le_refl _) _).cell (p := ⟨b, off + j, none⟩) hbw).trans (hc j hj))
    simp only [World.size_alloc] at this
    exact this
  clear ho ha hc0 F hc
  unfold maxLen at hcap hcapa
  go_enter Tryd.func22, Tryd.ntmps22
  go_wp2_with (first | (go_at_call 6; go_must (refine (vcheck_any _ _ s asks _ HV.out HVA.out).mono ?_; rintro e w' ⟨rfl, hw⟩; have hw := hw.symm; subst hw; rw [HCK.out]; simp only [errV, if_true])) | (go_at_call 35; go_must (refine (values_any _ _ _ _).mono ?_; rintro e w' ⟨rfl, hw⟩; have hw := hw.symm; subst hw)) | (go_at_call 34; fail))
  refine HSO.out.mono ?_
  rintro e w1 ⟨vr, rfl, hO1, hb1⟩
  have hne : s.mergeSort zle ≠ [] := fun e => HF.out.some (by have := List.length_mergeSort (le := zle) s; rw [e] at this; exact List.eq_nil_of_length_eq_zero this.symm)
  obtain ⟨g, cp, cur, rfl, hgb, hgs, hgg, hgn, hgm, hgsz, hgt⟩ := hO1.block hne
  rw [List.length_mergeSort] at hO1 hgn ⊢
  have HR0 : Hid (SRel false s asks w g cp (.int .i64 0) (.int .i64 0) w1) := ⟨0, Nat.zero_le _, rfl, rfl, ownI_mono hO1 (Nat.le_succ _), ((Below.refl _ w).alloc (Nat.le_refl _) _).trans (hb1.mono (Nat.le_succ _))⟩
  unfold maxLen at hgm
  clear hO1 hb1 hne hgg hgt hgsz cur
  go_wp2_with fail
  go_loopw [10, 28] (fun t i wr => SRel false s asks w g cp t i wr) (fun _ i _ => asks.length - (intOf i).toNat)
  case atStart => exact HR0.out
  case round =>
    clear HR0
    obtain ⟨k, hk, rfl, rfl, hO, hbel⟩ := hrel
    by_cases hlt : k < asks.length
    · obtain ⟨ba, offa, rfl, hlca, hbaw, hcell⟩ := HO.out k hlt
      have hck : wr.cell? ⟨ba, offa + k, none⟩ = some (.int .i64 (asks[k]?.getD 0)) := (hbel.cell (by exact hbaw)).trans (hcell k hlt)
      have RK := rowOk false HF.out.some HF.out.line HF.out.asked k (by omega)
      have hlen := goRow_length false s asks k
      have hr := ask_in HF.out.asked hlt
      have ST := stepOk false RK.ris (rowNe false asks HF.out.some k) RK.line hr
      have HROW : Hid (goRow false s asks (k+1) = (goStep false (goRow false s asks k) (asks[k]?.getD 0)).1) := rfl
      have HCST : Hid (goCost false s asks (k+1) = goCost false s asks k + (goStep false (goRow false s asks k) (asks[k]?.getD 0)).2) := rfl
      have HC0 : Hid (0 ≤ goCost false s asks k ∧ goCost false s asks k ≤ 240) := by have := RK.cost; unfold Hid; omega
      have HRIS : Hid (Ris (goRow false s asks k)) := RK.ris
      have HLIN : Hid (onLine (goRow false s asks k)) := RK.line
      have HSC : Hid (0 ≤ (goStep false (goRow false s asks k) (asks[k]?.getD 0)).2 ∧ (goStep false (goRow false s asks k) (asks[k]?.getD 0)).2 ≤ 12) := ST.cost
      have HW : Hid (OwnI wr w.heap.size (.slice (some ⟨g, 0, none⟩) s.length cp) (goRow false s asks k)) := hO
      have HB : Hid (Below w.heap.size w wr) := hbel
      clear hcell hbaw RK ST hO hbel
      generalize goRow false s asks k = R at *
      generalize goCost false s asks k = C at *
      generalize asks[k]?.getD 0 = r at *
      have HBS : Hid (Calls Tryd.prog 36 #[.slice (some ⟨g, 0, none⟩) s.length cp, .int .i64 r] wr fun e w' => e = .returned (.tuple #[.int .i64 (posS R r : Nat), .bool (R.contains r)]) ∧ ∃ q, w' = wr.drewN q) := by
        have := Tryd.slices_BinarySearch_int g 0 s.length cp R r wr (by omega) (by omega) (fun j hj => by rw [Nat.zero_add, List.getD_eq_getElem?_getD]; exact HW.out.cellN hlen (by omega)) (by rw [List.take_of_length_le (by omega)]; exact HRIS.out)
        rw [List.take_of_length_le (by omega)] at this
        exact this
      have hp := posS_le R r
      have HLEN : Hid (R.length = s.length) := hlen
      have HLT : Hid (∀ i, i < posS R r → R[i]?.getD 0 < r) := fun i hi => (posS_iff r HRIS.out i (by omega)).1 hi
      have HGE : Hid (∀ i, posS R r ≤ i → i < R.length → r ≤ R[i]?.getD 0) := fun i h1 h2 => by
        have h3 : ¬ R[i]?.getD 0 < r := fun h => by have := (posS_iff r HRIS.out i h2).2 h; omega
        omega
      have HGS : Hid (goStep false R r = if R.contains r then (R, 0) else if posS R r = 0 then (R.set 0 r, zabs (R[0]?.getD 0 - r)) else if posS R r = R.length then (R.set (posS R r - 1) r, zabs (R[posS R r - 1]?.getD 0 - r)) else goBetw false R (posS R r) r) := rfl
      have HCR : Hid (R.contains r = false → ∀ i, i < R.length → R[i]?.getD 0 ≠ r) := fun h i hi e => by
        have : r ∈ R := e ▸ get_mem hi
        rw [List.contains_iff_mem.2 this] at h; cases h
      generalize posS R r = p at *
      rw [hlen] at hp
      clear hlen
      cases hcr : R.contains r with
      | true =>
        rw [hcr] at HBS HGS
        have HST : Hid (goStep false R r = (R, 0)) := by unfold Hid; rw [HGS.out, if_pos rfl]
        clear HGS HLT HGE HCR hcr
        go_wp2_with (go_at_call 36; go_must (refine HBS.out.mono ?_; rintro e w' ⟨rfl, q, hw⟩; subst hw))
        go_roundw
        case rel => exact ⟨k + 1, by omega, by go_num, by rw [HCST.out, HST.out, Int.add_zero], by rw [HROW.out, HST.out]; exact HW.out.drewN q, below_drewN HB.out q⟩
        case measure => simp [intOf]; omega
      | false =>
        have HNE := HCR.out hcr
        rw [hcr] at HBS HGS
        by_cases hp0 : p = 0
        · subst hp0
          have HST : Hid (goStep false R r = (R.set 0 r, zabs (R[0]?.getD 0 - r))) := by unfold Hid; rw [HGS.out, if_neg (by simp), if_pos rfl]
          have HSD : Hid (∀ q, Calls Tryd.prog 25 #[.slice (some ⟨g, 0, none⟩) s.length cp, .int .i64 0, .int .i64 r] (wr.drewN q) fun e w' => e = .returned (.int .i64 (zabs (R[0]?.getD 0 - r))) ∧ w' = (wr.drewN q).setCell ⟨g, 0, none⟩ (.int .i64 r)) := fun q =>
            send_any g 0 s.length cp 0 (R[0]?.getD 0) r (by omega) (HLIN.out _ (get_mem (by rw [HLEN.out]; omega))) hr (wr.drewN q) (HW.out.cellN HLEN.out (by omega)) (HW.out.softN HLEN.out 0)
          have HOW : Hid (∀ q, OwnI ((wr.drewN q).setCell ⟨g, 0, none⟩ (.int .i64 r)) w.heap.size (.slice (some ⟨g, 0, none⟩) s.length cp) (R.set 0 r) ∧ Below w.heap.size w ((wr.drewN q).setCell ⟨g, 0, none⟩ (.int .i64 r))) := fun q => ⟨(own_set (HW.out.drewN q) HLEN.out 0 r).1, (below_drewN HB.out q).setCell (p := ⟨g, 0, none⟩) (by show w.heap.size ≤ g; omega) _⟩
          have hz := HSC.out
          rw [HST.out] at hz
          have hz2 : 0 ≤ zabs (R[0]?.getD 0 - r) ∧ zabs (R[0]?.getD 0 - r) ≤ 12 := hz
          have hc240 := HC0.out
          have hww : IntKind.i64.wrap (C + zabs (R[0]?.getD 0 - r)) = C + zabs (R[0]?.getD 0 - r) := by rw [IntKind.wrap_i64]; omega
          clear HNE HGS HLT HGE HCR hcr hz
          generalize zabs (R[0]?.getD 0 - r) = z at *
          go_wp2_with (first | (go_at_call 36; go_must (refine HBS.out.mono ?_; rintro e w' ⟨rfl, q, hw⟩; subst hw)) | (go_at_call 25; go_must (refine (HSD.out _).mono ?_; rintro e w' ⟨rfl, hw⟩; have hw := hw.symm; subst hw)))
          go_roundw
          case rel => exact ⟨k + 1, by omega, by go_num, by rw [HCST.out, HST.out], by rw [HROW.out, HST.out]; exact (HOW.out _).1, (HOW.out _).2⟩
          case measure => simp [intOf]; omega
        · obtain ⟨i, rfl⟩ : ∃ i, p = i + 1 := ⟨p - 1, by omega⟩
          simp only [Nat.add_sub_cancel] at HGS
          have hz0 : (((i + 1 : Nat) : Int) == 0) = false := by rw [beq_eq_false_iff_ne]; omega
          have hsub : IntKind.i64.wrap (((i + 1 : Nat) : Int) - 1) = (i : Int) := by rw [IntKind.wrap_i64]; omega
          have hsb : ((i + 1 : Nat) : Int) - 1 = (i : Int) := by omega
          by_cases hpl : i + 1 = s.length
          · have hpe : (((i + 1 : Nat) : Int) == (s.length : Int)) = true := by rw [beq_iff_eq]; omega
            have HST : Hid (goStep false R r = (R.set i r, zabs (R[i]?.getD 0 - r))) := by unfold Hid; rw [HGS.out, if_neg (by simp), if_neg hp0, if_pos (by rw [HLEN.out]; exact hpl)]
            have HSD : Hid (∀ q, Calls Tryd.prog 25 #[.slice (some ⟨g, 0, none⟩) s.length cp, .int .i64 (i : Nat), .int .i64 r] (wr.drewN q) fun e w' => e = .returned (.int .i64 (zabs (R[i]?.getD 0 - r))) ∧ w' = (wr.drewN q).setCell ⟨g, i, none⟩ (.int .i64 r)) := fun q => by
              have := send_any g 0 s.length cp i (R[i]?.getD 0) r (by omega) (HLIN.out _ (get_mem (by rw [HLEN.out]; omega))) hr (wr.drewN q) (by rw [Nat.zero_add]; exact HW.out.cellN HLEN.out (by omega)) (by rw [Nat.zero_add]; exact HW.out.softN HLEN.out i)
              rwa [Nat.zero_add] at this
            have HOW : Hid (∀ q, OwnI ((wr.drewN q).setCell ⟨g, i, none⟩ (.int .i64 r)) w.heap.size (.slice (some ⟨g, 0, none⟩) s.length cp) (R.set i r) ∧ Below w.heap.size w ((wr.drewN q).setCell ⟨g, i, none⟩ (.int .i64 r))) := fun q => ⟨(own_set (HW.out.drewN q) HLEN.out i r).1, (below_drewN HB.out q).setCell (p := ⟨g, i, none⟩) (by show w.heap.size ≤ g; omega) _⟩
            have hz := HSC.out
            rw [HST.out] at hz
            have hz2 : 0 ≤ zabs (R[i]?.getD 0 - r) ∧ zabs (R[i]?.getD 0 - r) ≤ 12 := hz
            have hc240 := HC0.out
            have hww : IntKind.i64.wrap (C + zabs (R[i]?.getD 0 - r)) = C + zabs (R[i]?.getD 0 - r) := by rw [IntKind.wrap_i64]; omega
            clear HNE HGS HLT HGE HCR hcr hz hpl
            generalize zabs (R[i]?.getD 0 - r) = z at *
            generalize hi1 : i + 1 = i1 at *
            go_wp2_with (first | (go_at_call 36; go_must (refine HBS.out.mono ?_; rintro e w' ⟨rfl, q, hw⟩; subst hw)) | (go_at_call 25; go_must (refine (HSD.out _).mono ?_; rintro e w' ⟨rfl, hw⟩; have hw := hw.symm; subst hw)))
            go_roundw
            case rel => exact ⟨k + 1, by omega, by go_num, by rw [HCST.out, HST.out], by rw [HROW.out, HST.out]; exact (HOW.out _).1, (HOW.out _).2⟩
            case measure => simp [intOf]; omega
          · have hpe : (((i + 1 : Nat) : Int) == (s.length : Int)) = false := by rw [beq_eq_false_iff_ne]; omega
            have HST : Hid (goStep false R r = goBetw false R (i + 1) r) := by unfold Hid; rw [HGS.out, if_neg (by simp), if_neg hp0, if_neg (by rw [HLEN.out]; exact hpl)]
            have ha1 := HLT.out i (Nat.lt_succ_self i)
            have hb1 := HGE.out (i + 1) (Nat.le_refl _) (by rw [HLEN.out]; omega)
            have hb2 := HNE (i + 1) (by rw [HLEN.out]; omega)
            have HBT : Hid (∀ q, Calls Tryd.prog 24 #[.slice (some ⟨g, 0, none⟩) s.length cp, .int .i64 (i : Nat), .int .i64 ((i + 1 : Nat) : Int), .int .i64 r] (wr.drewN q) fun e w' => e = .returned (.int .i64 (goStep false R r).2) ∧ OwnI w' w.heap.size (.slice (some ⟨g, 0, none⟩) s.length cp) (goStep false R r).1 ∧ Below w.heap.size w w') := fun q => by
              have := HBW.out g s.length cp w.heap.size (i + 1) R r (wr.drewN q) HLEN.out hgn (by unfold maxLen; omega) (by omega) (by omega) HLIN.out hr (by rw [Nat.add_sub_cancel]; exact ha1) (by omega) (HW.out.drewN q)
              rw [hsb] at this
              rw [HST.out]
              exact this.mono fun e w' ⟨h1, h2, h3⟩ => ⟨h1, h2, (below_drewN HB.out q).grown h3 HB.out.size (fun k hk => by cases hk; omega)⟩
            have hz2 := HSC.out
            have hc240 := HC0.out
            have hww : IntKind.i64.wrap (C + (goStep false R r).2) = C + (goStep false R r).2 := by rw [IntKind.wrap_i64]; omega
            clear HNE HGS HLT HGE HCR hcr hpl ha1 hb1 hb2 HST
            generalize goStep false R r = S at *
            obtain ⟨S1, z⟩ := S
            simp only [] at hz2 hww HBT HCST HROW
            generalize hi1 : i + 1 = i1 at *
            go_wp2_with (first | (go_at_call 36; go_must (refine HBS.out.mono ?_; rintro e w' ⟨rfl, q, hw⟩; subst hw)) | (go_at_call 24; go_must (refine (HBT.out _).mono ?_; rintro e w' ⟨rfl, hO2, hB2⟩)))
            go_roundw
            case rel => exact ⟨k + 1, by omega, by go_num, by rw [HCST.out], by rw [HROW.out]; exact hO2, hB2⟩
            case measure => simp [intOf]; omega
    · have hkl : k = asks.length := by omega
      subst hkl
      go_wp2
      go_ret3
      exact ⟨_, rfl, hO, hbel⟩
end Go.Proofs.YtnjfmlojbaigjaaDoor
