/- The walk of the document's answer (larderwickref1): Double. -/
import Derived.Test.YtnjfmlojbaigjaaDoorRefGoL
import Derived.Test.YtnjfmlojbaigjaaDoorRefAbs
import Derived.Test.YtnjfmlojbaigjaaDoorRisingS
import Derived.Test.YtnjfmlojbaigjaaDoorWithoutS
import Derived.Test.YtnjfmlojbaigjaaDoorSCheck
import Derived.Test.YtnjfmlojbaigjaaDoorOwnCells
import Derived.Test.YtnjfmlojbaigjaaDoorKeep
import Derived.Deep.RegionWith
namespace Go.Proofs.YtnjfmlojbaigjaaDoor
set_option maxRecDepth 100000
open Go.RowKit Go.Sort

theorem new_two (w : World) (x y : Value) (t : TypeId) : ∀ j u, [x, y][j]? = some u → (w.alloc (.cells #[x, y] t)).cell? (Addr.add ⟨w.heap.size, 0, none⟩ j) = some u := by
  intro j u hj
  match j, hj with
  | 0, hj =>
    have h : x = u := by simpa using hj
    subst h
    simp [Addr.add]
  | 1, hj =>
    have h : y = u := by simpa using hj
    subst h
    simp [Addr.add]
theorem two_cell (p q : Int) : ∀ u ∈ [Value.int .i64 p, Value.int .i64 q], u.oneCell' = true := by
  intro u hu
  rcases List.mem_cons.1 hu with rfl | hu
  · rfl
  · have : u = Value.int .i64 q := by simpa using hu
    subst this; rfl
/-- What an append of two numbers leaves. -/
theorem own_append_two {w wr w' : World} {n : Nat} {v v' : Value} {l : List Int} {p q : Int} {o : Obj} (hown : OwnI wr w.heap.size v l) (hn : l.length = n) (hb : Below w.heap.size w wr)
    (h1 : w'.ownsRow w.heap.size 3 1 v' (n + 2) (l.map (Value.int .i64) ++ [.int .i64 p, .int .i64 q])) (h2 : (wr.alloc o).grownBy w' v.ownBlock) : OwnI w' w.heap.size v' (l ++ [p, q]) ∧ Below w.heap.size w w' := by
  subst hn
  have hs := hb.size
  refine ⟨?_, ?_⟩
  · unfold OwnI
    rw [List.length_append, List.map_append]
    exact h1
  · refine (hb.alloc (by omega) o).grown h2 (by simp; omega) fun k hk => (World.ownsRow.lt hown k hk).1
def RGRel (dbl : Bool) (s asks : List Int) (w : World) (vs t i : Value) (wr : World) : Prop :=
  ∃ k : Nat, k ≤ asks.length ∧ i = .int .i64 k ∧ t = .int .i64 (goCost dbl s asks k) ∧ OwnI wr w.heap.size vs (goRow dbl s asks k) ∧ Below w.heap.size w wr
set_option maxHeartbeats 8000000 in
theorem rdouble_any (v va : Value) (s asks : List Int) (w : World) (hv : IsInts w v s) (hform : ∃ ao cap, v = .slice ao s.length cap) (ha : IsInts w va asks) (hc0 : chkV s asks = 0) :
    Calls Tryd.prog 7 #[v, va] w fun e w' => ∃ vr, e = .returned (.tuple #[.int .i64 (goCost true s asks asks.length), vr]) ∧ OwnI w' w.heap.size vr (goRow true s asks asks.length) ∧ Below w.heap.size w w' := by
  have F := chkV_zero hc0
  have HF : Hid (FineV s asks) := F
  have hn1 : 1 ≤ s.length := List.length_pos_iff.2 F.some
  have hn3 := F.few
  have ha20 := F.many
  have HRS : Hid (Calls Tryd.prog 18 #[v] w fun e w' => ∃ v', e = .returned v' ∧ OwnI w' w.heap.size v' (s.mergeSort zle) ∧ Below w.heap.size w w') := rising_any v s w hv hform (by omega)
  obtain ⟨aa, capa, rfl, hcapa, ho⟩ := ha.opened
  have HO : Hid (∀ k, k < asks.length → ∃ b off, aa = some ⟨b, off, none⟩ ∧ asks.length ≤ capa ∧ b < w.heap.size ∧ ∀ j, j < asks.length → w.cell? ⟨b, off + j, none⟩ = some (.int .i64 (asks[j]?.getD 0))) := ho
  obtain ⟨i0, hi, hz0, hz1, hz2⟩ := info_parts Tryd.info3
  have HI : Hid (Tryd.prog.info? 3 = some i0 ∧ i0.zero = some (.int .i64 0) ∧ i0.size = 1 ∧ i0.bytes = 8) := ⟨hi, hz0, hz1, hz2⟩
  obtain ⟨av, cv, rfl⟩ := hform
  unfold maxLen at hcapa
  clear ho ha hc0 F hv hi hz0 hz1 hz2
  go_enter Tryd.func7, Tryd.ntmps7
  go_wp2_with (go_at_call 18; fail)
  refine HRS.out.mono ?_
  rintro e w1 ⟨v1, rfl, hO1, hb1⟩
  have HR0 : Hid (RGRel true s asks w v1 (.int .i64 0) (.int .i64 0) w1) := ⟨0, Nat.zero_le _, rfl, rfl, hO1, hb1⟩
  clear hO1 hb1
  go_wp2
  go_loopw [6, 7, 8] (fun vs t i wr => RGRel true s asks w vs t i wr) (fun _ _ i _ => asks.length - (intOf i).toNat)
  case atStart => exact HR0.out
  case round =>
    clear HR0
    obtain ⟨k, hk, rfl, rfl, hO, hbel⟩ := hrel
    have RK := rowOk true HF.out.some HF.out.line HF.out.asked k hk
    have hlen := goRow_length true s asks k
    have HW : Hid (OwnI wr w.heap.size u6 (goRow true s asks k)) := hO
    have HB : Hid (Below w.heap.size w wr) := hbel
    obtain ⟨as_, cs, hvs⟩ := hO.form
    rw [hlen] at hvs
    subst hvs
    by_cases hlt : k < asks.length
    · obtain ⟨ba, offa, rfl, hlca, hbaw, hcell⟩ := HO.out k hlt
      have hck : wr.cell? ⟨ba, offa + k, none⟩ = some (.int .i64 (asks[k]?.getD 0)) := (hbel.cell (by exact hbaw)).trans (hcell k hlt)
      have hr := ask_in HF.out.asked hlt
      have HROW : Hid (goRow true s asks (k+1) = (goStep true (goRow true s asks k) (asks[k]?.getD 0)).1) := rfl
      have HCST : Hid (goCost true s asks (k+1) = goCost true s asks k + (goStep true (goRow true s asks k) (asks[k]?.getD 0)).2) := rfl
      have HC0 : Hid (0 ≤ goCost true s asks k ∧ goCost true s asks k ≤ 240) := by have := RK.cost; unfold Hid; omega
      have HRIS : Hid (Ris (goRow true s asks k)) := RK.ris
      have HLIN : Hid (onLine (goRow true s asks k)) := RK.line
      have HRNE : Hid (goRow true s asks k ≠ []) := rowNe true asks HF.out.some k
      have HBST := bstep RK.line (rowNe true asks HF.out.some k) hr
      rw [hlen] at HBST
      clear hcell hbaw RK hO hbel
      generalize goRow true s asks k = R at *
      generalize goCost true s asks k = C at *
      generalize asks[k]?.getD 0 = r at *
      have HLEN : Hid (R.length = s.length) := hlen
      have HCL : Hid (∀ j, j < s.length → ∃ g, as_ = some ⟨g, 0, none⟩ ∧ s.length ≤ cs ∧ wr.cell? ⟨g, j, none⟩ = some (.int .i64 (R[j]?.getD 0))) := fun j hj => by
        obtain ⟨g, cap, cur, hv, _, _, _, h2, _⟩ := HW.out.block HRNE.out
        simp only [Value.slice.injEq] at hv
        obtain ⟨rfl, _, rfl⟩ := hv
        exact ⟨g, rfl, by omega, HW.out.cellN HLEN.out hj⟩
      have HBS : Hid (BStep R r (lftTo R r s.length) (rgtTo R r s.length)) := HBST
      clear HBST hlen
      go_wp2
      go_loop [10, 11, 12] (fun L G j => ∃ m : Nat, m ≤ s.length ∧ j = .int .i64 m ∧ L = .int .i64 (lftTo R r m) ∧ G = .int .i64 (rgtTo R r m)) (fun _ _ j => s.length - (intOf j).toNat)
      case atStart => exact ⟨0, Nat.zero_le _, rfl, rfl, rfl⟩
      case round =>
        obtain ⟨m, hm, rfl, rfl, rfl⟩ := hrel
        by_cases hml : m < s.length
        · obtain ⟨g, rfl, hgc, hcg⟩ := HCL.out m hml
          have hLc : (¬ R[m]?.getD 0 ≤ r ∧ lftTo R r (m+1) = lftTo R r m) ∨ (R[m]?.getD 0 ≤ r ∧ lftTo R r m < 0 ∧ lftTo R r (m+1) = R[m]?.getD 0) ∨ (R[m]?.getD 0 ≤ r ∧ ¬ lftTo R r m < 0 ∧ lftTo R r m < R[m]?.getD 0 ∧ lftTo R r (m+1) = R[m]?.getD 0) ∨ (R[m]?.getD 0 ≤ r ∧ ¬ lftTo R r m < 0 ∧ ¬ lftTo R r m < R[m]?.getD 0 ∧ lftTo R r (m+1) = lftTo R r m) := by
            show (_ ∧ (if _ then _ else _) = _) ∨ (_ ∧ _ ∧ (if _ then _ else _) = _) ∨ (_ ∧ _ ∧ _ ∧ (if _ then _ else _) = _) ∨ (_ ∧ _ ∧ _ ∧ (if _ then _ else _) = _)
            split <;> omega
          have hGc : (¬ r ≤ R[m]?.getD 0 ∧ rgtTo R r (m+1) = rgtTo R r m) ∨ (r ≤ R[m]?.getD 0 ∧ rgtTo R r m < 0 ∧ rgtTo R r (m+1) = R[m]?.getD 0) ∨ (r ≤ R[m]?.getD 0 ∧ ¬ rgtTo R r m < 0 ∧ R[m]?.getD 0 < rgtTo R r m ∧ rgtTo R r (m+1) = R[m]?.getD 0) ∨ (r ≤ R[m]?.getD 0 ∧ ¬ rgtTo R r m < 0 ∧ ¬ R[m]?.getD 0 < rgtTo R r m ∧ rgtTo R r (m+1) = rgtTo R r m) := by
            show (_ ∧ (if _ then _ else _) = _) ∨ (_ ∧ _ ∧ (if _ then _ else _) = _) ∨ (_ ∧ _ ∧ _ ∧ (if _ then _ else _) = _) ∨ (_ ∧ _ ∧ _ ∧ (if _ then _ else _) = _)
            split <;> omega
          obtain ⟨L2, hL2⟩ : ∃ L2, lftTo R r (m+1) = L2 := ⟨_, rfl⟩
          obtain ⟨G2, hG2⟩ : ∃ G2, rgtTo R r (m+1) = G2 := ⟨_, rfl⟩
          have HL2 : Hid (lftTo R r (m+1) = L2) := hL2
          have HG2 : Hid (rgtTo R r (m+1) = G2) := hG2
          rw [hL2] at hLc
          rw [hG2] at hGc
          clear hL2 hG2 HBS
          generalize R[m]?.getD 0 = a at *
          generalize lftTo R r m = L at *
          generalize rgtTo R r m = G at *
          -- <<A
          rcases hLc with ⟨l1, rfl⟩ | ⟨l1, l2, rfl⟩ | ⟨l1, l2, l3, rfl⟩ | ⟨l1, l2, l3, rfl⟩ <;> rcases hGc with ⟨g1, rfl⟩ | ⟨g1, g2, rfl⟩ | ⟨g1, g2, g3, rfl⟩ | ⟨g1, g2, g3, rfl⟩
          all_goals
            go_wp2
            go_round
            case rel => exact ⟨m + 1, by omega, by go_num, by rw [HL2.out], by rw [HG2.out]⟩
            case measure => simp [intOf]; omega
          -- >>A
        · have hmn : m = s.length := by omega
          subst hmn
          have hbs := HBS.out
          clear HBS HCL
          generalize lftTo R r s.length = L at *
          generalize rgtTo R r s.length = G at *
          rcases hbs with ⟨hL, hmem, hall, hlt2⟩ | ⟨hG, hL0, hmem, hall, hlt2⟩ | ⟨rfl, hG, hmem⟩ | ⟨hL0, hm1, hm2, hl1, hl2, hall⟩
          · subst hL
            have hG0 : 0 ≤ G := by omega
            have HSEL : Hid ((G ∈ R ∧ (∀ z, z ∈ R → G ≤ z) ∧ r < G) ∨ (G ∈ R ∧ (∀ z, z ∈ R → z ≤ G) ∧ G < r)) := .inl ⟨hmem, hall, hlt2⟩
            clear hall
            have S1 := bstep_one HRIS.out HRNE.out HLIN.out hr (a := G) HSEL.out
            have HST : Hid ((goStep true R r).1 = (R.erase (G) ++ [r]).mergeSort zle ∧ (goStep true R r).2 = zabs (G - r)) := S1
            have hn12 := HLIN.out _ hmem
            have HAB : Hid (∀ w, Calls Tryd.prog 19 #[.int .i64 (G), .int .i64 r] w fun e w' => e = .returned (.int .i64 (zabs (G - r))) ∧ w' = w) := fun w => abs_any _ _ (by omega) (by omega) w
            have hz : 0 ≤ zabs (G - r) ∧ zabs (G - r) ≤ 12 := by unfold zabs; omega
            have hc240 := HC0.out
            have hww : IntKind.i64.wrap (C + zabs (G - r)) = C + zabs (G - r) := by rw [IntKind.wrap_i64]; omega
            have HWO : Hid (∀ q, Calls Tryd.prog 20 #[.slice as_ s.length cs, .int .i64 (G)] (wr.drewN q) fun e w' => ∃ v', e = .returned v' ∧ OwnI w' w.heap.size v' (R.erase (G)) ∧ Below wr.heap.size wr w') := fun q => by
              refine (without_any _ R (G) (wr.drewN q) (HW.out.isInts.heap rfl) (by rw [HLEN.out]; omega)).mono ?_
              rintro e w' ⟨v', rfl, h1, h2⟩
              exact ⟨v', rfl, ownI_mono h1 HB.out.size, (below_drewN (Below.refl wr.heap.size wr) q).trans h2⟩
            have HEL : Hid ((R.erase (G)).length = s.length - 1) := by unfold Hid; rw [List.length_erase_of_mem hmem, HLEN.out]
            clear S1 hn12 hmem
            generalize zabs (G - r) = z at *
            go_wp2_with (first | (go_at_call 19; go_must (refine (HAB.out _).mono ?_; rintro e w' ⟨rfl, hw⟩; have hw := hw.symm; subst hw)) | (go_at_call 20; fail))
            refine (HWO.out 0).mono ?_
            rintro e w2 ⟨v2, rfl, hO2, hb2⟩
            obtain ⟨a2, c2, hv2⟩ := hO2.form
            rw [HEL.out] at hv2
            subst hv2
            have HO2 : Hid (OwnI w2 w.heap.size (.slice a2 (s.length - 1) c2) (R.erase (G))) := hO2
            have HB2 : Hid (Below w.heap.size w w2) := HB.out.trans (hb2.mono HB.out.size)
            clear hO2 hb2 HWO HAB
            have hm1 : s.length - 1 ≤ 2 := by omega
            generalize s.length - 1 = n1 at *
            go_wp2_with (first | (at_builtin; go_must (refine wpList_append_own _ rfl _ _ 22 rfl w.heap.size 3 i0 (.int .i64 0) 1 8 Tryd.underlying22 HI.out.1 HI.out.2.1 HI.out.2.2.1 HI.out.2.2.2 rfl (by decide) _ n1 ((R.erase (G)).map (Value.int .i64)) rfl (World.ownsRow.alloc (HO2.out.rows HEL.out rfl) _) ⟨w2.heap.size, 0, none⟩ 1 1 [.int .i64 r] rfl rfl (by exact new_one _ _ _) (one_cell _) (by unfold maxLen; omega) (by omega) (by have := HB2.out.size; simp; omega) ?_; intro v3 w3 hown' hgrow _; have Rr := keeps_append HO2.out HEL.out HB2.out.size hown' hgrow; have HO3 : Hid (OwnI w3 w.heap.size v3 (R.erase (G) ++ [r])) := Rr.1; have HB3 : Hid (Below w.heap.size w w3) := Rr.2.2 _ (Nat.le_refl _) HB2.out; clear Rr hown' hgrow)) | (go_at_call 18; fail))
            refine (rising_any _ (R.erase (G) ++ [r]) w3 HO3.out.isInts HO3.out.form (by rw [List.length_append, HEL.out]; simp; omega)).mono ?_
            rintro e w4 ⟨v4, rfl, hO4, hb4⟩
            have HO4 : Hid (OwnI w4 w.heap.size v4 ((R.erase (G) ++ [r]).mergeSort zle)) := ownI_mono hO4 HB3.out.size
            have HB4 : Hid (Below w.heap.size w w4) := HB3.out.trans (hb4.mono HB3.out.size)
            clear hO4 hb4
            go_wp2
            go_roundw
            case rel => exact ⟨k + 1, by omega, by go_num, by rw [HCST.out, HST.out.2], by rw [HROW.out, HST.out.1]; exact HO4.out, HB4.out⟩
            case measure => simp [intOf]; omega
          · subst hG
            have HSEL : Hid ((L ∈ R ∧ (∀ z, z ∈ R → L ≤ z) ∧ r < L) ∨ (L ∈ R ∧ (∀ z, z ∈ R → z ≤ L) ∧ L < r)) := .inr ⟨hmem, hall, hlt2⟩
            clear hall
            have S1 := bstep_one HRIS.out HRNE.out HLIN.out hr (a := L) HSEL.out
            have HST : Hid ((goStep true R r).1 = (R.erase (L) ++ [r]).mergeSort zle ∧ (goStep true R r).2 = zabs (L - r)) := S1
            have hn12 := HLIN.out _ hmem
            have HAB : Hid (∀ w, Calls Tryd.prog 19 #[.int .i64 (L), .int .i64 r] w fun e w' => e = .returned (.int .i64 (zabs (L - r))) ∧ w' = w) := fun w => abs_any _ _ (by omega) (by omega) w
            have hz : 0 ≤ zabs (L - r) ∧ zabs (L - r) ≤ 12 := by unfold zabs; omega
            have hc240 := HC0.out
            have hww : IntKind.i64.wrap (C + zabs (L - r)) = C + zabs (L - r) := by rw [IntKind.wrap_i64]; omega
            have HWO : Hid (∀ q, Calls Tryd.prog 20 #[.slice as_ s.length cs, .int .i64 (L)] (wr.drewN q) fun e w' => ∃ v', e = .returned v' ∧ OwnI w' w.heap.size v' (R.erase (L)) ∧ Below wr.heap.size wr w') := fun q => by
              refine (without_any _ R (L) (wr.drewN q) (HW.out.isInts.heap rfl) (by rw [HLEN.out]; omega)).mono ?_
              rintro e w' ⟨v', rfl, h1, h2⟩
              exact ⟨v', rfl, ownI_mono h1 HB.out.size, (below_drewN (Below.refl wr.heap.size wr) q).trans h2⟩
            have HEL : Hid ((R.erase (L)).length = s.length - 1) := by unfold Hid; rw [List.length_erase_of_mem hmem, HLEN.out]
            clear S1 hn12 hmem
            generalize zabs (L - r) = z at *
            go_wp2_with (first | (go_at_call 19; go_must (refine (HAB.out _).mono ?_; rintro e w' ⟨rfl, hw⟩; have hw := hw.symm; subst hw)) | (go_at_call 20; fail))
            refine (HWO.out 0).mono ?_
            rintro e w2 ⟨v2, rfl, hO2, hb2⟩
            obtain ⟨a2, c2, hv2⟩ := hO2.form
            rw [HEL.out] at hv2
            subst hv2
            have HO2 : Hid (OwnI w2 w.heap.size (.slice a2 (s.length - 1) c2) (R.erase (L))) := hO2
            have HB2 : Hid (Below w.heap.size w w2) := HB.out.trans (hb2.mono HB.out.size)
            clear hO2 hb2 HWO HAB
            have hm1 : s.length - 1 ≤ 2 := by omega
            generalize s.length - 1 = n1 at *
            go_wp2_with (first | (at_builtin; go_must (refine wpList_append_own _ rfl _ _ 22 rfl w.heap.size 3 i0 (.int .i64 0) 1 8 Tryd.underlying22 HI.out.1 HI.out.2.1 HI.out.2.2.1 HI.out.2.2.2 rfl (by decide) _ n1 ((R.erase (L)).map (Value.int .i64)) rfl (World.ownsRow.alloc (HO2.out.rows HEL.out rfl) _) ⟨w2.heap.size, 0, none⟩ 1 1 [.int .i64 r] rfl rfl (by exact new_one _ _ _) (one_cell _) (by unfold maxLen; omega) (by omega) (by have := HB2.out.size; simp; omega) ?_; intro v3 w3 hown' hgrow _; have Rr := keeps_append HO2.out HEL.out HB2.out.size hown' hgrow; have HO3 : Hid (OwnI w3 w.heap.size v3 (R.erase (L) ++ [r])) := Rr.1; have HB3 : Hid (Below w.heap.size w w3) := Rr.2.2 _ (Nat.le_refl _) HB2.out; clear Rr hown' hgrow)) | (go_at_call 18; fail))
            refine (rising_any _ (R.erase (L) ++ [r]) w3 HO3.out.isInts HO3.out.form (by rw [List.length_append, HEL.out]; simp; omega)).mono ?_
            rintro e w4 ⟨v4, rfl, hO4, hb4⟩
            have HO4 : Hid (OwnI w4 w.heap.size v4 ((R.erase (L) ++ [r]).mergeSort zle)) := ownI_mono hO4 HB3.out.size
            have HB4 : Hid (Below w.heap.size w w4) := HB3.out.trans (hb4.mono HB3.out.size)
            clear hO4 hb4
            go_wp2
            go_roundw
            case rel => exact ⟨k + 1, by omega, by go_num, by rw [HCST.out, HST.out.2], by rw [HROW.out, HST.out.1]; exact HO4.out, HB4.out⟩
            case measure => simp [intOf]; omega
          · have HST : Hid (goStep true R L = (R, 0)) := bstep_there hmem
            subst hG
            go_wp2
            go_roundw
            case rel => exact ⟨k + 1, by omega, by go_num, by rw [HCST.out, HST.out, Int.add_zero], by rw [HROW.out, HST.out]; exact HW.out, HB.out⟩
            case measure => simp [intOf]; omega
          · have hL12 := HLIN.out _ hm1
            have hG12 := HLIN.out _ hm2
            have hc240 := HC0.out
            have HER : Hid (((R.erase L).erase G).length = s.length - 1 - 1) := by
              have hm3 : G ∈ R.erase L := (List.mem_erase_of_ne (by omega)).2 hm2
              unfold Hid
              rw [List.length_erase_of_mem hm3, List.length_erase_of_mem hm1, HLEN.out]
            have HEL : Hid ((R.erase L).length = s.length - 1) := by unfold Hid; rw [List.length_erase_of_mem hm1, HLEN.out]
            have HWO : Hid (Calls Tryd.prog 20 #[.slice as_ s.length cs, .int .i64 L] wr fun e w' => ∃ v', e = .returned v' ∧ OwnI w' w.heap.size v' (R.erase L) ∧ Below wr.heap.size wr w') := by
              refine (without_any _ R L wr HW.out.isInts (by rw [HLEN.out]; omega)).mono ?_
              rintro e w' ⟨v', rfl, h1, h2⟩
              exact ⟨v', rfl, ownI_mono h1 HB.out.size, h2⟩
            have HTW : Hid (∀ D, D = min (r - L) (G - r) → (goStep true R r).1 = ((R.erase L).erase G ++ [L + D, G - D]).mergeSort zle ∧ (goStep true R r).2 = 2 * D) := fun D hD => bstep_two HRIS.out HRNE.out HLIN.out hr hm1 hm2 hl1 hl2 hall hD
            clear hm1 hm2 hall
            by_cases hcmp : G - r < r - L
            · have HST := HTW.out (G - r) (by omega)
              have HST2 : Hid ((goStep true R r).1 = ((R.erase L).erase G ++ [L + (G - r), G - (G - r)]).mergeSort zle ∧ (goStep true R r).2 = 2 * (G - r)) := HST
              clear HST HTW
              go_wp2_with (go_at_call 20; fail)
              refine HWO.out.mono ?_
              rintro e w2 ⟨v2, rfl, hO2, hb2⟩
              have HO2 : Hid (OwnI w2 w.heap.size v2 (R.erase L)) := hO2
              have HB2 : Hid (Below w.heap.size w w2) := HB.out.trans (hb2.mono HB.out.size)
              clear hO2 hb2 HWO
              go_wp2_with (go_at_call 20; fail)
              refine (without_any _ (R.erase L) G w2 HO2.out.isInts (by rw [HEL.out]; omega)).mono ?_
              rintro e w3 ⟨v3, rfl, hO3, hb3⟩
              obtain ⟨a3, c3, hv3⟩ := hO3.form
              rw [HER.out] at hv3
              subst hv3
              have HO3 : Hid (OwnI w3 w.heap.size (.slice a3 (s.length - 1 - 1) c3) ((R.erase L).erase G)) := ownI_mono hO3 HB2.out.size
              have HB3 : Hid (Below w.heap.size w w3) := HB2.out.trans (hb3.mono HB2.out.size)
              clear hO3 hb3 HO2 HB2
              have hm1 : s.length - 1 - 1 ≤ 2 := by omega
              generalize s.length - 1 - 1 = n1 at *
              go_wp2_with (first | (at_builtin; go_must (refine wpList_append_own _ rfl _ _ 22 rfl w.heap.size 3 i0 (.int .i64 0) 1 8 Tryd.underlying22 HI.out.1 HI.out.2.1 HI.out.2.2.1 HI.out.2.2.2 rfl (by decide) _ n1 (((R.erase L).erase G).map (Value.int .i64)) rfl (World.ownsRow.alloc (HO3.out.rows HER.out rfl) _) ⟨w3.heap.size, 0, none⟩ 2 2 [.int .i64 (L + (G - r)), .int .i64 (G - (G - r))] rfl rfl (by exact new_two _ _ _ _) (two_cell _ _) (by unfold maxLen; omega) (by omega) (by have := HB3.out.size; simp; omega) ?_; intro v4 w4 hown' hgrow _; have Rr := own_append_two HO3.out HER.out HB3.out hown' hgrow; have HO4 : Hid (OwnI w4 w.heap.size v4 ((R.erase L).erase G ++ [L + (G - r), G - (G - r)])) := Rr.1; have HB4 : Hid (Below w.heap.size w w4) := Rr.2; clear Rr hown' hgrow)) | (go_at_call 18; fail))
              refine (rising_any _ ((R.erase L).erase G ++ [L + (G - r), G - (G - r)]) w4 HO4.out.isInts HO4.out.form (by rw [List.length_append, HER.out]; simp; omega)).mono ?_
              rintro e w5 ⟨v5, rfl, hO5, hb5⟩
              have HO5 : Hid (OwnI w5 w.heap.size v5 (((R.erase L).erase G ++ [L + (G - r), G - (G - r)]).mergeSort zle)) := ownI_mono hO5 HB4.out.size
              have HB5 : Hid (Below w.heap.size w w5) := HB4.out.trans (hb5.mono HB4.out.size)
              clear hO5 hb5
              go_wp2
              go_roundw
              case rel => exact ⟨k + 1, by omega, by go_num, by rw [HCST.out, HST2.out.2], by rw [HROW.out, HST2.out.1]; exact HO5.out, HB5.out⟩
              case measure => simp [intOf]; omega
            · have HST := HTW.out (r - L) (by omega)
              have HST2 : Hid ((goStep true R r).1 = ((R.erase L).erase G ++ [L + (r - L), G - (r - L)]).mergeSort zle ∧ (goStep true R r).2 = 2 * (r - L)) := HST
              clear HST HTW
              go_wp2_with (go_at_call 20; fail)
              refine HWO.out.mono ?_
              rintro e w2 ⟨v2, rfl, hO2, hb2⟩
              have HO2 : Hid (OwnI w2 w.heap.size v2 (R.erase L)) := hO2
              have HB2 : Hid (Below w.heap.size w w2) := HB.out.trans (hb2.mono HB.out.size)
              clear hO2 hb2 HWO
              go_wp2_with (go_at_call 20; fail)
              refine (without_any _ (R.erase L) G w2 HO2.out.isInts (by rw [HEL.out]; omega)).mono ?_
              rintro e w3 ⟨v3, rfl, hO3, hb3⟩
              obtain ⟨a3, c3, hv3⟩ := hO3.form
              rw [HER.out] at hv3
              subst hv3
              have HO3 : Hid (OwnI w3 w.heap.size (.slice a3 (s.length - 1 - 1) c3) ((R.erase L).erase G)) := ownI_mono hO3 HB2.out.size
              have HB3 : Hid (Below w.heap.size w w3) := HB2.out.trans (hb3.mono HB2.out.size)
              clear hO3 hb3 HO2 HB2
              have hm1 : s.length - 1 - 1 ≤ 2 := by omega
              generalize s.length - 1 - 1 = n1 at *
              go_wp2_with (first | (at_builtin; go_must (refine wpList_append_own _ rfl _ _ 22 rfl w.heap.size 3 i0 (.int .i64 0) 1 8 Tryd.underlying22 HI.out.1 HI.out.2.1 HI.out.2.2.1 HI.out.2.2.2 rfl (by decide) _ n1 (((R.erase L).erase G).map (Value.int .i64)) rfl (World.ownsRow.alloc (HO3.out.rows HER.out rfl) _) ⟨w3.heap.size, 0, none⟩ 2 2 [.int .i64 (L + (r - L)), .int .i64 (G - (r - L))] rfl rfl (by exact new_two _ _ _ _) (two_cell _ _) (by unfold maxLen; omega) (by omega) (by have := HB3.out.size; simp; omega) ?_; intro v4 w4 hown' hgrow _; have Rr := own_append_two HO3.out HER.out HB3.out hown' hgrow; have HO4 : Hid (OwnI w4 w.heap.size v4 ((R.erase L).erase G ++ [L + (r - L), G - (r - L)])) := Rr.1; have HB4 : Hid (Below w.heap.size w w4) := Rr.2; clear Rr hown' hgrow)) | (go_at_call 18; fail))
              refine (rising_any _ ((R.erase L).erase G ++ [L + (r - L), G - (r - L)]) w4 HO4.out.isInts HO4.out.form (by rw [List.length_append, HER.out]; simp; omega)).mono ?_
              rintro e w5 ⟨v5, rfl, hO5, hb5⟩
              have HO5 : Hid (OwnI w5 w.heap.size v5 (((R.erase L).erase G ++ [L + (r - L), G - (r - L)]).mergeSort zle)) := ownI_mono hO5 HB4.out.size
              have HB5 : Hid (Below w.heap.size w w5) := HB4.out.trans (hb5.mono HB4.out.size)
              clear hO5 hb5
              go_wp2
              go_roundw
              case rel => exact ⟨k + 1, by omega, by go_num, by rw [HCST.out, HST2.out.2], by rw [HROW.out, HST2.out.1]; exact HO5.out, HB5.out⟩
              case measure => simp [intOf]; omega
    · have hkl : k = asks.length := by omega
      subst hkl
      go_wp2
      go_ret2
      exact ⟨_, rfl, HW.out, HB.out⟩
end Go.Proofs.YtnjfmlojbaigjaaDoor
