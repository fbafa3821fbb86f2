/- The walk of the document's with (larderwickref2): a block more. -/
import Derived.Test.YtjcikoaoemingaaDoorArI
import Derived.Test.YtjcikoaoemingaaDoorBuddyW
import Derived.Test.YtjcikoaoemingaaDoorTurn
import Derived.Test.YtjcikoaoemingaaDoorRPut
import Derived.Test.YtjcikoaoemingaaDoorStepL
namespace Go.Proofs.YtjcikoaoemingaaDoor
open Go.RowKit Go.Maps Go.Sort

theorem insP_at {p o : Nat} : ∀ {L : List (Nat × Nat)} {i : Nat}, i ≤ L.length → (∀ j (h : j < L.length), j < i → (L[j]).1 < p) → (∀ h : i < L.length, ¬ (L[i]).1 < p) → insP p o L = L.take i ++ (p, o) :: L.drop i
  | [], i, hi, _, _ => by
    have : i = 0 := by simpa using hi
    subst this; rfl
  | b :: L, 0, _, _, h => by
    have := h (by simp)
    unfold insP
    rw [if_neg (by simpa using this)]
    rfl
  | b :: L, i + 1, hi, h1, h2 => by
    have h0 := h1 0 (by simp) (by omega)
    unfold insP
    rw [if_pos (by simpa using h0), insP_at (L := L) (i := i) (by simpa using hi) (fun j h hj => by have := h1 (j+1) (by simp; omega) (by omega); rw [List.getElem_cons_succ] at this; exact this) (fun h => by have := h2 (by simp; omega); rw [List.getElem_cons_succ] at this; exact this)]
    rfl

theorem two_set {W : World} {g : Nat} {t : TypeId} {a0 a1 : Value} (u0 u1 : Value) (h : W.heap[g]? = some (.cells #[a0, a1] t (0, 0))) : ((W.setCell ⟨g, 0, none⟩ u0).setCell ⟨g, 1, none⟩ u1).heap[g]? = some (.cells #[u0, u1] t (0, 0)) := by
  have h1 : (W.setCell ⟨g, 0, none⟩ u0).heap[g]? = some (.cells #[u0, a1] t (0, 0)) := by
    simp only [World.setCell, Array.getElem?_modify]
    rw [if_pos trivial, h]; rfl
  generalize W.setCell ⟨g, 0, none⟩ u0 = W1 at *
  simp only [World.setCell, Array.getElem?_modify]
  rw [if_pos trivial, h1]; rfl
/-- Two rows, written into a result's block. -/
theorem two_end {w wr W2 W3 : World} {L : List (Nat × Nat)} {v1 v2 : Value} {g : Nat} (hg : w.heap.size ≤ g) (hgr : g < wr.heap.size) (hb : Below w.heap.size w wr) (h1 : OwnI W2 wr.heap.size v1 (atsI L)) (h2 : OwnI W3 wr.heap.size v2 (ordsI L)) (hk : ∀ v l, OwnI W2 wr.heap.size v l → OwnI W3 wr.heap.size v l) (hb3 : Below wr.heap.size wr W3) :
    IsAr ((W3.setCell ⟨g, 0, none⟩ v1).setCell ⟨g, 1, none⟩ v2) w.heap.size (.agg #[v1, v2]) L ∧ Below w.heap.size w ((W3.setCell ⟨g, 0, none⟩ v1).setCell ⟨g, 1, none⟩ v2) := by
  have hs := hb.size
  have key : ∀ {v : Value} {l : List Int}, OwnI W3 wr.heap.size v l → OwnI ((W3.setCell ⟨g, 0, none⟩ v1).setCell ⟨g, 1, none⟩ v2) w.heap.size v l := by
    intro v l h
    have ht : Turn g g W3 ((W3.setCell ⟨g, 0, none⟩ v1).setCell ⟨g, 1, none⟩ v2) := (Turn.setCell W3 ⟨g, 0, none⟩ v1 rfl).trans (Turn.setCell _ ⟨g, 1, none⟩ v2 rfl)
    refine ownI_mono (own_turn h ht fun k hk => ?_) hs
    have := (World.ownsRow.lt h k hk).1
    omega
  exact ⟨⟨v1, v2, rfl, key (hk _ _ h1), key h2⟩, ((hb.trans (hb3.mono hs)).setCell hg _).setCell hg _⟩

set_option maxRecDepth 100000 in
set_option maxHeartbeats 4000000 in
theorem rwith_any (L : List (Nat × Nat)) (hL : L.length ≤ 64) (v : Value) (B p o : Nat) (w : World) (hv : IsAr w B v L) :
    Calls Tryd.prog 32 #[v, .int .i64 (p : Nat), .int .i64 (o : Nat)] w fun e w' => ∃ u, e = .returned u ∧ IsAr w' w.heap.size u (insP p o L) ∧ Below w.heap.size w w' := by
  obtain ⟨va, vo, rfl, h1, h2⟩ := hv
  obtain ⟨aa, ca, hva⟩ := h1.form
  obtain ⟨ao, co, hvo⟩ := h2.form
  rw [atsI_length] at hva
  rw [ordsI_length] at hvo
  subst hva hvo
  have HB2 : Hid (Below w.heap.size w ((w.alloc (.cells #[.slice aa L.length ca, .slice ao L.length co] 37)).alloc (.cells #[.slice none 0 0, .slice none 0 0] 37))) := ((Below.refl _ w).alloc (Nat.le_refl _) _).alloc (by simp) _
  have HH1 : Hid (((w.alloc (.cells #[.slice aa L.length ca, .slice ao L.length co] 37)).alloc (.cells #[.slice none 0 0, .slice none 0 0] 37)).heap[w.heap.size]? = some (.cells #[.slice aa L.length ca, .slice ao L.length co] 37 (0, 0))) :=
    (Below.heap_alloc _ _ _ (by simp)).trans (heap_alloc_new w _)
  have HH2 : Hid (((w.alloc (.cells #[.slice aa L.length ca, .slice ao L.length co] 37)).alloc (.cells #[.slice none 0 0, .slice none 0 0] 37)).heap[w.heap.size + 1]? = some (.cells #[.slice none 0 0, .slice none 0 0] 37 (0, 0))) := by
    have := heap_alloc_new (w.alloc (.cells #[.slice aa L.length ca, .slice ao L.length co] 37)) (.cells #[.slice none 0 0, .slice none 0 0] 37)
    rw [show (w.alloc (.cells #[.slice aa L.length ca, .slice ao L.length co] 37)).heap.size = w.heap.size + 1 by simp] at this
    exact this
  have HSZ : Hid (((w.alloc (.cells #[.slice aa L.length ca, .slice ao L.length co] 37)).alloc (.cells #[.slice none 0 0, .slice none 0 0] 37)).heap.size = w.heap.size + 2) := by unfold Hid; simp
  have HO1 : Hid (OwnI ((w.alloc (.cells #[.slice aa L.length ca, .slice ao L.length co] 37)).alloc (.cells #[.slice none 0 0, .slice none 0 0] 37)) B (.slice aa L.length ca) (atsI L)) := World.ownsRow.alloc (World.ownsRow.alloc h1 _) _
  have HO2 : Hid (OwnI ((w.alloc (.cells #[.slice aa L.length ca, .slice ao L.length co] 37)).alloc (.cells #[.slice none 0 0, .slice none 0 0] 37)) B (.slice ao L.length co) (ordsI L)) := World.ownsRow.alloc (World.ownsRow.alloc h2 _) _
  clear h1 h2
  go_enter Tryd.func32, Tryd.ntmps32
  go_wp2
  generalize (w.alloc (.cells #[.slice aa L.length ca, .slice ao L.length co] 37)).alloc (.cells #[.slice none 0 0, .slice none 0 0] 37) = w2 at *
  have hca : w2.cell? ⟨w.heap.size, 0, none⟩ = some (.slice aa L.length ca) := by
    unfold World.cell?; rw [show w2.heap[(⟨w.heap.size, 0, none⟩ : Addr).block]? = _ from HH1.out]; rfl
  have hcb : w2.cell? ⟨w.heap.size, 1, none⟩ = some (.slice ao L.length co) := by
    unfold World.cell?; rw [show w2.heap[(⟨w.heap.size, 1, none⟩ : Addr).block]? = _ from HH1.out]; rfl
  go_loopw [7] (fun v7 wr => ∃ i : Nat, i ≤ L.length ∧ v7 = .int .i64 (i : Nat) ∧ wr = w2 ∧ Hid (∀ j (h : j < L.length), j < i → (L[j]).1 < p)) (fun v7 _ => L.length - (RowKit.intOf v7).toNat)
  case atStart => exact ⟨0, Nat.zero_le _, rfl, rfl, fun j h hj => by omega⟩
  case round =>
    obtain ⟨i, hi, rfl, rfl, HA⟩ := hrel
    by_cases hin : i < L.length ∧ (L[i]?.getD (0, 0)).1 < p
    · obtain ⟨hin', hlp⟩ := hin
      have hlt : (i : Int) < (L.length : Int) := by omega
      have HN : Hid (∀ j (h : j < L.length), j < i + 1 → (L[j]).1 < p) := fun j h hj => by
        by_cases e : j = i
        · subst e
          rw [List.getElem?_eq_getElem h] at hlp
          exact hlp
        · exact HA.out j h (by omega)
      obtain ⟨ga, rfl, hga, hnca, hmca, hcx⟩ := own_at HO1.out (atsI_length L) hin'
      rw [atsI_get hin'] at hcx
      rw [List.getElem?_eq_getElem hin', Option.getD_some] at hlp
      unfold maxLen at hmca
      generalize (L[i]).1 = x at *
      have hxp : (x : Int) < (p : Int) := by omega
      clear HA
      go_wp2
      go_roundw
      case rel => exact ⟨i + 1, by omega, by go_num, trivial, HN.out⟩
      case measure => simp [RowKit.intOf]; omega
    · have HINS : Hid (insP p o L = L.take i ++ (p, o) :: L.drop i) := insP_at hi HA.out fun h hlp => hin ⟨h, by rw [List.getElem?_eq_getElem h]; exact hlp⟩
      have HATS : Hid (atsI (insP p o L) = (atsI L).take i ++ (p : Int) :: (atsI L).drop i) := by
        unfold Hid atsI
        rw [HINS.out, List.map_append, List.map_cons, List.map_take, List.map_drop]
      have HORD : Hid (ordsI (insP p o L) = (ordsI L).take i ++ (o : Int) :: (ordsI L).drop i) := by
        unfold Hid ordsI
        rw [HINS.out, List.map_append, List.map_cons, List.map_take, List.map_drop]
      have HLI : Hid ((insP p o L).length = L.length + 1) := by have := (insP_perm (p := p) (o := o) (L := L)).length_eq; unfold Hid; simpa using this
      have HPA : Hid (∀ W, Below wr.heap.size wr W → Calls Tryd.prog 48 #[.slice aa L.length ca, .int .i64 (i : Nat), .int .i64 (p : Nat)] W fun e w' => ∃ a1 c1, e = .returned (.slice a1 (L.length + 1) c1) ∧ Hid (OwnI w' wr.heap.size (.slice a1 (L.length + 1) c1) (atsI (insP p o L))) ∧ Hid (Below wr.heap.size wr w')) := fun W hW => by
        refine (rput_any _ (atsI L) i (p : Nat) W B (HO1.out.later hW) (by rw [atsI_length]; exact hi) (by rw [atsI_length]; omega)).mono ?_
        rintro e w' ⟨v', rfl, h1, h2⟩
        rw [← HATS.out] at h1
        obtain ⟨a1, c1, hv⟩ := h1.form
        rw [atsI_length, HLI.out] at hv
        subst hv
        exact ⟨a1, c1, rfl, ownI_mono h1 hW.size, hW.trans (h2.mono hW.size)⟩
      have HPB : Hid (∀ W, Hid (Below wr.heap.size wr W) → Calls Tryd.prog 48 #[.slice ao L.length co, .int .i64 (i : Nat), .int .i64 (o : Nat)] W fun e w' => ∃ a1 c1, e = .returned (.slice a1 (L.length + 1) c1) ∧ Hid (OwnI w' wr.heap.size (.slice a1 (L.length + 1) c1) (ordsI (insP p o L))) ∧ Hid (Below wr.heap.size wr w') ∧ Hid (∀ v l, OwnI W wr.heap.size v l → OwnI w' wr.heap.size v l)) := fun W hW => by
        refine (rput_any _ (ordsI L) i (o : Nat) W B (HO2.out.later hW.out) (by rw [ordsI_length]; exact hi) (by rw [ordsI_length]; omega)).mono ?_
        rintro e w' ⟨v', rfl, h1, h2⟩
        rw [← HORD.out] at h1
        obtain ⟨a1, c1, hv⟩ := h1.form
        rw [ordsI_length, HLI.out] at hv
        subst hv
        exact ⟨a1, c1, rfl, ownI_mono h1 hW.out.size, hW.out.trans (h2.mono hW.out.size), fun v l h => h.later h2⟩
      have HDD : Hid (Below wr.heap.size wr wr.drew) := (Below.refl _ _).drew
      have HKC : Hid (∀ W, Hid (Below wr.heap.size wr W) → W.cell? ⟨w.heap.size, 1, none⟩ = some (.slice ao L.length co) ∧ W.cell? ⟨w.heap.size + 1, 0, none⟩ = some (.slice none 0 0) ∧ W.cell? ⟨w.heap.size + 1, 1, none⟩ = some (.slice none 0 0) ∧ W.frozen? ⟨w.heap.size + 1, 0, none⟩ = false ∧ W.frozen? ⟨w.heap.size + 1, 1, none⟩ = false ∧ Hid (W.heap[w.heap.size + 1]? = some (.cells #[.slice none 0 0, .slice none 0 0] 37 (0, 0)))) := fun W hW => by
        have hs := HSZ.out
        have hb2 : W.heap[w.heap.size + 1]? = some (.cells #[.slice none 0 0, .slice none 0 0] 37 (0, 0)) := (hW.out.block _ (by omega)).trans HH2.out
        refine ⟨(hW.out.cell (p := ⟨w.heap.size, 1, none⟩) (show w.heap.size < _ by omega)).trans hcb, ?_, ?_, ?_, ?_, hb2⟩
        · unfold World.cell?; rw [show W.heap[(⟨w.heap.size + 1, 0, none⟩ : Addr).block]? = _ from hb2]; rfl
        · unfold World.cell?; rw [show W.heap[(⟨w.heap.size + 1, 1, none⟩ : Addr).block]? = _ from hb2]; rfl
        · unfold World.frozen?; rw [show W.heap[(⟨w.heap.size + 1, 0, none⟩ : Addr).block]? = _ from hb2]; simp
        · unfold World.frozen?; rw [show W.heap[(⟨w.heap.size + 1, 1, none⟩ : Addr).block]? = _ from hb2]; simp
      have HEX : Hid (i < L.length → (L[i]?.getD (0, 0)).1 < p → False) := fun h1 h2 => hin ⟨h1, h2⟩
      have hda : wr.drew.cell? ⟨w.heap.size, 0, none⟩ = some (.slice aa L.length ca) := hca
      have hdb : wr.drew.cell? ⟨w.heap.size, 1, none⟩ = some (.slice ao L.length co) := hcb
      clear hin HA HINS HATS HORD
      by_cases hin' : i < L.length
      · have hlt : (i : Int) < (L.length : Int) := by omega
        obtain ⟨ga, rfl, hga, hnca, hmca, hcx⟩ := own_at HO1.out (atsI_length L) hin'
        rw [atsI_get hin'] at hcx
        unfold maxLen at hmca
        have hxp : ¬ (((L[i]).1 : Nat) : Int) < (p : Int) := by
          intro h
          exact HEX.out hin' (by rw [List.getElem?_eq_getElem hin']; show (L[i]).1 < p; omega)
        generalize (L[i]).1 = x at *
        go_wp2
        go_region_law (first
          | (refine step_call rfl 48 _ _ rfl #[.slice (some ⟨ga, 0, none⟩) L.length ca, .int .i64 (i : Nat), .int .i64 (p : Nat)] (by simp [Act.eval]) (enters_of Tryd.func48 (by kernel_rfl) rfl _) (HPA.out _ HDD.out) ?_; rintro e W2 ⟨a1, c1, rfl, HR1, HBW⟩; refine ⟨_, rfl, ?_⟩; have hcb2 := (HKC.out W2 HBW).1)
          | (refine step_call rfl 48 _ _ rfl #[.slice ao L.length co, .int .i64 (i : Nat), .int .i64 (o : Nat)] (by simp [Act.eval]) (enters_of Tryd.func48 (by kernel_rfl) rfl _) (HPB.out _ HBW) ?_; rintro e W3 ⟨a2, c2, rfl, HR2, HBW3, HKP⟩; refine ⟨_, rfl, ?_⟩; obtain ⟨_, hr0, hr1, hf0, hf1, HH3⟩ := HKC.out W3 HBW3))
        all_goals
          have HE := two_end (g := w.heap.size + 1) (by omega) (by have := HSZ.out; omega) HB2.out HR1.out HR2.out HKP.out HBW3.out
          have HW4 := two_set (.slice a1 (L.length + 1) c1) (.slice a2 (L.length + 1) c2) HH3.out
          have HE : Hid _ := HE
          have HW4 : Hid _ := HW4
          go_wp2
          refine bodyPost_ret_by (results_cell_row Tryd.results32 _ _ (w.heap.size + 1) 37 #[.slice a1 (L.length + 1) c1, .slice a2 (L.length + 1) c2] (0, 0) _ rfl HW4.out Tryd.underlying37 rfl (by kernel_rfl)) rfl ?_
          exact ⟨_, rfl, HE.out⟩
      · have hlt : ¬ (i : Int) < (L.length : Int) := by omega
        go_wp2
        go_region_law (first
          | (refine step_call rfl 48 _ _ rfl #[.slice aa L.length ca, .int .i64 (i : Nat), .int .i64 (p : Nat)] (by simp [Act.eval]) (enters_of Tryd.func48 (by kernel_rfl) rfl _) (HPA.out _ HDD.out) ?_; rintro e W2 ⟨a1, c1, rfl, HR1, HBW⟩; refine ⟨_, rfl, ?_⟩; have hcb2 := (HKC.out W2 HBW).1)
          | (refine step_call rfl 48 _ _ rfl #[.slice ao L.length co, .int .i64 (i : Nat), .int .i64 (o : Nat)] (by simp [Act.eval]) (enters_of Tryd.func48 (by kernel_rfl) rfl _) (HPB.out _ HBW) ?_; rintro e W3 ⟨a2, c2, rfl, HR2, HBW3, HKP⟩; refine ⟨_, rfl, ?_⟩; obtain ⟨_, hr0, hr1, hf0, hf1, HH3⟩ := HKC.out W3 HBW3))
        all_goals
          have HE := two_end (g := w.heap.size + 1) (by omega) (by have := HSZ.out; omega) HB2.out HR1.out HR2.out HKP.out HBW3.out
          have HW4 := two_set (.slice a1 (L.length + 1) c1) (.slice a2 (L.length + 1) c2) HH3.out
          have HE : Hid _ := HE
          have HW4 : Hid _ := HW4
          go_wp2
          refine bodyPost_ret_by (results_cell_row Tryd.results32 _ _ (w.heap.size + 1) 37 #[.slice a1 (L.length + 1) c1, .slice a2 (L.length + 1) c2] (0, 0) _ rfl HW4.out Tryd.underlying37 rfl (by kernel_rfl)) rfl ?_
          exact ⟨_, rfl, HE.out⟩
end Go.Proofs.YtjcikoaoemingaaDoor
