/- The walk of the document's Back (larderwickref2). -/
import Derived.Test.YtjcikoaoemingaaDoorRArE
import Derived.Test.YtjcikoaoemingaaDoorRPlace
import Derived.Test.YtjcikoaoemingaaDoorBuddyS
namespace Go.Proofs.YtjcikoaoemingaaDoor
open Go.RowKit Go.Maps Go.Sort

theorem plc_look_none {L : List (Nat × Nat)} {z : Int} (h : look L z = none) : plc (atsI L) z = -1 := by
  refine plc_none ?_
  have : z ∉ atsI L := by
    intro hm
    unfold atsI at hm
    obtain ⟨b, hb, e⟩ := List.mem_map.1 hm
    exact look_none h b hb e
  simpa using this
theorem plc_look_some {L : List (Nat × Nat)} {z : Int} {o : Nat} (h : look L z = some o) : ∃ (i : Nat) (hi : i < L.length), plc (atsI L) z = (i : Nat) ∧ (L[i]).1 = z.toNat := by
  obtain ⟨p, rfl, hm⟩ := look_some h
  have hz : ((p : Nat) : Int) ∈ atsI L := by unfold atsI; exact List.mem_map.2 ⟨(p, o), hm, rfl⟩
  have hi : (atsI L).idxOf ((p : Nat) : Int) < L.length := by have := List.idxOf_lt_length_iff.2 hz; rwa [atsI_length] at this
  refine ⟨_, hi, plc_idx hz, ?_⟩
  have h1 : (atsI L)[(atsI L).idxOf ((p : Nat) : Int)]?.getD 0 = ((p : Nat) : Int) := by
    rw [List.getElem?_eq_getElem (by rw [atsI_length]; exact hi), Option.getD_some]
    exact List.getElem_idxOf (by rw [atsI_length]; exact hi)
  rw [atsI_get hi] at h1
  omega

set_option maxRecDepth 100000 in
set_option maxHeartbeats 2000000 in
theorem rback_le (L : List (Nat × Nat)) (hU : Up L) (hL64 : L.length ≤ 64) (v : Value) (B : Nat) (z : Int) (w : World) (hB : B ≤ w.heap.size) (hv : IsAr w B v L) :
    Calls Tryd.prog 17 #[v, .int .i64 z] w fun e w' => ∃ u, e = .returned (.tuple #[u, .int .i64 ((backF L z).1 : Nat)]) ∧ IsAr w' B u (backF L z).2 ∧ Below w.heap.size w w' := by
  obtain ⟨va, vo, rfl, h1, h2⟩ := hv
  obtain ⟨aa, ca, hva⟩ := h1.form
  obtain ⟨ao, co, hvo⟩ := h2.form
  rw [atsI_length] at hva
  rw [ordsI_length] at hvo
  subst hva hvo
  have HU : Hid (Up L) := hU
  have HW2 : Hid (((w.alloc (.cells #[.slice aa L.length ca, .slice ao L.length co] 37)).alloc (.cells #[.slice none 0 0, .slice none 0 0] 37)).heap[w.heap.size]? = some (.cells #[.slice aa L.length ca, .slice ao L.length co] 37 (0, 0))) := (Below.heap_alloc _ _ _ (by simp)).trans (heap_alloc_new w _)
  have HX2 : Hid (((w.alloc (.cells #[.slice aa L.length ca, .slice ao L.length co] 37)).alloc (.cells #[.slice none 0 0, .slice none 0 0] 37)).heap[w.heap.size + 1]? = some (.cells #[.slice none 0 0, .slice none 0 0] 37 (0, 0))) := heap_alloc2_new w _ _
  have HS2 : Hid (((w.alloc (.cells #[.slice aa L.length ca, .slice ao L.length co] 37)).alloc (.cells #[.slice none 0 0, .slice none 0 0] 37)).heap.size = w.heap.size + 1 + 1) := by unfold Hid; simp
  have HBW : Hid (Below w.heap.size w ((w.alloc (.cells #[.slice aa L.length ca, .slice ao L.length co] 37)).alloc (.cells #[.slice none 0 0, .slice none 0 0] 37))) := ((Below.refl _ w).alloc (Nat.le_refl _) _).alloc (by simp) _
  have HAR : Hid (IsAr ((w.alloc (.cells #[.slice aa L.length ca, .slice ao L.length co] 37)).alloc (.cells #[.slice none 0 0, .slice none 0 0] 37)) B (.agg #[.slice aa L.length ca, .slice ao L.length co]) L) := IsAr.later ⟨_, _, rfl, h1, h2⟩ HBW.out
  have HIA : Hid (IsInts ((w.alloc (.cells #[.slice aa L.length ca, .slice ao L.length co] 37)).alloc (.cells #[.slice none 0 0, .slice none 0 0] 37)) (.slice aa L.length ca) (atsI L)) := (h1.later HBW.out).isInts
  clear h1 h2 hU
  go_enter Tryd.func17, Tryd.ntmps17
  go_wp2_with (go_at_call 33; fail)
  refine (rplace_any _ _ z _ HIA.out).mono ?_
  rintro e w' ⟨rfl, rfl⟩
  generalize (w.alloc (.cells #[.slice aa L.length ca, .slice ao L.length co] 37)).alloc (.cells #[.slice none 0 0, .slice none 0 0] 37) = w2 at *
  obtain ⟨hb0, hb1, _, _⟩ := box_cells HW2.out
  obtain ⟨hr0, hr1, hf0, hf1⟩ := box_cells HX2.out
  have hsz := HS2.out
  cases hlk : look L z with
  | none =>
    have HF : Hid (backF L z = (5, L)) := by unfold Hid backF; rw [hlk]
    rw [plc_look_none hlk]
    have HE := ar_end (g := w.heap.size + 1) (by omega) HX2.out (by decide) HAR.out HBW.out
    have HW4 := two_set (.slice aa L.length ca) (.slice ao L.length co) HX2.out
    have HE : Hid _ := HE
    have HW4 : Hid _ := HW4
    clear hlk
    go_wp2
    refine bodyPost_ret_by (results_cell1_row Tryd.results17 _ _ (w.heap.size + 1) 37 #[.slice aa L.length ca, .slice ao L.length co] (0, 0) _ rfl HW4.out Tryd.underlying37 rfl (by kernel_rfl)) rfl ?_
    rw [HF.out]
    exact ⟨_, rfl, HE.out⟩
  | some o =>
    have HF : Hid (backF L z = (0, delP z.toNat L)) := by unfold Hid backF; rw [hlk]
    obtain ⟨i, hi, hpl, hLi⟩ := plc_look_some hlk
    rw [hpl]
    have hge : ¬ (i : Int) < 0 := by omega
    clear hlk hpl
    have HIN : Hid (∀ W, W = w2 → Calls Tryd.prog 34 #[.agg #[.slice aa L.length ca, .slice ao L.length co], .int .i64 (i : Nat)] W fun e w' => ∃ a1 c1 a2 c2, e = .returned (.agg #[.slice a1 (delP z.toNat L).length c1, .slice a2 (delP z.toNat L).length c2]) ∧ Hid (IsAr w' w2.heap.size (.agg #[.slice a1 (delP z.toNat L).length c1, .slice a2 (delP z.toNat L).length c2]) (delP z.toNat L)) ∧ Hid (Below w2.heap.size w2 w')) := by
      rintro W rfl
      refine (rwithout_any L HU.out hL64 _ B i hi _ HAR.out).mono ?_
      rw [hLi]
      rintro e w' ⟨u, rfl, hu, hb⟩
      obtain ⟨v1, v2, rfl, k1, k2⟩ := hu
      obtain ⟨a1, c1, hv1⟩ := k1.form
      obtain ⟨a2, c2, hv2⟩ := k2.form
      rw [atsI_length] at hv1
      rw [ordsI_length] at hv2
      subst hv1 hv2
      exact ⟨a1, c1, a2, c2, rfl, ⟨_, _, rfl, k1, k2⟩, hb⟩
    clear hLi
    go_wp2_with (go_at_call 34; fail)
    refine (HIN.out _ rfl).mono ?_
    rintro e w5 ⟨a1, c1, a2, c2, rfl, HR, HBW5⟩
    have HX5 : Hid (w5.heap[w.heap.size + 1]? = some (.cells #[.slice none 0 0, .slice none 0 0] 37 (0, 0))) := (HBW5.out.block _ (by omega)).trans HX2.out
    clear hr0 hr1 hf0 hf1
    obtain ⟨hr0, hr1, hf0, hf1⟩ := box_cells HX5.out
    have HE := ar_end (w := w) (g := w.heap.size + 1) (by omega) HX5.out (by decide) HR.out (HBW.out.trans (HBW5.out.mono (by omega)))
    have HW4 := two_set (.slice a1 (delP z.toNat L).length c1) (.slice a2 (delP z.toNat L).length c2) HX5.out
    have HE : Hid _ := HE
    have HW4 : Hid _ := HW4
    go_wp2
    refine bodyPost_ret_by (results_cell1_row Tryd.results17 _ _ (w.heap.size + 1) 37 #[.slice a1 (delP z.toNat L).length c1, .slice a2 (delP z.toNat L).length c2] (0, 0) _ rfl HW4.out Tryd.underlying37 rfl (by kernel_rfl)) rfl ?_
    rw [HF.out]
    exact ⟨_, rfl, HE.out.1.mono (by omega), HE.out.2⟩
theorem rback_any (L : List (Nat × Nat)) (hU : Up L) (hO : Okay L) (v : Value) (B : Nat) (z : Int) (w : World) (hB : B ≤ w.heap.size) (hv : IsAr w B v L) :
    Calls Tryd.prog 17 #[v, .int .i64 z] w fun e w' => ∃ u, e = .returned (.tuple #[u, .int .i64 ((backF L z).1 : Nat)]) ∧ IsAr w' B u (backF L z).2 ∧ Below w.heap.size w w' := rback_le L hU (lent_most hU hO) v B z w hB hv
end Go.Proofs.YtjcikoaoemingaaDoor
