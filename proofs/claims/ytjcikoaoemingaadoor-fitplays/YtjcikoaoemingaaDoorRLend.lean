/- The walk of the document's LendFit (larderwickref2). -/
import Derived.Test.YtjcikoaoemingaaDoorRArE
import Derived.Test.YtjcikoaoemingaaDoorRFits
import Derived.Test.YtjcikoaoemingaaDoorFitN
namespace Go.Proofs.YtjcikoaoemingaaDoor
open Go.RowKit Go.Maps Go.Sort

theorem insP_putF (q n : Nat) : ∀ L : List (Nat × Nat), insP q n L = putF q n L
  | [] => rfl
  | b :: r => by
    unfold insP putF
    by_cases h : b.1 < q
    · rw [if_pos h, if_pos h, insP_putF q n r]
    · rw [if_neg h, if_neg h]

set_option maxRecDepth 100000 in
set_option maxHeartbeats 4000000 in
theorem rlendG_any (L : List (Nat × Nat)) (hL : LaidF 0 L) (v : Value) (B : Nat) (z : Int) (w : World) (hB : B ≤ w.heap.size) (hv : IsAr w B v L) :
    Calls Tryd.prog 13 #[v, .int .i64 z] w fun e w' => ∃ u, e = .returned (.tuple #[u, .int .i64 ((lendG L z).1 : Nat), .int .i64 ((lendG L z).2.1 : Nat)]) ∧ IsAr w' B u (lendG L z).2.2 ∧ Below w.heap.size w w' := by
  obtain ⟨va, vo, rfl, h1, h2⟩ := hv
  obtain ⟨aa, ca, hva⟩ := h1.form
  obtain ⟨ao, co, hvo⟩ := h2.form
  rw [atsI_length] at hva
  rw [ordsI_length] at hvo
  subst hva hvo
  have hL64 : L.length ≤ 64 := by have := laid_len hL; omega
  have HL : Hid (LaidF 0 L) := hL
  have HAR : Hid (IsAr w B (.agg #[.slice aa L.length ca, .slice ao L.length co]) L) := ⟨_, _, rfl, h1, h2⟩
  clear h1 h2 hL
  go_enter Tryd.func13, Tryd.ntmps13
  by_cases hk : z < 1 ∨ 64 < z
  · have HF : Hid (lendG L z = (0, 1, L)) := by unfold Hid lendG; rw [if_pos hk]
    by_cases hk0 : z < 1
    · go_wp2
      refine bodyPost_ret_by (results_cell2_row Tryd.results13 _ _ (w.heap.size + 1) 37 #[.slice aa L.length ca, .slice ao L.length co] (0, 0) _ rfl (heap_alloc2_new w _ _) Tryd.underlying37 rfl (by kernel_rfl)) rfl ?_
      rw [HF.out]
      exact ⟨_, rfl, HAR.out.later (((Below.refl _ w).alloc (Nat.le_refl _) _).alloc (by simp) _), ((Below.refl _ w).alloc (Nat.le_refl _) _).alloc (by simp) _⟩
    · have hk6 : 64 < z := by omega
      go_wp2
      refine bodyPost_ret_by (results_cell2_row Tryd.results13 _ _ (w.heap.size + 1) 37 #[.slice aa L.length ca, .slice ao L.length co] (0, 0) _ rfl (heap_alloc2_new w _ _) Tryd.underlying37 rfl (by kernel_rfl)) rfl ?_
      rw [HF.out]
      exact ⟨_, rfl, HAR.out.later (((Below.refl _ w).alloc (Nat.le_refl _) _).alloc (by simp) _), ((Below.refl _ w).alloc (Nat.le_refl _) _).alloc (by simp) _⟩
  · obtain ⟨n, rfl⟩ : ∃ n : Nat, z = n := ⟨z.toNat, by omega⟩
    have hn1 : 1 ≤ n := by omega
    have hn64 : n ≤ 64 := by omega
    have HF : Hid (lendG L (n : Nat) = match roomF 0 L n with | none => (0, 4, L) | some q => (q, 0, putF q n L)) := by unfold Hid lendG; rw [if_neg hk]; rfl
    have hz1 : ¬ (n : Int) < 1 := by omega
    have hz2 : ¬ (64 : Int) < (n : Int) := by omega
    clear hk
    have HW2 : Hid (((w.alloc (.cells #[.slice aa L.length ca, .slice ao L.length co] 37)).alloc (.cells #[.slice none 0 0, .slice none 0 0] 37)).heap[w.heap.size]? = some (.cells #[.slice aa L.length ca, .slice ao L.length co] 37 (0, 0))) := (Below.heap_alloc _ _ _ (by simp)).trans (heap_alloc_new w _)
    have HX2 : Hid (((w.alloc (.cells #[.slice aa L.length ca, .slice ao L.length co] 37)).alloc (.cells #[.slice none 0 0, .slice none 0 0] 37)).heap[w.heap.size + 1]? = some (.cells #[.slice none 0 0, .slice none 0 0] 37 (0, 0))) := heap_alloc2_new w _ _
    have HS2 : Hid (((w.alloc (.cells #[.slice aa L.length ca, .slice ao L.length co] 37)).alloc (.cells #[.slice none 0 0, .slice none 0 0] 37)).heap.size = w.heap.size + 1 + 1) := by unfold Hid; simp
    have HBW : Hid (Below w.heap.size w ((w.alloc (.cells #[.slice aa L.length ca, .slice ao L.length co] 37)).alloc (.cells #[.slice none 0 0, .slice none 0 0] 37))) := ((Below.refl _ w).alloc (Nat.le_refl _) _).alloc (by simp) _
    have HA2 : Hid (IsAr ((w.alloc (.cells #[.slice aa L.length ca, .slice ao L.length co] 37)).alloc (.cells #[.slice none 0 0, .slice none 0 0] 37)) B (.agg #[.slice aa L.length ca, .slice ao L.length co]) L) := HAR.out.later HBW.out
    clear HAR
    go_wp2
    generalize (w.alloc (.cells #[.slice aa L.length ca, .slice ao L.length co] 37)).alloc (.cells #[.slice none 0 0, .slice none 0 0] 37) = w2 at *
    go_loopw [7] (fun v7 wr => ∃ j : Nat, j ≤ 64 ∧ v7 = .int .i64 (j : Nat) ∧ Hid (∀ x, x < j → ¬ Fits L x n) ∧ Hid (Below w2.heap.size w2 wr)) (fun v7 _ => 64 - (RowKit.intOf v7).toNat)
    case atStart => exact ⟨0, by omega, rfl, fun x hx => absurd hx (Nat.not_lt_zero _), Below.refl _ _⟩
    case round =>
      obtain ⟨j, hj, rfl, HN, HB3⟩ := hrel
      have hsz := HS2.out
      have HW3 : Hid (wr.heap[w.heap.size]? = some (.cells #[.slice aa L.length ca, .slice ao L.length co] 37 (0, 0))) := (HB3.out.block _ (by omega)).trans HW2.out
      have HX3 : Hid (wr.heap[w.heap.size + 1]? = some (.cells #[.slice none 0 0, .slice none 0 0] 37 (0, 0))) := (HB3.out.block _ (by omega)).trans HX2.out
      have HA3 : Hid (IsAr wr B (.agg #[.slice aa L.length ca, .slice ao L.length co]) L) := HA2.out.later HB3.out
      obtain ⟨hb0, hb1, _, _⟩ := box_cells HW3.out
      obtain ⟨hr0, hr1, hf0, hf1⟩ := box_cells HX3.out
      have hb2w : Below w.heap.size w wr := HBW.out.trans (HB3.out.mono HBW.out.size)
      by_cases hj64 : j < 64
      · have hlt : (j : Int) < 64 := by omega
        go_wp2_with (go_at_call 31; fail)
        refine (rfits_any L HL.out _ B j n (by omega) hn64 _ HA3.out).mono ?_
        rintro e w4 ⟨rfl, hb⟩
        have HB4 : Hid (Below w2.heap.size w2 w4) := HB3.out.trans (hb.mono HB3.out.size)
        cases hfit : fitsB L j n with
        | false =>
          have HN2 : Hid (∀ x, x < j + 1 → ¬ Fits L x n) := fun x hx hf => by
            by_cases e : x = j
            · subst e
              have := fitsB_iff.2 hf
              rw [hfit] at this; cases this
            · exact HN.out x (by omega) hf
          clear hfit hb hb0 hb1 hr0 hr1 hf0 hf1 HB3 HW3 HX3 HA3 hb2w HN
          go_wp2
          go_roundw
          case rel => exact ⟨j + 1, by omega, by go_num, HN2, HB4⟩
          case measure => simp [RowKit.intOf]; omega
        | true =>
          have hfj := fitsB_iff.1 hfit
          have HFF : Hid (lendG L (n : Nat) = (j, 0, insP j n L)) := by
            unfold Hid
            rw [HF.out, insP_putF]
            cases hr : roomF 0 L n with
            | none => exact absurd hfj (roomF_none hn1 HL.out hr j (Nat.zero_le _))
            | some q =>
              obtain ⟨_, h1, h2⟩ := roomF_some hn1 HL.out hr
              have : q = j := by
                rcases Nat.lt_trichotomy q j with h | h | h
                · exact absurd h1 (HN.out q h)
                · exact h
                · exact absurd hfj (h2 j (Nat.zero_le _) h)
              rw [this]
          have hB4 : Below w.heap.size w w4 := HBW.out.trans (HB4.out.mono HBW.out.size)
          have HIN : Hid (Calls Tryd.prog 32 #[.agg #[.slice aa L.length ca, .slice ao L.length co], .int .i64 (j : Nat), .int .i64 (n : Nat)] w4 fun e w' => ∃ a1 c1 a2 c2, e = .returned (.agg #[.slice a1 (insP j n L).length c1, .slice a2 (insP j n L).length c2]) ∧ Hid (IsAr w' w4.heap.size (.agg #[.slice a1 (insP j n L).length c1, .slice a2 (insP j n L).length c2]) (insP j n L)) ∧ Hid (Below w4.heap.size w4 w')) := by
            refine (rwith_any L hL64 _ B j n w4 (HA2.out.later HB4.out)).mono ?_
            rintro e w' ⟨u, rfl, hu, hb⟩
            obtain ⟨v1, v2, rfl, k1, k2⟩ := hu
            obtain ⟨a1, c1, hv1⟩ := k1.form
            obtain ⟨a2, c2, hv2⟩ := k2.form
            rw [atsI_length] at hv1
            rw [ordsI_length] at hv2
            subst hv1 hv2
            exact ⟨a1, c1, a2, c2, rfl, ⟨_, _, rfl, k1, k2⟩, hb⟩
          have HX4 : Hid (w4.heap[w.heap.size + 1]? = some (.cells #[.slice none 0 0, .slice none 0 0] 37 (0, 0))) := (HB4.out.block _ (by have := HS2.out; omega)).trans HX2.out
          have hw4 : w.heap.size + 1 < w4.heap.size := by have := HB4.out.size; have := HS2.out; omega
          clear hfit hfj hb HB3 HW3 HX3 HA3 hb2w hb0 hb1 hr0 hr1 hf0 hf1 HN
          obtain ⟨hb0', hb1', _, _⟩ := box_cells ((HB4.out.block w.heap.size (by have := HS2.out; omega)).trans HW2.out)
          go_wp2_with (go_at_call 32; fail)
          refine Calls.mono HIN.out ?_
          rintro e W5 ⟨a1, c1, a2, c2, rfl, HR, HBW5⟩
          have HX5 : Hid (W5.heap[w.heap.size + 1]? = some (.cells #[.slice none 0 0, .slice none 0 0] 37 (0, 0))) := (HBW5.out.block _ hw4).trans HX4.out
          obtain ⟨hr0, hr1, hf0, hf1⟩ := box_cells HX5.out
          have HE := ar_end (w := w) (g := w.heap.size + 1) (by omega) HX5.out (by decide) HR.out (hB4.trans (HBW5.out.mono (by omega)))
          have HW4 := two_set (.slice a1 (insP j n L).length c1) (.slice a2 (insP j n L).length c2) HX5.out
          have HE : Hid _ := HE
          have HW4 : Hid _ := HW4
          go_wp2
          refine bodyPost_ret_by (results_cell2_row Tryd.results13 _ _ (w.heap.size + 1) 37 #[.slice a1 (insP j n L).length c1, .slice a2 (insP j n L).length c2] (0, 0) _ rfl HW4.out Tryd.underlying37 rfl (by kernel_rfl)) rfl ?_
          rw [HFF.out]
          exact ⟨_, rfl, HE.out.1.mono (by omega), HE.out.2⟩
      · have hlt : ¬ (j : Int) < 64 := by omega
        have HFF : Hid (lendG L (n : Nat) = (0, 4, L)) := by
          unfold Hid
          rw [HF.out]
          cases hr : roomF 0 L n with
          | none => rfl
          | some q =>
            obtain ⟨_, h1, _⟩ := roomF_some hn1 HL.out hr
            exact absurd h1 (HN.out q (by have := h1.1; omega))
        have HE := ar_end (g := w.heap.size + 1) (by omega) HX3.out (by decide) HA3.out hb2w
        have HW4 := two_set (.slice aa L.length ca) (.slice ao L.length co) HX3.out
        have HE : Hid _ := HE
        have HW4 : Hid _ := HW4
        clear HN
        go_wp2
        refine bodyPost_ret_by (results_cell2_row Tryd.results13 _ _ (w.heap.size + 1) 37 #[.slice aa L.length ca, .slice ao L.length co] (0, 0) _ rfl HW4.out Tryd.underlying37 rfl (by kernel_rfl)) rfl ?_
        rw [HFF.out]
        exact ⟨_, rfl, HE.out⟩
end Go.Proofs.YtjcikoaoemingaaDoor
