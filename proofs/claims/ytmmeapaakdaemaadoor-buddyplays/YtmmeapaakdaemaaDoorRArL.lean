/- The walks of the document's Lend and Back (larderwickref2). -/
import Derived.Test.YtmmeapaakdaemaaDoorRArO
import Derived.Test.YtmmeapaakdaemaaDoorRArF
import Derived.Test.YtmmeapaakdaemaaDoorRPlace
import Derived.Test.YtmmeapaakdaemaaDoorBuddyS
namespace Go.Proofs.YtmmeapaakdaemaaDoor
open Go.RowKit Go.Maps Go.Sort

theorem results_cell2_row {P : Program} {fn : Func} {p u v : Tmp} {ty : TypeId} (h : fn.results = #[.cell p ty, .tmp u, .tmp v]) (tmps : Array Value) (w : World) (g : Nat) (t : TypeId) (cs : Array Value) (fr : Nat × Nat) (d : TypeDesc)
    (hp : tmps.getD p undef = .pointer (some ⟨g, 0, none⟩)) (hg : w.heap[g]? = some (.cells cs t fr))
    (hu : P.underlying ty = some d) (hd : (match d with | .struct _ | .array _ _ => true | _ => false) = true) (hi : (P.info? ty).map (·.size) = some cs.size) :
    (results fn tmps).run P w = .ok (.tuple #[.agg cs, tmps.getD u undef, tmps.getD v undef]) w := by
  have hp' : tmps[p]?.getD undef = .pointer (some ⟨g, 0, none⟩) := by simpa using hp
  simp [results, h, hp', asAddr, run_loadVar_row w g t ty cs fr d hg hu hd hi]
theorem results_cell1_row {P : Program} {fn : Func} {p u : Tmp} {ty : TypeId} (h : fn.results = #[.cell p ty, .tmp u]) (tmps : Array Value) (w : World) (g : Nat) (t : TypeId) (cs : Array Value) (fr : Nat × Nat) (d : TypeDesc)
    (hp : tmps.getD p undef = .pointer (some ⟨g, 0, none⟩)) (hg : w.heap[g]? = some (.cells cs t fr))
    (hu : P.underlying ty = some d) (hd : (match d with | .struct _ | .array _ _ => true | _ => false) = true) (hi : (P.info? ty).map (·.size) = some cs.size) :
    (results fn tmps).run P w = .ok (.tuple #[.agg cs, tmps.getD u undef]) w := by
  have hp' : tmps[p]?.getD undef = .pointer (some ⟨g, 0, none⟩) := by simpa using hp
  simp [results, h, hp', asAddr, run_loadVar_row w g t ty cs fr d hg hu hd hi]
theorem freeI_len {L : List (Nat × Nat)} {k : Nat} (hk : k < 7) : (freeI L (k : Nat)).length = (freeL L k).length := by
  unfold freeI
  rw [if_neg (by omega), List.length_map]; rfl
theorem freeI_fst {L : List (Nat × Nat)} {k p : Nat} {r : List Nat} (hk : k < 7) (h : freeL L k = p :: r) : (freeI L ((k : Nat) : Int))[0]?.getD 0 = ((p : Nat) : Int) := by
  unfold freeI
  rw [if_neg (by omega), show ((k : Nat) : Int).toNat = k from rfl, h]
  simp
/-- An answer of the document's, written into its block. -/
theorem ar_end {w W : World} {B g : Nat} {L : List (Nat × Nat)} {v1 v2 : Value} (hg : w.heap.size ≤ g) {cur : Array Value} {t : TypeId} (hc : W.heap[g]? = some (.cells cur t (0, 0))) (ht : t ≠ 3) (h : IsAr W B (.agg #[v1, v2]) L) (hb : Below w.heap.size w W) :
    IsAr ((W.setCell ⟨g, 0, none⟩ v1).setCell ⟨g, 1, none⟩ v2) B (.agg #[v1, v2]) L ∧ Below w.heap.size w ((W.setCell ⟨g, 0, none⟩ v1).setCell ⟨g, 1, none⟩ v2) := by
  obtain ⟨va, vo, e, h1, h2⟩ := h
  simp only [Value.agg.injEq, Array.mk.injEq, List.cons.injEq, and_true] at e
  obtain ⟨rfl, rfl⟩ := e
  have key : ∀ {v : Value} {l : List Int}, OwnI W B v l → OwnI ((W.setCell ⟨g, 0, none⟩ v1).setCell ⟨g, 1, none⟩ v2) B v l := by
    intro v l hv
    have ht2 : Turn g g W ((W.setCell ⟨g, 0, none⟩ v1).setCell ⟨g, 1, none⟩ v2) := (Turn.setCell W ⟨g, 0, none⟩ v1 rfl).trans (Turn.setCell _ ⟨g, 1, none⟩ v2 rfl)
    refine own_turn hv ht2 fun k hk => ?_
    have := own_ne hv hc ht
    have hne : k ≠ g := fun e => this (by rw [← e, hk])
    exact ⟨hne, hne⟩
  exact ⟨⟨v1, v2, rfl, key h1, key h2⟩, (hb.setCell hg _).setCell hg _⟩

set_option maxRecDepth 100000 in
set_option maxHeartbeats 4000000 in
theorem rlend_any (L : List (Nat × Nat)) (hU : Up L) (hO : Okay L) (v : Value) (B : Nat) (k : Int) (w : World) (hB : B ≤ w.heap.size) (hv : IsAr w B v L) :
    Calls Tryd.prog 18 #[v, .int .i64 k] w fun e w' => ∃ u, e = .returned (.tuple #[u, .int .i64 ((lendF L k).1 : Nat), .int .i64 ((lendF L k).2.1 : Nat)]) ∧ IsAr w' B u (lendF L k).2.2 ∧ Below w.heap.size w w' := by
  obtain ⟨va, vo, rfl, h1, h2⟩ := hv
  obtain ⟨aa, ca, hva⟩ := h1.form
  obtain ⟨ao, co, hvo⟩ := h2.form
  rw [atsI_length] at hva
  rw [ordsI_length] at hvo
  subst hva hvo
  have hL64 := lent_most hU hO
  have HUO : Hid (Up L ∧ Okay L) := ⟨hU, hO⟩
  have HAR : Hid (IsAr w B (.agg #[.slice aa L.length ca, .slice ao L.length co]) L) := ⟨_, _, rfl, h1, h2⟩
  clear h1 h2 hU hO
  go_enter Tryd.func18, Tryd.ntmps18
  by_cases hk : k < 0 ∨ 6 < k
  · have HF : Hid (lendF L k = (0, 1, L)) := by unfold Hid lendF; rw [if_pos hk]
    by_cases hk0 : k < 0
    · go_wp2
      refine bodyPost_ret_by (results_cell2_row Tryd.results18 _ _ (w.heap.size + 1) 44 #[.slice aa L.length ca, .slice ao L.length co] (0, 0) _ rfl (heap_alloc2_new w _ _) Tryd.underlying44 rfl (by kernel_rfl)) rfl ?_
      rw [HF.out]
      exact ⟨_, rfl, HAR.out.later (((Below.refl _ w).alloc (Nat.le_refl _) _).alloc (by simp) _), ((Below.refl _ w).alloc (Nat.le_refl _) _).alloc (by simp) _⟩
    · have hk6 : 6 < k := by omega
      go_wp2
      refine bodyPost_ret_by (results_cell2_row Tryd.results18 _ _ (w.heap.size + 1) 44 #[.slice aa L.length ca, .slice ao L.length co] (0, 0) _ rfl (heap_alloc2_new w _ _) Tryd.underlying44 rfl (by kernel_rfl)) rfl ?_
      rw [HF.out]
      exact ⟨_, rfl, HAR.out.later (((Below.refl _ w).alloc (Nat.le_refl _) _).alloc (by simp) _), ((Below.refl _ w).alloc (Nat.le_refl _) _).alloc (by simp) _⟩
  · obtain ⟨o, rfl⟩ : ∃ o : Nat, k = o := ⟨k.toNat, by omega⟩
    have ho : o ≤ 6 := by omega
    have HF : Hid (lendF L (o : Nat) = match room L o with | none => (0, 4, L) | some (p, _) => (p, 0, insP p o L)) := by unfold Hid lendF; rw [if_neg hk]; rfl
    have ho0 : ¬ (o : Int) < 0 := by omega
    have ho6 : ¬ (6 : Int) < (o : Int) := by omega
    clear hk
    have HW2 : Hid (((w.alloc (.cells #[.slice aa L.length ca, .slice ao L.length co] 44)).alloc (.cells #[.slice none 0 0, .slice none 0 0] 44)).heap[w.heap.size]? = some (.cells #[.slice aa L.length ca, .slice ao L.length co] 44 (0, 0))) := (Below.heap_alloc _ _ _ (by simp)).trans (heap_alloc_new w _)
    have HX2 : Hid (((w.alloc (.cells #[.slice aa L.length ca, .slice ao L.length co] 44)).alloc (.cells #[.slice none 0 0, .slice none 0 0] 44)).heap[w.heap.size + 1]? = some (.cells #[.slice none 0 0, .slice none 0 0] 44 (0, 0))) := heap_alloc2_new w _ _
    have HS2 : Hid (((w.alloc (.cells #[.slice aa L.length ca, .slice ao L.length co] 44)).alloc (.cells #[.slice none 0 0, .slice none 0 0] 44)).heap.size = w.heap.size + 1 + 1) := by unfold Hid; simp
    have HBW : Hid (Below w.heap.size w ((w.alloc (.cells #[.slice aa L.length ca, .slice ao L.length co] 44)).alloc (.cells #[.slice none 0 0, .slice none 0 0] 44))) := ((Below.refl _ w).alloc (Nat.le_refl _) _).alloc (by simp) _
    have HA2 : Hid (IsAr ((w.alloc (.cells #[.slice aa L.length ca, .slice ao L.length co] 44)).alloc (.cells #[.slice none 0 0, .slice none 0 0] 44)) B (.agg #[.slice aa L.length ca, .slice ao L.length co]) L) := HAR.out.later HBW.out
    clear HAR
    go_wp2
    generalize (w.alloc (.cells #[.slice aa L.length ca, .slice ao L.length co] 44)).alloc (.cells #[.slice none 0 0, .slice none 0 0] 44) = w2 at *
    go_loopw [7, 8] (fun v7 _ wr => ∃ j : Nat, o ≤ j ∧ j ≤ 7 ∧ v7 = .int .i64 (j : Nat) ∧ roomAt L (7 - j) j = room L o ∧ Hid (Below w2.heap.size w2 wr)) (fun v7 _ _ => 7 - (RowKit.intOf v7).toNat)
    case atStart => exact ⟨o, Nat.le_refl _, by omega, rfl, rfl, Below.refl _ _⟩
    case round =>
      obtain ⟨j, hj1, hj2, rfl, hr, HB3⟩ := hrel
      have hsz := HS2.out
      have HW3 : Hid (wr.heap[w.heap.size]? = some (.cells #[.slice aa L.length ca, .slice ao L.length co] 44 (0, 0))) := (HB3.out.block _ (by omega)).trans HW2.out
      have HX3 : Hid (wr.heap[w.heap.size + 1]? = some (.cells #[.slice none 0 0, .slice none 0 0] 44 (0, 0))) := (HB3.out.block _ (by omega)).trans HX2.out
      have HA3 : Hid (IsAr wr B (.agg #[.slice aa L.length ca, .slice ao L.length co]) L) := HA2.out.later HB3.out
      obtain ⟨hb0, hb1, _, _⟩ := box_cells HW3.out
      obtain ⟨hr0, hr1, hf0, hf1⟩ := box_cells HX3.out
      have hb2w : Below w.heap.size w wr := HBW.out.trans (HB3.out.mono HBW.out.size)
      by_cases hj7 : j = 7
      · have HR : Hid (room L o = none) := by rw [← hr, hj7]; rfl
        have hj6 : ¬ (j : Int) ≤ 6 := by omega
        have HE := ar_end (g := w.heap.size + 1) (by omega) HX3.out (by decide) HA3.out hb2w
        have HW4 := two_set (.slice aa L.length ca) (.slice ao L.length co) HX3.out
        have HE : Hid _ := HE
        have HW4 : Hid _ := HW4
        clear hr hj7
        go_wp2
        refine bodyPost_ret_by (results_cell2_row Tryd.results18 _ _ (w.heap.size + 1) 44 #[.slice aa L.length ca, .slice ao L.length co] (0, 0) _ rfl HW4.out Tryd.underlying44 rfl (by kernel_rfl)) rfl ?_
        rw [HF.out, HR.out]
        exact ⟨_, rfl, HE.out⟩
      · have hj6 : (j : Int) ≤ 6 := by omega
        go_wp2_with (go_at_call 20; fail)
        refine (rfreeL_any L HUO.out.2 _ B (j : Nat) _ HA3.out).mono ?_
        rintro e w4 ⟨u, rfl, hu, hb⟩
        obtain ⟨au, cu, hvu⟩ := hu.form
        rw [freeI_len (show j < 7 by omega)] at hvu
        subst hvu
        have HB4 : Hid (Below w2.heap.size w2 w4) := HB3.out.trans (hb.mono HB3.out.size)
        cases hfl : freeL L j with
        | nil =>
          have HN : Hid (roomAt L (7 - (j+1)) (j+1) = room L o) := by
            unfold Hid
            rw [← hr, show 7 - j = (7 - (j+1)) + 1 by omega]
            exact (roomAt_skip (by omega) fun q hq => by have := (mem_freeL (by omega)).2 hq; rw [hfl] at this; cases this).symm
          rw [List.length_nil]
          clear hr hfl hu hb hb0 hb1 hr0 hr1 hf0 hf1 HB3 HW3 HX3 HA3 hb2w
          go_wp2
          go_roundw
          case rel => exact ⟨j + 1, by omega, by omega, by go_num, HN.out, HB4⟩
          case measure => simp [RowKit.intOf]; omega
        | cons p r =>
          have HN : Hid (room L o = some (p, j)) := by
            unfold Hid
            rw [← hr, show 7 - j = (6 - j) + 1 by omega]
            unfold roomAt
            rw [hfl]
          obtain ⟨gl, rfl, hgl, _, _, hcl⟩ := own_at hu (freeI_len (show j < 7 by omega)) (show 0 < (freeL L j).length by rw [hfl]; simp)
          rw [freeI_fst (by omega) hfl] at hcl
          have hml : r.length + 1 ≤ 64 := by have := freeL_most L j; rw [hfl] at this; simpa using this
          rw [List.length_cons]
          generalize r.length = nr at *
          have hlp : (0 : Int) < ((nr + 1 : Nat) : Int) := by omega
          have hB4 : Below w.heap.size w w4 := HBW.out.trans (HB4.out.mono HBW.out.size)
          have HGL : Hid (gl ≠ w.heap.size + 1) := by
            have := (World.ownsRow.lt hu gl rfl).1
            have := HB3.out.size
            have := HS2.out
            unfold Hid
            omega
          have HDD : Hid (Below w2.heap.size w2 w4.drew) := HB4.out.drew
          have HKC : Hid (∀ W, Hid (Below w4.heap.size w4 W) → W.cell? ⟨gl, 0, none⟩ = some (.int .i64 ((p : Nat) : Int))) := fun W hW => (hW.out.cell (p := ⟨gl, 0, none⟩) hgl).trans hcl
          have HIN : Hid (∀ W, Hid (Below w4.heap.size w4 W) → Calls Tryd.prog 30 #[.agg #[.slice aa L.length ca, .slice ao L.length co], .int .i64 (p : Nat), .int .i64 (o : Nat)] W fun e w' => ∃ a1 c1 a2 c2, e = .returned (.agg #[.slice a1 (insP p o L).length c1, .slice a2 (insP p o L).length c2]) ∧ Hid (IsAr w' w4.heap.size (.agg #[.slice a1 (insP p o L).length c1, .slice a2 (insP p o L).length c2]) (insP p o L)) ∧ Hid (Below w4.heap.size w4 w')) := fun W hW => by
            refine (rwith_any L hL64 _ B p o W ((HA2.out.later HB4.out).later hW.out)).mono ?_
            rintro e w' ⟨u, rfl, hu, hb⟩
            obtain ⟨v1, v2, rfl, k1, k2⟩ := hu
            obtain ⟨a1, c1, hv1⟩ := k1.form
            obtain ⟨a2, c2, hv2⟩ := k2.form
            rw [atsI_length] at hv1
            rw [ordsI_length] at hv2
            subst hv1 hv2
            exact ⟨a1, c1, a2, c2, rfl, IsAr.mono ⟨_, _, rfl, k1, k2⟩ hW.out.size, hW.out.trans (hb.mono hW.out.size)⟩
          have hdr : Hid (Below w4.heap.size w4 w4.drew) := (Below.refl _ _).drew
          have HX4 : Hid (w4.heap[w.heap.size + 1]? = some (.cells #[.slice none 0 0, .slice none 0 0] 44 (0, 0))) := (HB4.out.block _ (by have := HS2.out; omega)).trans HX2.out
          have hw4 : w.heap.size + 1 < w4.heap.size := by have := HB4.out.size; have := HS2.out; omega
          obtain ⟨hb0', hb1', _, _⟩ := box_cells ((HB4.out.block w.heap.size (by have := HS2.out; omega)).trans HW2.out)
          have hne := HGL.out
          clear hr hfl hu hb HB3 HW3 HX3 HA3 hb2w hb0 hb1 hr0 hr1 hf0 hf1
          go_wp2
          go_region_law (refine step_call rfl 30 _ _ rfl #[.agg #[.slice aa L.length ca, .slice ao L.length co], .int .i64 (p : Nat), .int .i64 (o : Nat)] (by simp [Act.eval]) (enters_of Tryd.func30 (by kernel_rfl) rfl _) (HIN.out _ hdr) ?_; rintro e W5 ⟨a1, c1, a2, c2, rfl, HR, HBW⟩; refine ⟨_, rfl, ?_⟩; have hcl5 := HKC.out W5 HBW; have HX5 : Hid (W5.heap[w.heap.size + 1]? = some (.cells #[.slice none 0 0, .slice none 0 0] 44 (0, 0))) := (HBW.out.block _ hw4).trans HX4.out; obtain ⟨hr0, hr1, hf0, hf1⟩ := box_cells HX5.out)
          all_goals
            have HE := ar_end (w := w) (g := w.heap.size + 1) (by omega) HX5.out (by decide) HR.out (hB4.trans (HBW.out.mono (by omega)))
            have HW4 := two_set (.slice a1 (insP p o L).length c1) (.slice a2 (insP p o L).length c2) HX5.out
            have HE : Hid _ := HE
            have HW4 : Hid _ := HW4
            go_wp2
            refine bodyPost_ret_by (results_cell2_row Tryd.results18 _ _ (w.heap.size + 1) 44 #[.slice a1 (insP p o L).length c1, .slice a2 (insP p o L).length c2] (0, 0) _ rfl HW4.out Tryd.underlying44 rfl (by kernel_rfl)) rfl ?_
            rw [HF.out, HN.out]
            exact ⟨_, rfl, HE.out.1.mono (by omega), HE.out.2⟩
end Go.Proofs.YtmmeapaakdaemaaDoor
