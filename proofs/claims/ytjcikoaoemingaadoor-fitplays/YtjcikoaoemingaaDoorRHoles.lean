/- The walk of the document's Holes (larderwickref2): where places are free, and how many. -/
import Derived.Test.YtjcikoaoemingaaDoorRArE
import Derived.Test.YtjcikoaoemingaaDoorRFits
import Derived.Test.YtjcikoaoemingaaDoorFitB
namespace Go.Proofs.YtjcikoaoemingaaDoor
open Go.RowKit Go.Maps Go.Sort

theorem look_len (f : Nat → Bool) : ∀ p, (lookF f p).1.length ≤ p ∧ (lookF f p).2 ≤ p ∧ ((lookF f p).2 ≠ 0 → 0 < (lookF f p).1.length)
  | 0 => ⟨Nat.le_refl _, Nat.le_refl _, fun h => absurd rfl h⟩
  | p + 1 => by
    obtain ⟨h1, h2, h3⟩ := look_len f p
    show (look1 f (lookF f p) p).1.length ≤ p + 1 ∧ (look1 f (lookF f p) p).2 ≤ p + 1 ∧ ((look1 f (lookF f p) p).2 ≠ 0 → 0 < (look1 f (lookF f p) p).1.length)
    generalize lookF f p = st at *
    obtain ⟨A, n⟩ := st
    simp only at *
    unfold look1
    split
    · split
      · simp only [List.length_append, List.length_cons, List.length_nil]; omega
      · rename_i hn
        have := h3 hn
        simp only [List.length_append, List.length_cons, List.length_nil, List.length_dropLast]; omega
    · exact ⟨by simp only; omega, Nat.zero_le _, fun h => absurd rfl h⟩
theorem look_shut {f : Nat → Bool} {p : Nat} (h : f p = false) : lookF f (p+1) = ((lookF f p).1, 0) := by
  show look1 f (lookF f p) p = _
  unfold look1
  rw [if_neg (by rw [h]; simp)]
theorem look_first {f : Nat → Bool} {p : Nat} (h : f p = true) (hn : (lookF f p).2 = 0) : lookF f (p+1) = ((lookF f p).1 ++ [(p, 1)], 1) := by
  show look1 f (lookF f p) p = _
  unfold look1
  rw [if_pos h, if_pos hn]
theorem look_more {f : Nat → Bool} {p : Nat} (h : f p = true) (hn : (lookF f p).2 ≠ 0) : lookF f (p+1) = ((lookF f p).1.dropLast ++ [(((lookF f p).1.getLast?.getD (0, 0)).1, (lookF f p).2 + 1)], (lookF f p).2 + 1) := by
  show look1 f (lookF f p) p = _
  unfold look1
  rw [if_pos h, if_neg hn]
theorem ats_last {A : List (Nat × Nat)} {n : Nat} (h : 0 < A.length) : atsI (A.dropLast ++ [((A.getLast?.getD (0, 0)).1, n)]) = atsI A := by
  obtain ⟨B, b, rfl⟩ : ∃ B b, A = B ++ [b] := ⟨A.dropLast, A.getLast (List.ne_nil_of_length_pos h), (List.dropLast_concat_getLast _).symm⟩
  rw [List.dropLast_concat, List.getLast?_concat]
  show atsI (B ++ [(b.1, n)]) = atsI (B ++ [b])
  unfold atsI
  rw [List.map_append, List.map_append]; rfl
theorem ords_last {A : List (Nat × Nat)} {n : Nat} {x : Nat} (h : 0 < A.length) : ordsI (A.dropLast ++ [(x, n)]) = (ordsI A).set (A.length - 1) (n : Int) := by
  obtain ⟨B, b, rfl⟩ : ∃ B b, A = B ++ [b] := ⟨A.dropLast, A.getLast (List.ne_nil_of_length_pos h), (List.dropLast_concat_getLast _).symm⟩
  have hl : (B ++ [b]).length - 1 = (ordsI B).length := by rw [ordsI_length]; simp
  rw [List.dropLast_concat, hl]
  unfold ordsI
  rw [List.map_append, List.map_append, List.map_cons, List.map_nil, List.set_append_right _ _ (Nat.le_refl _), Nat.sub_self]; rfl
theorem ords_one (A : List (Nat × Nat)) (p : Nat) : (ordsI A ++ [0]).set A.length (1 : Int) = ordsI (A ++ [(p, 1)]) := by
  rw [ordsI_add, ← ordsI_length A, List.set_append_right _ _ (Nat.le_refl _), Nat.sub_self]; rfl

set_option maxRecDepth 100000 in
set_option maxHeartbeats 4000000 in
theorem rholes_any (L : List (Nat × Nat)) (hL : LaidF 0 L) (v : Value) (B : Nat) (w : World) (hv : IsAr w B v L) :
    Calls Tryd.prog 20 #[v] w fun e w' => ∃ v1 v2, e = .returned (.tuple #[v1, v2]) ∧ OwnI w' w.heap.size v1 (atsI (holes 0 L)) ∧ OwnI w' w.heap.size v2 (ordsI (holes 0 L)) ∧ Below w.heap.size w w' := by
  obtain ⟨va, vo, rfl, h1, h2⟩ := hv
  obtain ⟨aa, ca, hva⟩ := h1.form
  obtain ⟨ao, co, hvo⟩ := h2.form
  rw [atsI_length] at hva
  rw [ordsI_length] at hvo
  subst hva hvo
  have HL : Hid (LaidF 0 L) := hL
  have HAL : Hid ((lookF (openAt L) 64).1 = holes 0 L) := look_all hL
  obtain ⟨i0, hi0, hz0, hz1, hz2⟩ := info_parts Tryd.info3
  have HI0 : Hid (Tryd.prog.info? 3 = some i0 ∧ i0.zero = some (.int .i64 0) ∧ i0.size = 1 ∧ i0.bytes = 8) := ⟨hi0, hz0, hz1, hz2⟩
  have HW1 : Hid ((w.alloc (.cells #[.slice aa L.length ca, .slice ao L.length co] 37)).heap[w.heap.size]? = some (.cells #[.slice aa L.length ca, .slice ao L.length co] 37 (0, 0))) := heap_alloc_new w _
  have HS1 : Hid ((w.alloc (.cells #[.slice aa L.length ca, .slice ao L.length co] 37)).heap.size = w.heap.size + 1) := by unfold Hid; simp
  have HBA : Hid (Below w.heap.size w (w.alloc (.cells #[.slice aa L.length ca, .slice ao L.length co] 37))) := (Below.refl _ w).alloc (Nat.le_refl _) _
  have HA1 : Hid (IsAr (w.alloc (.cells #[.slice aa L.length ca, .slice ao L.length co] 37)) B (.agg #[.slice aa L.length ca, .slice ao L.length co]) L) := IsAr.later ⟨_, _, rfl, h1, h2⟩ HBA.out
  clear h1 h2 hL hi0 hz0 hz1 hz2
  go_enter Tryd.func20, Tryd.ntmps20
  go_wp2
  generalize w.alloc (.cells #[.slice aa L.length ca, .slice ao L.length co] 37) = w1 at *
  have HT0 : Hid (Tri w1 w1 (.slice none 0 0) (.slice none 0 0) (.slice none 0 0) [] [] []) := Tri.start w1
  go_loopw [4, 5, 6, 7] (fun v4 v5 v6 v7 wr => ∃ p : Nat, p ≤ 64 ∧ v7 = .int .i64 (p : Nat) ∧ v6 = .int .i64 ((lookF (openAt L) p).2 : Nat) ∧ Hid (Tri w1 wr (.slice none 0 0) v5 v4 [] (ordsI (lookF (openAt L) p).1) (atsI (lookF (openAt L) p).1))) (fun _ _ _ v7 _ => 64 - (RowKit.intOf v7).toNat)
  case atStart => exact ⟨0, by omega, rfl, rfl, HT0⟩
  case round =>
    obtain ⟨p, hp, rfl, rfl, HT⟩ := hrel
    have hs1 := HS1.out
    have hlw := HT.out.below.size
    obtain ⟨hb0, hb1, _, _⟩ := box_cells ((HT.out.below.block w.heap.size (by omega)).trans HW1.out)
    obtain ⟨hl1, hl2, hl3⟩ := look_len (openAt L) p
    by_cases hp64 : p < 64
    · have hlt : (p : Int) < 64 := by omega
      have HA3 : Hid (IsAr wr B (.agg #[.slice aa L.length ca, .slice ao L.length co]) L) := HA1.out.later HT.out.below
      go_wp2_with (go_at_call 31; fail)
      refine (rfits_any L HL.out _ B p 1 hp (by omega) _ HA3.out).mono ?_
      rw [fitsB_one hp64]
      rintro e w2 ⟨rfl, hb⟩
      have HT2 : Hid (Tri w1 w2 (.slice none 0 0) u5 u4 [] (ordsI (lookF (openAt L) p).1) (atsI (lookF (openAt L) p).1)) := HT.out.later hb
      clear hb HT HA3 hb0 hb1
      cases hf : openAt L p with
      | false =>
        have HN : Hid (lookF (openAt L) (p+1) = ((lookF (openAt L) p).1, 0)) := look_shut hf
        clear hf
        go_wp2
        go_roundw
        case rel => exact ⟨p + 1, by omega, by go_num, by rw [HN.out]; rfl, by rw [HN.out]; exact HT2⟩
        case measure => simp [RowKit.intOf]; omega
      | true =>
        have h2w := HT2.out.below.size
        by_cases hn : (lookF (openAt L) p).2 = 0
        · have HN : Hid (lookF (openAt L) (p+1) = ((lookF (openAt L) p).1 ++ [(p, 1)], 1)) := look_first hf hn
          have HNO : Hid (ordsI (lookF (openAt L) (p+1)).1 = (ordsI (lookF (openAt L) p).1 ++ [0]).set (lookF (openAt L) p).1.length 1) := by unfold Hid; rw [HN.out, ords_one]
          have HNA : Hid (atsI (lookF (openAt L) (p+1)).1 = atsI (lookF (openAt L) p).1 ++ [((p : Nat) : Int)]) := by unfold Hid; rw [HN.out, atsI_add]
          have HN2 : Hid ((lookF (openAt L) (p+1)).2 = 1) := by unfold Hid; rw [HN.out]
          have HLO : Hid ((ordsI (lookF (openAt L) p).1).length = (lookF (openAt L) p).1.length) := ordsI_length _
          have HLA : Hid ((atsI (lookF (openAt L) p).1).length = (lookF (openAt L) p).1.length) := atsI_length _
          clear hf hl3 HN
          rw [hn] at *
          generalize ordsI (lookF (openAt L) p).1 = lo at *
          generalize atsI (lookF (openAt L) p).1 = la at *
          generalize (lookF (openAt L) p).1.length = m at *
          clear hn
          go_wp2_with (at_builtin; go_must (first | (refine wpList_append_own_at _ rfl _ _ 22 rfl w1.heap.size 3 i0 (.int .i64 0) 1 8 Tryd.underlying22 HI0.out.1 HI0.out.2.1 HI0.out.2.2.1 HI0.out.2.2.2 rfl (by decide) _ m (la.map (Value.int .i64)) rfl (World.ownsRow.alloc (HT2.out.a.rows HLA.out rfl) _) ⟨w2.heap.size, 0, none⟩ 1 1 [.int .i64 (p : Nat)] rfl rfl (by exact new_one _ _ _) (one_cell _) (by unfold maxLen; omega) (by omega) (by simp; omega) ?_; intro v4 w4 hown' hgrow _ hat; have HT4 : Hid (Tri w1 w4 (.slice none 0 0) u5 v4 [] lo (la ++ [(p : Int)])) := HT2.out.asked HLA.out hown' hgrow hat; have hs4 := HT4.out.below.size; clear hown' hgrow hat HT2) | (refine wpList_append_own_at _ rfl _ _ 22 rfl w1.heap.size 3 i0 (.int .i64 0) 1 8 Tryd.underlying22 HI0.out.1 HI0.out.2.1 HI0.out.2.2.1 HI0.out.2.2.2 rfl (by decide) _ m (lo.map (Value.int .i64)) rfl (World.ownsRow.alloc (HT4.out.p.rows HLO.out rfl) _) ⟨w4.heap.size, 0, none⟩ 1 1 [.int .i64 0] rfl rfl (by exact new_one _ _ _) (one_cell _) (by unfold maxLen; omega) (by omega) (by simp; omega) ?_; intro v5 w5 hown' hgrow _ hat; have HT5 : Hid (Tri w1 w5 (.slice none 0 0) v5 v4 [] (lo ++ [0]) (la ++ [(p : Int)])) := HT4.out.pages HLO.out hown' hgrow hat; have hl5 : (lo ++ [(0 : Int)]).length = m + 1 := (by rw [List.length_append, HLO.out]; rfl); obtain ⟨a5, c5, hv5⟩ := HT5.out.p.form; rw [hl5] at hv5; subst hv5; obtain ⟨g5, rfl, hg5, hnc5, hmc5, hc5⟩ := own_at HT5.out.p hl5 (show m < m + 1 by omega); have hfz5 := HT5.out.p.softN hl5 m; have HL5 : Hid ((lo ++ [(0 : Int)]).length = m + 1) := hl5; clear hown' hgrow hat HT4 hl5; unfold maxLen at hmc5)))
          go_roundw
          case rel => exact ⟨p + 1, by omega, by go_num, by rw [HN2.out]; rfl, by rw [HNO.out, HNA.out]; exact HT5.out.stored HL5.out m 1⟩
          case measure => simp [RowKit.intOf]; omega
        · have hpos := hl3 hn
          have HN : Hid (lookF (openAt L) (p+1) = ((lookF (openAt L) p).1.dropLast ++ [(((lookF (openAt L) p).1.getLast?.getD (0, 0)).1, (lookF (openAt L) p).2 + 1)], (lookF (openAt L) p).2 + 1)) := look_more hf hn
          have HNO : Hid (ordsI (lookF (openAt L) (p+1)).1 = (ordsI (lookF (openAt L) p).1).set ((lookF (openAt L) p).1.length - 1) (((lookF (openAt L) p).2 + 1 : Nat) : Int)) := by unfold Hid; rw [HN.out]; exact ords_last hpos
          have HNA : Hid (atsI (lookF (openAt L) (p+1)).1 = atsI (lookF (openAt L) p).1) := by unfold Hid; rw [HN.out]; exact ats_last hpos
          have HN2 : Hid ((lookF (openAt L) (p+1)).2 = (lookF (openAt L) p).2 + 1) := by unfold Hid; rw [HN.out]
          have HLO : Hid ((ordsI (lookF (openAt L) p).1).length = (lookF (openAt L) p).1.length) := ordsI_length _
          clear hf hl3 HN
          generalize ordsI (lookF (openAt L) p).1 = lo at *
          generalize atsI (lookF (openAt L) p).1 = la at *
          generalize (lookF (openAt L) p).1.length = m0 at *
          obtain ⟨m, rfl⟩ : ∃ m, m0 = m + 1 := ⟨m0 - 1, by omega⟩
          rw [Nat.add_sub_cancel] at HNO
          generalize (lookF (openAt L) p).2 = c at *
          obtain ⟨a5, c5, hv5⟩ := HT2.out.p.form
          rw [HLO.out] at hv5
          subst hv5
          obtain ⟨g5, rfl, hg5, hnc5, hmc5, hc5⟩ := own_at HT2.out.p HLO.out (show m < m + 1 by omega)
          have hfz5 := HT2.out.p.softN HLO.out m
          unfold maxLen at hmc5
          have hcn : ((c : Int) == 0) = false := by simp; omega
          clear hn
          go_wp2
          go_roundw
          case rel => exact ⟨p + 1, by omega, by go_num, by rw [HN2.out]; go_num, by rw [HNO.out, HNA.out]; exact HT2.out.stored HLO.out m ((c + 1 : Nat) : Int)⟩
          case measure => simp [RowKit.intOf]; omega
    · obtain rfl : p = 64 := by omega
      have HTE : Hid (Tri w1 wr (.slice none 0 0) u5 u4 [] (ordsI (holes 0 L)) (atsI (holes 0 L))) := by
        have := HT.out
        rw [HAL.out] at this
        exact this
      clear HT hl1 hl2 hl3
      go_wp2
      go_ret2
      exact ⟨_, _, rfl, ownI_mono HTE.out.a (by omega), ownI_mono HTE.out.p (by omega), HBA.out.trans (HTE.out.below.mono (by omega))⟩
end Go.Proofs.YtjcikoaoemingaaDoor
