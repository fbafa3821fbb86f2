/- The walk of the document's answer: where phases start. -/
import Derived.Test.YtldeonnbpfkmoaaDoorStarts
import Derived.Test.YtldeonnbpfkmoaaDoorHasEq
namespace Go.Proofs.YtldeonnbpfkmoaaDoor
open Go.RowKit Go.Sort

/-- The one row is let go of. -/
theorem Tri.reset {w0 w : World} {vb vp va : Value} {lb : List Bool} {lp la : List Int} (h : Tri w0 w vb vp va lb lp la) : Tri w0 w vb vp (.slice none 0 0) lb lp [] :=
  ⟨h.b, h.p, OwnI.nil _ _, by cases vp.ownBlock <;> simp [Value.ownBlock], h.below⟩

/-- The loop's relation: the places, and what is seen, behind k requests. -/
def StartsRel (w : World) (s : Nat) (l : List Int) (vo vs i : Value) (wr : World) : Prop :=
  ∃ k : Nat, k ≤ l.length ∧ i = .int .i64 k ∧ Tri w wr (.slice none 0 0) vo vs [] (starts s l k) (since s l k)

set_option maxHeartbeats 2000000 in
theorem refstarts_any (v : Value) (l : List Int) (s : Nat) (w : World) (hv : IsInts w v l) (hform : ∃ ao cap, v = .slice ao l.length cap) (hl40 : l.length ≤ 40) (hs1 : 1 ≤ s) (hs8 : s ≤ 8) :
    Calls Tryd.prog 5 #[v, .int .i64 s] w fun e w' => ∃ vo, e = .returned vo ∧ OwnI w' w.heap.size vo (starts s l l.length) ∧ Below w.heap.size w w' := by
  have HV : Hid (IsInts w v l) := hv
  obtain ⟨av, cv, rfl⟩ := hform
  clear hv
  obtain ⟨i0, hi, hz0, hz1, hz2⟩ := info_parts Tryd.info3
  have HI : Hid (Tryd.prog.info? 3 = some i0 ∧ i0.zero = some (.int .i64 0) ∧ i0.size = 1 ∧ i0.bytes = 8) := ⟨hi, hz0, hz1, hz2⟩
  clear hi hz0 hz1 hz2
  go_enter Tryd.func5, Tryd.ntmps5
  go_wp2
  go_loopw [5, 6, 7] (fun vo vs i wr => StartsRel w s l vo vs i wr) (fun _ _ i _ => l.length - (intOf i).toNat)
  case atStart => exact ⟨0, Nat.zero_le _, rfl, Tri.start w⟩
  case round =>
    obtain ⟨k, hk, rfl, hT⟩ := hrel
    by_cases hlt : k < l.length
    · rcases HV.out with ⟨h, _⟩ | ⟨b, off, cap, hv, hp, hlc, hcap, hc⟩
      · subst h; simp at hlt
      simp only [Value.slice.injEq] at hv
      obtain ⟨rfl, _, rfl⟩ := hv
      have hbB : b < w.heap.size := World.block_lt_of_cell? w _ (hc 0 hp)
      have HCK : Hid (w.cell? ⟨b, off + k, none⟩ = some (.int .i64 (l[k]?.getD 0))) := hc k hlt
      have hck : wr.cell? ⟨b, off + k, none⟩ = some (.int .i64 (l[k]?.getD 0)) := (hT.below.cell (by exact hbB)).trans HCK.out
      unfold maxLen at hcap
      clear hc
      have hsl := starts_le s l k
      have HSL : Hid ((starts s l k).length ≤ k) := hsl
      clear hsl
      obtain ⟨ao, oc, hvo⟩ := hT.p.form
      obtain ⟨av2, sc, hvs⟩ := hT.a.form
      generalize hno : (starts s l k).length = no at *
      generalize hns : (since s l k).length = ns at *
      subst hvo hvs
      have HNO : Hid ((starts s l k).length = no) := hno
      have HNS : Hid ((since s l k).length = ns) := hns
      have hno40 : no ≤ k := HSL.out
      have hns8 : ns ≤ s := by rw [← HNS.out]; exact since_le hs1 l k
      have HT : Hid (Tri w wr (.slice none 0 0) (.slice ao no oc) (.slice av2 ns sc) [] (starts s l k) (since s l k)) := hT
      clear hno hns hT HSL
      cases hbg : begins s l k
      · have HS : Hid (starts s l (k+1) = starts s l k) := starts_no hbg
        have hk0 : 0 < k := begins_pos hbg
        have hkz : ((k : Int) == 0) = false := by rw [beq_eq_false_iff_ne]; omega
        cases hh : ehit s l k
        · have HH : Hid ((since s l k).contains (l[k]?.getD 0) = false) := hh
          have HN : Hid (since s l (k+1) = since s l k ++ [l[k]?.getD 0]) := stays_since hbg hh
          have hfu : ((ns : Int) == (s : Int)) = false := by
            rw [begins_full hk0 hh, HNS.out] at hbg
            rw [beq_eq_false_iff_ne] at hbg ⊢; omega
          clear hh hbg
          generalize l[k]?.getD 0 = p at *
          go_wp2_with (first | (go_at_call 11; go_must (refine (has_eq HT.out.a.isInts HH.out).mono ?_; rintro e w' ⟨rfl, hw⟩; have hw := hw.symm; subst hw)) | (at_builtin; go_must (refine wpList_append_own_at _ rfl _ _ 22 rfl w.heap.size 3 i0 (.int .i64 0) 1 8 Tryd.underlying22 HI.out.1 HI.out.2.1 HI.out.2.2.1 HI.out.2.2.2 rfl (by decide) _ ns ((since s l k).map (Value.int .i64)) rfl (World.ownsRow.alloc (HT.out.a.rows HNS.out rfl) _) ⟨wr.heap.size, 0, none⟩ 1 1 [.int .i64 p] rfl rfl (by exact new_one _ _ _) (one_cell _) (by unfold maxLen; omega) (by omega) (by have := HT.out.below.size; simp; omega) ?_; intro vs' w1 hown' hgrow _ hat; have HT1 : Hid (Tri w w1 (.slice none 0 0) (.slice ao no oc) vs' [] (starts s l k) (since s l k ++ [p])) := HT.out.asked HNS.out hown' hgrow hat; clear hown' hgrow hat)))
          go_roundw
          case rel => exact ⟨k + 1, by omega, by go_num, by rw [HS.out, HN.out]; exact HT1.out⟩
          case measure => simp [intOf]; omega
        · have HH : Hid ((since s l k).contains (l[k]?.getD 0) = true) := hh
          have HN : Hid (since s l (k+1) = since s l k) := since_hit hh
          clear hh hbg
          generalize l[k]?.getD 0 = p at *
          go_wp2_with (go_at_call 11; go_must (refine (has_eq HT.out.a.isInts HH.out).mono ?_; rintro e w' ⟨rfl, hw⟩; have hw := hw.symm; subst hw))
          go_roundw
          case rel => exact ⟨k + 1, by omega, by go_num, by rw [HS.out, HN.out]; exact HT.out⟩
          case measure => simp [intOf]; omega
      · have HS : Hid (starts s l (k+1) = starts s l k ++ [(k : Int)]) := starts_yes hbg
        have HN : Hid (since s l (k+1) = [] ++ [l[k]?.getD 0]) := begins_since hbg
        by_cases hk0 : k = 0
        · have hkz : ((k : Int) == 0) = true := by rw [hk0]; rfl
          have hkg : ¬ (0 < (k : Int)) := by omega
          clear hbg hk0
          generalize l[k]?.getD 0 = p at *
          go_wp2_with (first | (at_builtin; (refine wpList_append_own_at _ rfl _ _ 22 rfl w.heap.size 3 i0 (.int .i64 0) 1 8 Tryd.underlying22 HI.out.1 HI.out.2.1 HI.out.2.2.1 HI.out.2.2.2 rfl (by decide) _ no ((starts s l k).map (Value.int .i64)) rfl (World.ownsRow.alloc (HT.out.p.rows HNO.out rfl) _) ⟨wr.heap.size, 0, none⟩ 1 1 [.int .i64 (k : Int)] rfl rfl (by exact new_one _ _ _) (one_cell _) (by unfold maxLen; omega) (by omega) (by have := HT.out.below.size; simp; omega) ?_; intro vo' w1 hown' hgrow _ hat; have ht1 := HT.out.pages HNO.out hown' hgrow hat; have hck1 : w1.cell? ⟨b, off + k, none⟩ = some (.int .i64 p) := (ht1.below.cell (p := ⟨b, off + k, none⟩) (by exact hbB)).trans HCK.out; have HT1 : Hid (Tri w w1 (.slice none 0 0) vo' (.slice none 0 0) [] (starts s l k ++ [(k : Int)]) []) := ht1.reset; clear ht1 HT hck; clear hown' hgrow hat)) | (at_builtin; go_must (refine wpList_append_own_at _ rfl _ _ 22 rfl w.heap.size 3 i0 (.int .i64 0) 1 8 Tryd.underlying22 HI.out.1 HI.out.2.1 HI.out.2.2.1 HI.out.2.2.2 rfl (by decide) _ 0 ((([] : List Int)).map (Value.int .i64)) rfl (World.ownsRow.alloc (HT1.out.a.rows rfl rfl) _) ⟨w1.heap.size, 0, none⟩ 1 1 [.int .i64 p] rfl rfl (by exact new_one _ _ _) (one_cell _) (by unfold maxLen; omega) (by omega) (by have := HT1.out.below.size; simp; omega) ?_; intro vs' w2 hown' hgrow _ hat; have HT2 : Hid (Tri w w2 (.slice none 0 0) vo' vs' [] (starts s l k ++ [(k : Int)]) ([] ++ [p])) := HT1.out.asked rfl hown' hgrow hat; clear hown' hgrow hat)))
          go_roundw
          case rel => exact ⟨k + 1, by omega, by go_num, by rw [HS.out, HN.out]; exact HT2.out⟩
          case measure => simp [intOf]; omega
        · have hkz : ((k : Int) == 0) = false := by rw [beq_eq_false_iff_ne]; omega
          have hh := begins_miss hbg
          have HH : Hid ((since s l k).contains (l[k]?.getD 0) = false) := hh
          have hfu : ((ns : Int) == (s : Int)) = true := by
            rw [begins_full (by omega) hh, HNS.out] at hbg
            rw [beq_iff_eq] at hbg ⊢; omega
          clear hh hbg
          generalize l[k]?.getD 0 = p at *
          go_wp2_with (first | (go_at_call 11; go_must (refine (has_eq HT.out.a.isInts HH.out).mono ?_; rintro e w' ⟨rfl, hw⟩; have hw := hw.symm; subst hw)) | (at_builtin; (refine wpList_append_own_at _ rfl _ _ 22 rfl w.heap.size 3 i0 (.int .i64 0) 1 8 Tryd.underlying22 HI.out.1 HI.out.2.1 HI.out.2.2.1 HI.out.2.2.2 rfl (by decide) _ no ((starts s l k).map (Value.int .i64)) rfl (World.ownsRow.alloc (HT.out.p.rows HNO.out rfl) _) ⟨wr.heap.size, 0, none⟩ 1 1 [.int .i64 (k : Int)] rfl rfl (by exact new_one _ _ _) (one_cell _) (by unfold maxLen; omega) (by omega) (by have := HT.out.below.size; simp; omega) ?_; intro vo' w1 hown' hgrow _ hat; have ht1 := HT.out.pages HNO.out hown' hgrow hat; have hck1 : w1.cell? ⟨b, off + k, none⟩ = some (.int .i64 p) := (ht1.below.cell (p := ⟨b, off + k, none⟩) (by exact hbB)).trans HCK.out; have HT1 : Hid (Tri w w1 (.slice none 0 0) vo' (.slice none 0 0) [] (starts s l k ++ [(k : Int)]) []) := ht1.reset; clear ht1 HT hck; clear hown' hgrow hat)) | (at_builtin; go_must (refine wpList_append_own_at _ rfl _ _ 22 rfl w.heap.size 3 i0 (.int .i64 0) 1 8 Tryd.underlying22 HI.out.1 HI.out.2.1 HI.out.2.2.1 HI.out.2.2.2 rfl (by decide) _ 0 ((([] : List Int)).map (Value.int .i64)) rfl (World.ownsRow.alloc (HT1.out.a.rows rfl rfl) _) ⟨w1.heap.size, 0, none⟩ 1 1 [.int .i64 p] rfl rfl (by exact new_one _ _ _) (one_cell _) (by unfold maxLen; omega) (by omega) (by have := HT1.out.below.size; simp; omega) ?_; intro vs' w2 hown' hgrow _ hat; have HT2 : Hid (Tri w w2 (.slice none 0 0) vo' vs' [] (starts s l k ++ [(k : Int)]) ([] ++ [p])) := HT1.out.asked rfl hown' hgrow hat; clear hown' hgrow hat)))
          go_roundw
          case rel => exact ⟨k + 1, by omega, by go_num, by rw [HS.out, HN.out]; exact HT2.out⟩
          case measure => simp [intOf]; omega
    · have hkl : k = l.length := by omega
      rw [hkl] at hT
      go_wp2
      go_ret
      exact ⟨_, rfl, hT.p, hT.below⟩
end Go.Proofs.YtldeonnbpfkmoaaDoor
