/- The walk of the document's answer: Depths. -/
import Derived.Test.YtkoccdhonbnlhaaDoorRefLru
import Derived.Test.YtkoccdhonbnlhaaDoorDeepL
namespace Go.Proofs.YtkoccdhonbnlhaaDoor
open Go.RowKit Go.Sort

theorem since_deep (v : Value) (l : List Int) (k : Nat) (w : World) (hv : IsInts w v l) (hk : k ≤ l.length) (hl40 : l.length ≤ 40) :
    Calls Tryd.prog 12 #[v, .int .i64 k, .int .i64 (l[k]?.getD 0)] w fun e w' => e = .returned (.int .i64 (deep l k)) ∧ Below w.heap.size w w' := by
  refine (since_any v l k (l[k]?.getD 0) w hv hk hl40).mono ?_
  rintro e w' ⟨d, rfl, hT, hb⟩
  have : d = deep l k := deep_unique hT.2
  rw [this]
  exact ⟨rfl, hb⟩

set_option maxHeartbeats 1000000 in
theorem refdepths_any (v : Value) (l : List Int) (w : World) (hv : IsInts w v l) (hform : ∃ ao cap, v = .slice ao l.length cap) (hl40 : l.length ≤ 40) :
    Calls Tryd.prog 5 #[v] w fun e w' => ∃ vd, e = .returned vd ∧ OwnI w' w.heap.size vd (depthsOf l l.length) ∧ Below w.heap.size w w' := by
  obtain ⟨ao, cap, rfl⟩ := hform
  have HV : Hid (IsInts w (.slice ao l.length cap) l) := hv
  clear hv
  obtain ⟨i0, hi, hz0, hz1, hz2⟩ := info_parts Tryd.info3
  have HI : Hid (Tryd.prog.info? 3 = some i0 ∧ i0.zero = some (.int .i64 0) ∧ i0.size = 1 ∧ i0.bytes = 8) := ⟨hi, hz0, hz1, hz2⟩
  clear hi hz0 hz1 hz2
  go_enter Tryd.func5, Tryd.ntmps5
  go_wp2
  go_loopw [3, 4] (fun vo i wr => ∃ k : Nat, k ≤ l.length ∧ i = .int .i64 k ∧ OwnI wr w.heap.size vo (depthsOf l k) ∧ Below w.heap.size w wr) (fun _ i _ => l.length - (intOf i).toNat)
  case atStart => exact ⟨0, by omega, rfl, OwnI.nil _ _, Below.refl _ _⟩
  case round =>
    obtain ⟨k, hk, rfl, hO, hbel⟩ := hrel
    by_cases hlt : k < l.length
    · have hv2 := HV.out
      rcases hv2 with ⟨h0, _⟩ | ⟨b, off, cap2, hv3, hpos, hlc, hcap, hc⟩
      · subst h0; simp at hlt
      simp only [Value.slice.injEq, true_and] at hv3
      obtain ⟨rfl, rfl⟩ := hv3
      unfold maxLen at hcap
      have hbB : b < w.heap.size := World.block_lt_of_cell? w _ (hc 0 hpos)
      have hck : wr.cell? ⟨b, off + k, none⟩ = some (.int .i64 (l[k]?.getD 0)) := (hbel.cell (by exact hbB)).trans (hc k hlt)
      obtain ⟨ad, dcp, hvd⟩ := hO.form
      rw [depthsOf_length] at hvd
      subst hvd
      have HO : Hid (OwnI wr w.heap.size (.slice ad k dcp) (depthsOf l k)) := hO
      have HN : Hid ((depthsOf l k).length = k) := depthsOf_length l k
      have HD : Hid (depthsOf l (k+1) = depthsOf l k ++ [(deep l k : Int)]) := depthsOf_succ l k
      have HSD := since_deep _ l k wr (HV.out.below hbel) (by omega) hl40
      clear hc hO
      generalize l[k]?.getD 0 = p at *
      generalize deep l k = d at *
      go_wp2_with (first | (go_at_call 12; go_must (refine HSD.mono ?_; rintro e w1 ⟨rfl, hb1⟩; have HO1 : Hid (OwnI w1 w.heap.size (.slice ad k dcp) (depthsOf l k)) := HO.out.later hb1; have HB1 : Hid (Below w.heap.size w w1) := hbel.trans (hb1.mono hbel.size); clear hb1)) | (at_builtin; go_must (refine wpList_append_own _ rfl _ _ 22 rfl w.heap.size 3 i0 (.int .i64 0) 1 8 Tryd.underlying22 HI.out.1 HI.out.2.1 HI.out.2.2.1 HI.out.2.2.2 rfl (by decide) _ k ((depthsOf l k).map (Value.int .i64)) rfl (World.ownsRow.alloc (HO1.out.rows HN.out rfl) _) ⟨w1.heap.size, 0, none⟩ 1 1 [.int .i64 (d : Int)] rfl rfl (by exact new_one _ _ _) (one_cell _) (by unfold maxLen; omega) (by omega) (by have := HB1.out.size; simp; omega) ?_; intro vd' w2 hown' hgrow _; have R := own_append2 HO1.out HN.out HB1.out (Nat.le_refl _) hown' hgrow; have HR : Hid (OwnI w2 w.heap.size vd' (depthsOf l k ++ [(d : Int)])) := R.1; have HB2 : Hid (Below w.heap.size w w2) := R.2; clear hown' hgrow R)))
      go_roundw
      case rel => exact ⟨k + 1, by omega, by go_num, by rw [HD.out]; exact HR.out, HB2.out⟩
      case measure => simp [intOf]; omega
    · have HO : Hid (OwnI wr w.heap.size u3 (depthsOf l l.length)) := by rw [show k = l.length by omega] at hO; exact hO
      clear hO
      go_wp2
      go_ret
      exact ⟨_, rfl, HO.out, hbel⟩
end Go.Proofs.YtkoccdhonbnlhaaDoor
