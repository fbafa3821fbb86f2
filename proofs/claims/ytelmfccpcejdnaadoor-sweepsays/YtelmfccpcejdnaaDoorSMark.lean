/- The walks of sweep.marker's function: what marks a node. -/
import Derived.Test.YtelmfccpcejdnaaDoorOrdM
import Derived.Test.YtelmfccpcejdnaaDoorContains
import Derived.Test.YtelmfccpcejdnaaDoorStepL
namespace Go.Proofs.YtelmfccpcejdnaaDoor
set_option maxRecDepth 100000
open Go.RowKit Go.Sort

section
variable {B bo gm : Nat} {A : List Int} {vo : Value} {w : World}
set_option maxHeartbeats 1000000 in
theorem mark_old (x : Int) (hx : x ∈ A) (ho : Ord w B bo A vo) (hc : w.cell? ⟨gm, 0, none⟩ = some (.pointer (some ⟨bo, 0, none⟩))) :
    Calls Tryd.prog 31 #[.int .i64 x, .pointer (some ⟨gm, 0, none⟩)] w fun e w' => e = .returned (.bool false) ∧ w' = w := by
  obtain ⟨ao, cap, rfl⟩ := ho.form
  have hcb := ho.cell
  have HI : Hid (IsInts w (.slice ao A.length cap) A) := ho.own.isInts
  have HX : Hid (A.contains x = true) := List.contains_iff_mem.2 hx
  clear ho hx
  go_enter Tryd.func31, Tryd.ntmps31
  go_wp2_with (go_at_call 32; go_must (refine (contains_any _ A x _ HI.out).mono ?_; rintro e w' ⟨rfl, hw⟩; have hw := hw.symm; subst hw; rw [HX.out]))
  go_ret
  exact ⟨rfl, rfl⟩
set_option maxHeartbeats 1000000 in
theorem mark_new (x : Int) (hx : x ∉ A) (hl : A.length ≤ 100) (ho : Ord w B bo A vo) (hc : w.cell? ⟨gm, 0, none⟩ = some (.pointer (some ⟨bo, 0, none⟩))) (hgm : gm ≠ bo) (hgB : gm < B) :
    Calls Tryd.prog 31 #[.int .i64 x, .pointer (some ⟨gm, 0, none⟩)] w fun e w' => e = .returned (.bool true) ∧ ∃ vo', Ord w' B bo (A ++ [x]) vo' ∧ Marks bo vo vo' w w' := by
  obtain ⟨ao, cap, rfl⟩ := ho.form
  have hcb := ho.cell
  have hsb := ho.soft
  have HO : Hid (Ord w B bo A (.slice ao A.length cap)) := ho
  have HX : Hid (A.contains x = false) := by
    unfold Hid
    rw [Bool.eq_false_iff]
    exact fun h => hx (List.contains_iff_mem.1 h)
  have HGM : Hid (gm ≠ bo ∧ gm < B) := ⟨hgm, hgB⟩
  obtain ⟨i0, hi, hz0, hz1, hz2⟩ := info_parts Tryd.info3
  have HI : Hid (Tryd.prog.info? 3 = some i0 ∧ i0.zero = some (.int .i64 0) ∧ i0.size = 1 ∧ i0.bytes = 8) := ⟨hi, hz0, hz1, hz2⟩
  clear ho hx hi hz0 hz1 hz2 hgm hgB
  go_enter Tryd.func31, Tryd.ntmps31
  go_wp2_with (go_at_call 32; go_must (refine (contains_any _ A x _ HO.out.own.isInts).mono ?_; rintro e w' ⟨rfl, hw⟩; have hw := hw.symm; subst hw; rw [HX.out]))
  have HOD : Hid (Ord w.drew B bo A (.slice ao A.length cap)) := HO.out.later (Below.refl _ _).drew
  have hca : (w.alloc (.cells #[.int .i64 x] 3)).cell? ⟨gm, 0, none⟩ = some (.pointer (some ⟨bo, 0, none⟩)) := Lib.cell?_alloc_some _ hc
  have hcba : (w.alloc (.cells #[.int .i64 x] 3)).cell? ⟨bo, 0, none⟩ = some (.slice ao A.length cap) := Lib.cell?_alloc_some _ hcb
  go_region_law (refine step_append_own_at rfl (.tmp 12) (.tmp 14) 23 rfl B 3 i0 (.int .i64 0) 1 8 Tryd.underlying23 HI.out.1 HI.out.2.1 HI.out.2.2.1 HI.out.2.2.2 rfl (by decide) (.slice ao A.length cap) A.length (A.map (Value.int .i64)) (by first | rfl | (simp [Act.eval]; done) | simp [Act.eval, Act.put]) (World.ownsRow.alloc (HOD.out.own.rows rfl rfl) _) ⟨w.heap.size, 0, none⟩ 1 1 [.int .i64 x] (by first | rfl | (simp [Act.eval]; done) | simp [Act.eval, Act.put]) rfl (by exact new_one _ _ _) (one_cell _) (by unfold maxLen; omega) (by omega) (by have := HO.out.le; show B ≤ (w.alloc _).heap.size; rw [World.size_alloc]; omega) ?_; intro v5 w5 hown' hgrow hat; have HP : Hid _ := HOD.out.put hown' hgrow (hat.imp id fun h k hk => by rw [h] at hk; have hk := Option.some.inj hk; subst hk; show w.heap.size ≤ (w.alloc _).heap.size; rw [World.size_alloc]; omega); have hc5 := HOD.out.appended hgrow hc HGM.out.1 HGM.out.2; have hb5 := HOD.out.appended_box hgrow; have hs5 := HOD.out.appended_soft hgrow; obtain ⟨a5, c5, hv5⟩ := OwnI.form HP.out.1.own; rw [show (A ++ [x]).length = A.length + 1 by simp] at hv5; subst hv5; clear hown' hgrow hat)
  all_goals go_wp2
  all_goals go_ret
  all_goals exact ⟨rfl, _, HP.out.1, ⟨HP.out.2.os, HP.out.2.tape, HP.out.2.output, HP.out.2.size, HP.out.2.block, HP.out.2.fresh⟩⟩
end
end Go.Proofs.YtelmfccpcejdnaaDoor
