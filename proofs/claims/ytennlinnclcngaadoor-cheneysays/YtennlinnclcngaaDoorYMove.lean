/- The walk of cheney.mover's function: nodes as numbers of copies. -/
import Derived.Test.YtennlinnclcngaaDoorOrdA
import Derived.Test.YtennlinnclcngaaDoorIndex
import Derived.Test.YtennlinnclcngaaDoorAtPlc
import Derived.Test.YtennlinnclcngaaDoorStepL
import Derived.Test.YtennlinnclcngaaDoorBfsL
import Derived.Test.YtennlinnclcngaaDoorInnL
import Derived.Maps.AppendAt
namespace Go.Proofs.YtennlinnclcngaaDoor
set_option maxRecDepth 100000
open Go.RowKit Go.Sort

theorem plc_more {A B : List Int} {x : Int} (h : x ∈ A) : plc (A ++ B) x = plc A x := by unfold plc; rw [List.idxOf_append, if_pos h]
theorem plc_next {A : List Int} {x : Int} (h : x ∉ A) : plc (A ++ [x]) x = (A.length : Nat) := by
  unfold plc
  rw [List.idxOf_append, if_neg h]
  simp
theorem addNew_append : ∀ {l m A : List Int}, addNew A (l ++ m) = addNew (addNew A l) m
  | [], m, A => rfl
  | x :: r, m, A => by rw [List.cons_append, addNew, addNew, addNew_append]
theorem own_snoc {w : World} {base n : Nat} {v : Value} {l : List Int} {p : Int} (h : w.ownsRow base 3 1 v (n + 1) (l.map (Value.int .i64) ++ [.int .i64 p])) (hl : l.length = n) : OwnI w base v (l ++ [p]) := by
  unfold OwnI
  rw [List.length_append, List.map_append, hl]
  exact h
theorem move_tail {w wr w5 : World} {B bo base k : Nat} {A2 nums : List Int} {p : Int} {rv vo vo2 v' : Value} {o : Obj} (hn : OwnI wr base rv nums) (hnl : nums.length = k) (ho : Ord wr B bo A2 vo2) (ha : Apart rv vo2) (hm : Marks bo vo vo2 w wr) (hb : bo < base) (hw : w.heap.size ≤ base)
    (hown : w5.ownsRow base 3 1 v' (k + 1) (nums.map (Value.int .i64) ++ [.int .i64 p])) (hg : (wr.alloc o).grownBy w5 rv.ownBlock) (hat : v'.ownBlock = rv.ownBlock ∨ v'.ownBlock = some (wr.alloc o).heap.size) :
    OwnI w5 base v' (nums ++ [p]) ∧ Ord w5 B bo A2 vo2 ∧ Apart v' vo2 ∧ Marks bo vo vo2 w w5 := by
  have h := ho.beside hn hb ha hg hat
  exact ⟨own_snoc hown hnl, h.1, h.2, hm.grown hg fun j hj => by have := World.ownsRow.lt hn j hj; omega⟩
section
variable {B bo gm : Nat} {A : List Int} {vo : Value} {w w0 : World}
set_option maxHeartbeats 2000000 in
theorem move_any (v : Value) (l C : List Int) (hv : IsInts w0 v l) (hb0 : Below w0.heap.size w0 w) (h0 : w0.heap.size ≤ bo) (hl : l.length ≤ 12) (hC : ∃ D, C = addNew A l ++ D) (hA : (addNew A l).length ≤ 100) (ho : Ord w B bo A vo) (hc : w.cell? ⟨gm, 0, none⟩ = some (.pointer (some ⟨bo, 0, none⟩))) (hgm : gm ≠ bo) (hgB : gm < B) :
    Calls Tryd.prog 21 #[v, .pointer (some ⟨gm, 0, none⟩)] w fun e w' => ∃ v', e = .returned v' ∧ OwnI w' w.heap.size v' (l.map (plc C)) ∧ ∃ vo', Apart v' vo' ∧ Ord w' B bo (addNew A l) vo' ∧ Marks bo vo vo' w w' := by
  obtain ⟨ao, cap, rfl, hcap, _⟩ := hv.opened
  have HV : Hid (IsInts w0 (.slice ao l.length cap) l) := hv
  have HB0 : Hid (Below w0.heap.size w0 w ∧ w0.heap.size ≤ bo) := ⟨hb0, h0⟩
  have HC : Hid (∃ D, C = addNew A l ++ D) := hC
  have HA : Hid ((addNew A l).length ≤ 100) := hA
  have HO : Hid (Ord w B bo A vo) := ho
  have HGM : Hid (gm ≠ bo ∧ gm < B ∧ w.cell? ⟨gm, 0, none⟩ = some (.pointer (some ⟨bo, 0, none⟩))) := ⟨hgm, hgB, hc⟩
  obtain ⟨i0, hi, hz0, hz1, hz2⟩ := info_parts Tryd.info3
  have HI : Hid (Tryd.prog.info? 3 = some i0 ∧ i0.zero = some (.int .i64 0) ∧ i0.size = 1 ∧ i0.bytes = 8) := ⟨hi, hz0, hz1, hz2⟩
  have HBS : Hid (bo < w.heap.size) := Nat.lt_of_lt_of_le ho.lt ho.le
  unfold maxLen at hcap
  clear hv hb0 h0 hC hA ho hc hgm hgB hi hz0 hz1 hz2
  go_enter Tryd.func21, Tryd.ntmps21
  go_wp2
  go_loopw [4, 10] (fun rv i wr => ∃ (k : Nat) (vo2 : Value), k ≤ l.length ∧ i = .int .i64 (k : Nat) ∧ Hid (OwnI wr w.heap.size rv ((l.take k).map (plc C))) ∧ Hid (Ord wr B bo (addNew A (l.take k)) vo2) ∧ Hid (Apart rv vo2) ∧ Hid (Marks bo vo vo2 w wr)) (fun _ i _ => l.length - (intOf i).toNat)
  case atStart => exact ⟨0, _, Nat.zero_le _, rfl, OwnI.nil _ _, HO, apart_nil _, Marks.refl _ _ _⟩
  case round =>
    obtain ⟨k, vo2, hk, rfl, HN, HO2, HAP, HM⟩ := hrel
    have HBU : Hid (But B bo w wr) := HM.out.but HO.out
    have hcg : wr.cell? ⟨gm, 0, none⟩ = some (.pointer (some ⟨bo, 0, none⟩)) := (HBU.out.cell HGM.out.2.1 HGM.out.1).trans HGM.out.2.2
    by_cases hlt : k < l.length
    · have hlt' : (k : Int) < (l.length : Int) := by omega
      have HBW : Hid (Below w0.heap.size w0 wr) := HB0.out.1.trans ((HBU.out.below (by have := HO.out.lt; omega)).mono HB0.out.2)
      obtain ⟨b, off, rfl, hlc, hbs, hcell⟩ := (HV.out.below HBW.out).open_at hlt
      have hck := hcell k hlt
      have HLK : Hid ((l.take (k+1)).map (plc C) = (l.take k).map (plc C) ++ [plc C (l[k])]) := by
        unfold Hid
        rw [List.take_succ_eq_append_getElem hlt, List.map_append]; rfl
      have HLL : Hid (((l.take k).map (plc C)).length = k) := by unfold Hid; simp; omega
      have HNX := addNew_take (A := A) hlt
      obtain ⟨ao2, cap2, rfl⟩ := HO2.out.form
      have hcb := HO2.out.cell
      have hsb := HO2.out.soft
      have hfew : (addNew A (l.take (k+1))).length ≤ 100 := by
        have h := HA.out
        obtain ⟨D, hD⟩ := addNew_prefix (addNew A (l.take (k+1))) (l.drop (k+1))
        rw [← addNew_append, List.take_append_drop] at hD
        rw [hD, List.length_append] at h
        omega
      obtain ⟨D, hD⟩ : ∃ D, C = addNew A (l.take (k+1)) ++ D := by
        obtain ⟨D1, h1⟩ := HC.out
        obtain ⟨D2, h2⟩ := addNew_prefix (addNew A (l.take (k+1))) (l.drop (k+1))
        rw [← addNew_append, List.take_append_drop] at h2
        exact ⟨D2 ++ D1, by rw [h1, h2, List.append_assoc]⟩
      rw [List.getElem?_eq_getElem hlt, Option.getD_some] at hck HNX
      generalize l[k] = x at *
      clear hcell
      by_cases hx : x ∈ addNew A (l.take k)
      · rw [if_pos (List.contains_iff_mem.2 hx)] at HNX
        have HAT : Hid (at_ (addNew A (l.take k)) x = (C.idxOf x : Nat)) := by
          unfold Hid
          rw [at_plc hx, ← plc_more (B := D) hx, ← HNX, ← hD]; rfl
        have HAD : Hid (addNew A (l.take (k+1)) = addNew A (l.take k)) := HNX
        have HPC : Hid (plc C x = (C.idxOf x : Nat)) := rfl
        have HIN : Hid (IsInts wr (.slice ao2 (addNew A (l.take k)).length cap2) (addNew A (l.take k))) := HO2.out.own.isInts
        clear HNX hD hx hfew
        generalize C.idxOf x = p at *
        go_wp2_with (first | (go_at_call 22; go_must (refine (index_any _ (addNew A (l.take k)) x _ HIN.out).mono ?_; rintro e w' ⟨rfl, hw⟩; have hw := hw.symm; subst hw; rw [HAT.out])) | (at_builtin; go_must (refine wpList_append_own_at _ rfl _ _ 23 rfl w.heap.size 3 i0 (.int .i64 0) 1 8 Tryd.underlying23 HI.out.1 HI.out.2.1 HI.out.2.2.1 HI.out.2.2.2 rfl (by decide) _ k (((l.take k).map (plc C)).map (Value.int .i64)) rfl (World.ownsRow.alloc (HN.out.rows HLL.out rfl) _) _ 1 1 [.int .i64 (p : Nat)] rfl rfl (by exact new_one _ _ _) (one_cell _) (by unfold maxLen; omega) (by omega) (by have := HM.out.size; simp; omega) ?_; intro vo' w5 hown' hgrow _ hat)))
        have R := move_tail HN.out HLL.out HO2.out HAP.out HM.out HBS.out (Nat.le_refl _) hown' hgrow hat
        have R1 : Hid (OwnI w5 w.heap.size vo' ((l.take (k+1)).map (plc C))) := by unfold Hid; rw [HLK.out, HPC.out]; exact R.1
        have R2 : Hid (Ord w5 B bo (addNew A (l.take (k+1))) (.slice ao2 (addNew A (l.take k)).length cap2)) := by unfold Hid; rw [HAD.out]; exact R.2.1
        have R3 : Hid (Apart vo' (.slice ao2 (addNew A (l.take k)).length cap2)) := R.2.2.1
        have R4 : Hid (Marks bo vo (.slice ao2 (addNew A (l.take k)).length cap2) w w5) := R.2.2.2
        clear R hown' hgrow hat HBU hcg hcb hsb
        go_roundw
        case rel => exact ⟨k + 1, _, by omega, by go_num, R1, R2, R3, R4⟩
        case measure => simp [intOf]; omega
      · rw [if_neg (by rw [List.contains_iff_mem]; exact hx)] at HNX
        have HAT : Hid (at_ (addNew A (l.take k)) x = -1) := idx_miss hx
        have HAD : Hid (addNew A (l.take (k+1)) = addNew A (l.take k) ++ [x]) := HNX
        have HPC : Hid (plc C x = ((addNew A (l.take k)).length : Nat)) := by
          unfold Hid
          rw [hD, HNX, plc_more (by simp), plc_next hx]
        have HIN : Hid (IsInts wr (.slice ao2 (addNew A (l.take k)).length cap2) (addNew A (l.take k))) := HO2.out.own.isInts
        rw [HNX, List.length_append] at hfew
        clear HNX hD hx
        generalize addNew A (l.take k) = A2 at *
        go_wp2_with (go_at_call 22; go_must (refine (index_any _ A2 x _ HIN.out).mono ?_; rintro e w' ⟨rfl, hw⟩; have hw := hw.symm; subst hw; rw [HAT.out]))
        have HOD : Hid (Ord wr.drew B bo A2 (.slice ao2 A2.length cap2)) := HO2.out.later (Below.refl _ _).drew
        have hca : (wr.alloc (.cells #[.int .i64 x] 3)).cell? ⟨gm, 0, none⟩ = some (.pointer (some ⟨bo, 0, none⟩)) := Lib.cell?_alloc_some _ hcg
        have hcba : (wr.alloc (.cells #[.int .i64 x] 3)).cell? ⟨bo, 0, none⟩ = some (.slice ao2 A2.length cap2) := Lib.cell?_alloc_some _ hcb
        go_region_law (refine step_append_own_at rfl (.tmp 28) (.tmp 30) 23 rfl B 3 i0 (.int .i64 0) 1 8 Tryd.underlying23 HI.out.1 HI.out.2.1 HI.out.2.2.1 HI.out.2.2.2 rfl (by decide) (.slice ao2 A2.length cap2) A2.length (A2.map (Value.int .i64)) (by first | rfl | (simp [Act.eval]; done) | simp [Act.eval, Act.put]) (World.ownsRow.alloc (HOD.out.own.rows rfl rfl) _) ⟨wr.heap.size, 0, none⟩ 1 1 [.int .i64 x] (by first | rfl | (simp [Act.eval]; done) | simp [Act.eval, Act.put]) rfl (by exact new_one _ _ _) (one_cell _) (by unfold maxLen; omega) (by omega) (by have := HO2.out.le; show B ≤ (wr.alloc _).heap.size; rw [World.size_alloc]; omega) ?_; intro v5 w5 hown' hgrow hat; have HP : Hid _ := HOD.out.put hown' hgrow (hat.imp id fun h k hk => by rw [h] at hk; have hk := Option.some.inj hk; subst hk; show wr.heap.size ≤ (wr.alloc _).heap.size; rw [World.size_alloc]; omega); have hc5 := HOD.out.appended hgrow hcg HGM.out.1 HGM.out.2.1; have hb5 := HOD.out.appended_box hgrow; have hs5 := HOD.out.appended_soft hgrow; obtain ⟨a5, c5, hv5⟩ := OwnI.form HP.out.1.own; rw [show (A2 ++ [x]).length = A2.length + 1 by simp] at hv5; subst hv5; clear hown' hgrow hat)
        all_goals (
          have HROW : Hid _ := HP.out.2.row (w := wr.drew) (show wr.drew.ownsRow w.heap.size 3 1 u4 ((l.take k).map (plc C)).length (((l.take k).map (plc C)).map (Value.int .i64)) from HN.out) HBS.out HAP.out
          have HSZ : Hid _ := HP.out.2.size
          have HM3 : Hid (Marks bo vo (.slice a5 (A2.length + 1) c5) w (w5.setCell ⟨bo, 0, none⟩ (.slice a5 (A2.length + 1) c5))) := HM.out.trans ⟨HP.out.2.os, HP.out.2.tape, HP.out.2.output, HP.out.2.size, HP.out.2.block, HP.out.2.fresh⟩
          go_wp2_with (at_builtin; go_must (refine wpList_append_own_at _ rfl _ _ 23 rfl w.heap.size 3 i0 (.int .i64 0) 1 8 Tryd.underlying23 HI.out.1 HI.out.2.1 HI.out.2.2.1 HI.out.2.2.2 rfl (by decide) _ k (((l.take k).map (plc C)).map (Value.int .i64)) rfl (World.ownsRow.alloc (OwnI.rows HROW.out.1 HLL.out rfl) _) ⟨w5.heap.size, 0, none⟩ 1 1 [.int .i64 (A2.length : Nat)] rfl rfl (by have h := new_one (w5.setCell ⟨bo, 0, none⟩ (.slice a5 (A2.length + 1) c5)) (.int .i64 (A2.length : Nat)) 3; rw [show (w5.setCell ⟨bo, 0, none⟩ (.slice a5 (A2.length + 1) c5)).heap.size = w5.heap.size by simp [World.setCell]] at h; exact h) (one_cell _) (by unfold maxLen; omega) (by omega) (by have := HM3.out.size; simp at this; simp; omega) ?_; intro vo' w6 hown' hgrow _ hat))
          have R := move_tail HROW.out.1 HLL.out HP.out.1 HROW.out.2 HM3.out HBS.out (Nat.le_refl _) hown' hgrow hat
          have R1 : Hid (OwnI w6 w.heap.size vo' ((l.take (k+1)).map (plc C))) := by unfold Hid; rw [HLK.out, HPC.out]; exact R.1
          have R2 : Hid (Ord w6 B bo (addNew A (l.take (k+1))) (.slice a5 (A2.length + 1) c5)) := by unfold Hid; rw [HAD.out]; exact R.2.1
          have R3 : Hid (Apart vo' (.slice a5 (A2.length + 1) c5)) := R.2.2.1
          have R4 : Hid (Marks bo vo (.slice a5 (A2.length + 1) c5) w w6) := R.2.2.2
          clear R hown' hgrow hat HBU hcg hcb hsb hc5 hb5 hs5 hca hcba
          go_roundw
          case rel => exact ⟨k + 1, _, by omega, by go_num, R1, R2, R3, R4⟩
          case measure => simp [intOf]; omega)
    · have hlt' : ¬ (k : Int) < (l.length : Int) := by omega
      have HOL : Hid (Ord wr B bo (addNew A l) vo2) := by have := HO2.out; rwa [List.take_of_length_le (by omega)] at this
      have HNL : Hid (OwnI wr w.heap.size u4 (l.map (plc C))) := by have := HN.out; rwa [List.take_of_length_le (by omega)] at this
      go_wp2
      go_ret
      exact ⟨_, rfl, HNL.out, _, HAP.out, HOL.out, HM.out⟩
end
end Go.Proofs.YtennlinnclcngaaDoor
