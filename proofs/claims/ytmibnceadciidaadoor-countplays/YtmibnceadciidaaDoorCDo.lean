/- The walks of Root, Drop, Link, Cut and Make. -/
import Derived.Test.YtmibnceadciidaaDoorCTake
import Derived.Maps.AppendAt
namespace Go.Proofs.YtmibnceadciidaaDoor
set_option maxRecDepth 100000
open Go.RowKit Go.Sort

theorem gone_is {c : KS} (h : KGood c) (x : Int) : decide (c.count x = 0) = !c.is x := by
  have := good_count h x
  cases hb : c.is x
  · have h0 : ¬ 0 < c.count x := fun e => by rw [this.1 e] at hb; exact Bool.noConfusion hb
    simp; omega
  · have h0 := this.2 hb
    simp; omega
/-- What an operation leaves. -/
def Done (w : World) (S : Nat → Prop) (a : Nat) (d : KS) (w' : World) : Prop := ∃ S', CHeap w' S' a d ∧ Stp S S' w w'
theorem hat_of {w : World} {o : Obj} {v v' : Value} (h : v'.ownBlock = v.ownBlock ∨ v'.ownBlock = some (w.alloc o).heap.size) : ∀ k, v'.ownBlock = some k → v.ownBlock = some k ∨ w.heap.size ≤ k := fun k hk => by
  rcases h with e | e
  · exact .inl (by rw [← e]; exact hk)
  · rw [hk] at e
    have e := Option.some.inj e
    simp at e
    exact .inr (by omega)
theorem doK_none {c : KS} {kind i j : Int} (h0 : kind ≠ 0) (h : c.is i = false) : c.doK kind i j = (c, 0, 1) := by
  unfold KS.doK
  rw [if_neg h0, if_pos (.inl h)]
theorem own_more {w : World} {v : Value} {l : List Int} {x : Int} (h : w.ownsRow 0 3 1 v (l.length + 1) (l.map (Value.int .i64) ++ [.int .i64 x])) : OwnI w 0 v (l ++ [x]) := by
  unfold OwnI
  rw [List.length_append, List.map_append]
  exact h
set_option maxHeartbeats 2000000 in
theorem rootP_any (S : Nat → Prop) (a : Nat) (c : KS) (i j : Int) (w : World) (hw : CHeap w S a c) (hc : KGood c) :
    Calls Tryd.prog 8 #[.pointer (some ⟨a, 0, none⟩), .int .i64 i] w fun e w' => e = .returned (errV (c.doK 1 i j).2.2) ∧ Done w S a (c.doK 1 i j).1 w' := by
  have HW : Hid (CHeap w S a c) := hw
  have HC : Hid (KGood c) := hc
  have HG : Hid (decide (c.count i = 0) = !c.is i) := gone_is hc i
  obtain ⟨vo, vr, us, h⟩ := hw
  obtain ⟨ao, co, ar, cr, rfl, rfl, hco, hcr, hlo, hlr⟩ := h.forms
  obtain ⟨_, hc1, _, hf1⟩ := box_cells h.box
  have HH : Hid (CH w S a c (.slice ao c.outs.length co) (.slice ar c.roots.length cr) us) := h
  have has : a < w.heap.size := h.lt a h.at_
  cases hb : c.is i with
  | false =>
    have HB : Hid (c.is i = false) := hb
    clear h hb hc
    go_enter Tryd.func8, Tryd.ntmps8
    go_wp2_with (go_at_call 26; go_must (refine (gone_any S a c i _ HW.out HC.out.mid).mono ?_; rintro e w' ⟨rfl, hw⟩; have hw := hw.symm; subst hw; rw [HG.out, HB.out]; simp only [Bool.not_false]))
    go_ret
    rw [doK_none (by decide) HB.out]
    exact ⟨rfl, S, HW.out, Stp.refl _ _⟩
  | true =>
    have HB : Hid (c.is i = true) := hb
    have HO : Hid (∀ n, OwnI w 0 (.slice ar c.roots.length cr) n → n = n) := fun _ _ => rfl
    by_cases h12 : 12 ≤ c.roots.length
    · have HD : Hid (c.doK 1 i j = (c, 0, 4)) := by
        unfold Hid KS.doK
        rw [if_neg (by decide), if_neg (by rintro (e | e); rw [hb] at e; exact Bool.noConfusion e; omega), if_pos rfl, if_pos h12]
      have hd : decide (12 ≤ c.roots.length) = true := by simp [h12]
      have HF : Hid (decide (12 ≤ c.roots.length) = true) := hd
      clear h hb hc hd h12 HO
      go_enter Tryd.func8, Tryd.ntmps8
      go_wp2_with (first | (go_at_call 26; go_must (refine (gone_any S a c i _ HW.out HC.out.mid).mono ?_; rintro e w' ⟨rfl, hw⟩; have hw := hw.symm; subst hw; rw [HG.out, HB.out]; simp only [Bool.not_true])) | (go_at_call 25; go_must (refine (full_any S a c _ HW.out).mono ?_; rintro e w' ⟨rfl, hw⟩; have hw := hw.symm; subst hw; rw [HF.out])))
      go_ret
      rw [HD.out]
      exact ⟨rfl, S, HW.out, Stp.refl _ _⟩
    · have HD : Hid (c.doK 1 i j = (⟨c.outs, c.roots ++ [i], c.here⟩, 0, 0)) := by
        unfold Hid KS.doK
        rw [if_neg (by decide), if_neg (by rintro (e | e); rw [hb] at e; exact Bool.noConfusion e; omega), if_pos rfl, if_neg h12]
        have hg := root_good hc hb (by omega)
        rw [swept_settled hg.even hg.few hg.good hg.settled]
      have HF : Hid (decide (12 ≤ c.roots.length) = false) := by unfold Hid; simp; omega
      have h12' : c.roots.length < 12 := by omega
      obtain ⟨i0, hi, hz0, hz1, hz2⟩ := info_parts Tryd.info3
      have HI : Hid (Tryd.prog.info? 3 = some i0 ∧ i0.zero = some (.int .i64 0) ∧ i0.size = 1 ∧ i0.bytes = 8) := ⟨hi, hz0, hz1, hz2⟩
      have HOR : Hid (w.ownsRow 0 3 1 (.slice ar c.roots.length cr) c.roots.length (c.roots.map (Value.int .i64))) := h.roots
      have HAN : Hid ((.slice ar c.roots.length cr : Value).ownBlock ≠ some a) := own_not h.roots h.box (by decide)
      clear h hb hc h12 hi hz0 hz1 hz2
      go_enter Tryd.func8, Tryd.ntmps8
      go_wp2_with (first | (go_at_call 26; go_must (refine (gone_any S a c i _ HW.out HC.out.mid).mono ?_; rintro e w' ⟨rfl, hw⟩; have hw := hw.symm; subst hw; rw [HG.out, HB.out]; simp only [Bool.not_true])) | (go_at_call 25; go_must (refine (full_any S a c _ HW.out).mono ?_; rintro e w' ⟨rfl, hw⟩; have hw := hw.symm; subst hw; rw [HF.out])) | (at_builtin; go_must (refine wpList_append_own_at _ rfl _ _ 25 rfl 0 3 i0 (.int .i64 0) 1 8 Tryd.underlying25 HI.out.1 HI.out.2.1 HI.out.2.2.1 HI.out.2.2.2 rfl (by decide) _ c.roots.length (c.roots.map (Value.int .i64)) rfl (World.ownsRow.alloc HOR.out _) ⟨w.heap.size, 0, none⟩ 1 1 [.int .i64 i] rfl rfl (by exact new_one _ _ _) (one_cell _) (by unfold maxLen; omega) (by omega) (by omega) ?_; intro vo' w5 hown' hgrow _ hat; have HGR : Hid _ := grown_alloc hgrow; have how := own_more hown'; obtain ⟨a9, c9, e9⟩ := OwnI.form how; subst e9; have HOW : Hid _ := how; have HAT : Hid _ := hat_of hat; have hc5 := HGR.out.cell hc1 (fun e => HAN.out e.symm); have hf5 := (World.frozen?_of_block (a := ⟨a, 1, none⟩) (HGR.out.block a has (fun e => HAN.out e.symm))).trans hf1; clear hgrow hown' how hat)))
      go_ret
      rw [HD.out]
      obtain ⟨k1, k2⟩ := HH.out.setRoots HGR.out HOW.out HAT.out
      rw [show (c.roots ++ [i]).length = c.roots.length + 1 by simp] at k1 k2
      exact ⟨rfl, _, ⟨_, _, _, k1⟩, k2⟩
set_option maxHeartbeats 2000000 in
theorem dropP_any (S : Nat → Prop) (a : Nat) (c : KS) (i j : Int) (w : World) (hw : CHeap w S a c) (hc : KGood c) :
    Calls Tryd.prog 9 #[.pointer (some ⟨a, 0, none⟩), .int .i64 i] w fun e w' => e = .returned (errV (c.doK 2 i j).2.2) ∧ Done w S a (c.doK 2 i j).1 w' := by
  have HW : Hid (CHeap w S a c) := hw
  have HC : Hid (KGood c) := hc
  have HG : Hid (decide (c.count i = 0) = !c.is i) := gone_is hc i
  obtain ⟨vo, vr, us, h⟩ := hw
  have HH : Hid (CH w S a c vo vr us) := h
  obtain ⟨_, hc1, _, hf1⟩ := box_cells h.box
  have HC1 : Hid (w.cell? ⟨a, 1, none⟩ = some vr ∧ w.frozen? ⟨a, 1, none⟩ = false) := ⟨hc1, hf1⟩
  cases hb : c.is i with
  | false =>
    have HB : Hid (c.is i = false) := hb
    clear h hb hc hc1 hf1
    go_enter Tryd.func9, Tryd.ntmps9
    go_wp2_with (go_at_call 26; go_must (refine (gone_any S a c i _ HW.out HC.out.mid).mono ?_; rintro e w' ⟨rfl, hw⟩; have hw := hw.symm; subst hw; rw [HG.out, HB.out]; simp only [Bool.not_false]))
    go_ret
    rw [doK_none (by decide) HB.out]
    exact ⟨rfl, S, HW.out, Stp.refl _ _⟩
  | true =>
    have HB : Hid (c.is i = true) := hb
    have hlt := is_lt hb
    by_cases hr : i ∈ c.roots
    · have HD : Hid (c.doK 2 i j = ((⟨c.outs, c.roots.erase i, c.here⟩ : KS).swept, 0, 0)) := by
        unfold Hid KS.doK
        rw [if_neg (by decide), if_neg (by rintro (e | e); rw [hb] at e; exact Bool.noConfusion e; omega), if_neg (by decide), if_pos rfl, if_pos hr]
      have HUN := unroot hc i
      have HU : Hid (KMid ⟨c.outs, c.roots.erase i, c.here⟩ ∧ ∀ x, (⟨c.outs, c.roots.erase i, c.here⟩ : KS).is x = true → (⟨c.outs, c.roots.erase i, c.here⟩ : KS).abs.Unp x → x ∈ [i]) := HUN
      have HR : Hid (i ∈ c.roots) := hr
      clear h hb hc hc1 hf1 HUN hr
      obtain ⟨x, rfl⟩ : ∃ x : Nat, i = (x : Int) := ⟨i.toNat, by omega⟩
      have HX : Hid (x < c.here.length) := by unfold Hid; omega
      clear hlt
      go_enter Tryd.func9, Tryd.ntmps9
      go_wp2_with (first | (go_at_call 26; go_must (refine (gone_any S a c (x : Int) _ HW.out HC.out.mid).mono ?_; rintro e w' ⟨rfl, hw⟩; have hw := hw.symm; subst hw; rw [HG.out, HB.out]; simp only [Bool.not_true])) | (go_at_call 27; go_must (refine (take_hit a ⟨a, 1, none⟩ S ⟨c.outs, c.roots.erase (x : Int), c.here⟩ vr c.roots x _ HC1.out.1 HC1.out.2 HH.out.roots (own_not HH.out.roots HH.out.box (by decide)) HR.out HX.out HU.out.1 (fun u' w2 h1 h2 h3 => ⟨_, ⟨_, _, _, (HH.out.setRoots h2 h1 (fun k hk => .inl (by rw [← h3]; exact hk))).1⟩, (HH.out.setRoots h2 h1 (fun k hk => .inl (by rw [← h3]; exact hk))).2⟩)).mono ?_; rintro e w3 ⟨rfl, d, S3, k1, k2, k3⟩)))
      go_ret
      rw [HD.out, ← sets_swept HU.out.1 HU.out.2 k3]
      exact ⟨rfl, S3, k1, k2⟩
    · have HD : Hid (c.doK 2 i j = (c, 0, 5)) := by
        unfold Hid KS.doK
        rw [if_neg (by decide), if_neg (by rintro (e | e); rw [hb] at e; exact Bool.noConfusion e; omega), if_neg (by decide), if_pos rfl, if_neg hr]
      have HR : Hid (i ∉ c.roots) := hr
      clear h hb hc hc1 hf1 hr hlt
      go_enter Tryd.func9, Tryd.ntmps9
      go_wp2_with (first | (go_at_call 26; go_must (refine (gone_any S a c i _ HW.out HC.out.mid).mono ?_; rintro e w' ⟨rfl, hw⟩; have hw := hw.symm; subst hw; rw [HG.out, HB.out]; simp only [Bool.not_true])) | (go_at_call 27; go_must (refine (take_miss a ⟨a, 1, none⟩ vr c.roots i _ HC1.out.1 HH.out.roots.isInts HR.out).mono ?_; rintro e w' ⟨rfl, hw⟩; have hw := hw.symm; subst hw)))
      go_ret
      rw [HD.out]
      exact ⟨rfl, S, HW.out, Stp.refl _ _⟩
end Go.Proofs.YtmibnceadciidaaDoor
