/- The walk of settle: depth first. -/
import Derived.Test.YtmibnceadciidaaDoorCCount
namespace Go.Proofs.YtmibnceadciidaaDoor
set_option maxRecDepth 100000
open Go.RowKit Go.Sort

section
variable {S S' : Nat → Prop} {w w1 w2 : World} {a : Nat} {c : KS} {vo vr vo' vr' u u' : Value} {us : List Value}
theorem CH.same {d : KS} (h : CH w S a c vo vr us) (h1 : d.outs = c.outs) (h2 : d.roots = c.roots) : CH w S a d vo vr us :=
  ⟨h.box, h.at_, h.lt, by rw [h1]; exact h.len, by rw [h1]; exact h.outs, h.outsS, by rw [h1]; exact h.rows, h.apart, by rw [h2]; exact h.roots, h.rootsS⟩
theorem CHeap.same {d : KS} (h : CHeap w S a c) (h1 : d.outs = c.outs) (h2 : d.roots = c.roots) : CHeap w S a d := by
  obtain ⟨vo, vr, us, h⟩ := h
  exact ⟨vo, vr, us, h.same h1 h2⟩
theorem CH.drewN (h : CH w S a c vo vr us) (n : Nat) : CH (w.drewN n) S a c vo vr us := h.kept (Nat.le_refl _) fun _ _ => rfl
/-- A row is taken out of the heap. -/
theorem CH.clear {g i cap n : Nat} (h : CH w S a c (.slice (some ⟨g, 0, none⟩) n cap) vr us) (hi : us[i]? = some u) (hh : List Bool) :
    ∃ S1, CHeap (w.setCell ⟨g, i, none⟩ (.slice none 0 0)) S1 a ⟨c.outs.set i [], c.roots, hh⟩ ∧ Stp S S1 w (w.setCell ⟨g, i, none⟩ (.slice none 0 0)) ∧ OwnI (w.setCell ⟨g, i, none⟩ (.slice none 0 0)) 0 u (rowAt c.outs i) ∧ Out S1 u := by
  obtain ⟨q1, q2, q3⟩ := h.rows i u hi
  have hil : i < us.length := (List.getElem?_eq_some_iff.1 hi).1
  have hgr : w.grownBy w u.ownBlock := ⟨rfl, rfl, rfl, Nat.le_refl _, fun _ _ _ => rfl⟩
  obtain ⟨k1, k2⟩ := h.setRow hi hgr (OwnI.nil w 0) (fun k hk => by simp [Value.ownBlock] at hk)
  refine ⟨fun k => Plus S w w k ∧ u.ownBlock ≠ some k, ⟨_, _, _, ⟨k1.box, ⟨k1.at_, own_not q1 h.box (by decide)⟩, fun k hk => k1.lt k hk.1, k1.len, k1.outs, fun k hk => ⟨k1.outsS k hk, fun e => apart_type h.outs q1 (by decide) k hk e⟩, fun j x hj => ⟨(k1.rows j x hj).1, fun k hk => ⟨(k1.rows j x hj).2.1 k hk, fun e => ?_⟩, (k1.rows j x hj).2.2⟩, k1.apart, k1.roots, fun k hk => ⟨k1.rootsS k hk, fun e => q3 k e hk⟩⟩⟩, k2.less fun k hk => hk.1, World.ownsRow.kept q1 (grown_set w g i _) (apart_none (apart_type q1 h.outs (by decide))), fun k hk e => e.2 hk⟩
  by_cases ej : j = i
  · subst ej
    rw [List.getElem?_set_self hil] at hj
    cases hj
    simp [Value.ownBlock] at hk
  · rw [List.getElem?_set_ne (fun x => ej x.symm)] at hj
    exact h.apart j i x u hj hi ej k hk e
theorem KMid.notgone {c : KS} (h : KMid c) {x : Int} (hx : c.count x ≠ 0) : 0 ≤ x ∧ x < c.here.length := by
  have hp : ¬ c.abs.Unp x := fun e => hx (count_zero.2 e)
  by_cases hr : x ∈ c.roots
  · exact is_lt (h.good.1 x hr)
  · refine Decidable.byContradiction fun hn => hp ⟨hr, fun y hy => hn (is_lt (h.good.2 y x hy).2)⟩
/-- What a row points to is here, or was. -/
theorem row_in {c : KS} (h : KMid c) {k : Nat} {y : Int} (hy : y ∈ c.row (k : Int)) : 0 ≤ y ∧ y < c.here.length := by
  refine is_lt (c := c) ((h.good.2 (k : Int) y ?_).2)
  show y ∈ gOf c.outs (k : Int)
  rw [row_g (by omega)]; exact hy
end
set_option maxHeartbeats 4000000 in
theorem settle_any (a : Nat) : ∀ (m : Nat) (S : Nat → Prop) (c : KS) (x : Nat) (w : World), CHeap w S a c → KMid c → c.heres ≤ m → x < c.here.length →
    Calls Tryd.prog 35 #[.pointer (some ⟨a, 0, none⟩), .int .i64 (x : Nat)] w fun e w' => e = .returned (.tuple #[]) ∧ ∃ d S', CHeap w' S' a d ∧ Stp S S' w w' ∧ Sets c d [(x : Int)] := by
  intro m
  induction m using Nat.strongRecOn with
  | _ m ih =>
  intro S c x w hw hc hm hx
  have IH : Hid (∀ (m' : Nat), m' < m → ∀ (S : Nat → Prop) (c : KS) (x : Nat) (w : World), CHeap w S a c → KMid c → c.heres ≤ m' → x < c.here.length →
    Calls Tryd.prog 35 #[.pointer (some ⟨a, 0, none⟩), .int .i64 (x : Nat)] w fun e w' => e = .returned (.tuple #[]) ∧ ∃ d S', CHeap w' S' a d ∧ Stp S S' w w' ∧ Sets c d [(x : Int)]) := ih
  clear ih
  by_cases hb : c.count (x : Int) = 0
  · obtain ⟨vo, vr, us, h⟩ := hw
    have HB : Hid (c.count (x : Int) = 0) := hb
    have HC : Hid (KMid c) := hc
    have HW : Hid (CHeap w S a c) := ⟨_, _, _, h⟩
    obtain ⟨ao, co, ar, cr, rfl, rfl, hco, hcr, hlo, hlr⟩ := h.forms
    obtain ⟨hc0, _, _, _⟩ := box_cells h.box
    have hxo : x < c.outs.length := by rw [hc.even]; exact hx
    obtain ⟨g, u, rfl, hu, hcell, hfr, hgs, hown⟩ := h.row hxo
    obtain ⟨S1, k1, k2, k3, k4⟩ := h.clear hu (c.here.set x false)
    obtain ⟨au, cu, rfl, hcu, _⟩ := hown.isInts.opened
    have HS1 : Hid (CHeap (w.setCell ⟨g, x, none⟩ (.slice none 0 0)) S1 a (c.goes x)) := k1
    have HS2 : Hid (Stp S S1 w (w.setCell ⟨g, x, none⟩ (.slice none 0 0))) := k2
    have HS3 : Hid (OwnI (w.setCell ⟨g, x, none⟩ (.slice none 0 0)) 0 (.slice au (rowAt c.outs x).length cu) (rowAt c.outs x) ∧ Out S1 (.slice au (rowAt c.outs x).length cu)) := ⟨k3, k4⟩
    have HX : Hid (x < c.here.length) := hx
    have hl12 := hc.outs12
    unfold maxLen at hcu
    clear h k1 k2 k3 k4 hb hc hx hown
    go_enter Tryd.func35, Tryd.ntmps35
    go_wp2_with (go_at_call 26; go_must (refine (gone_any S a c x _ HW.out HC.out).mono ?_; rintro e w' ⟨rfl, hw⟩; have hw := hw.symm; subst hw; rw [HB.out]; simp only [decide_true]))
    have HG : Hid (KMid (c.goes x)) := goes_any_mid HC.out HX.out HB.out
    have HROW : Hid (c.row (x : Int) = rowAt c.outs x) := by unfold Hid KS.row rowAt; rw [Int.toNat_natCast]
    clear hc0 hcell hfr hu
    generalize w.setCell ⟨g, x, none⟩ (.slice none 0 0) = w1 at *
    go_loopw [26] (fun i wr => ∃ (k : Nat) (d : KS) (S2 : Nat → Prop), k ≤ (rowAt c.outs x).length ∧ i = .int .i64 (k : Nat) ∧ Hid (CHeap wr S2 a d) ∧ Hid (Stp S1 S2 w1 wr) ∧ Hid (Sets (c.goes x) d ((rowAt c.outs x).take k))) (fun i _ => (rowAt c.outs x).length - (intOf i).toNat)
    case atStart => exact ⟨0, _, S1, Nat.zero_le _, rfl, HS1, Stp.refl _ _, by rw [List.take_zero]; exact Sets.refl HG.out⟩
    case round =>
      obtain ⟨k, d, S2, hk, rfl, H1, H2, H3⟩ := hrel
      by_cases hlt : k < (rowAt c.outs x).length
      · have hlt' : (k : Int) < ((rowAt c.outs x).length : Int) := by omega
        have hrow := H2.out.row HS3.out.1 HS3.out.2
        obtain ⟨b, off, rfl, hlc, hbs, hcell⟩ := (OwnI.isInts hrow.1).open_at hlt
        have hck := hcell k hlt
        have hmem := List.getElem_mem hlt
        have hyr := row_in HC.out (k := x) (y := (rowAt c.outs x)[k]) (by rw [HROW.out]; exact hmem)
        have HTK : Hid ((rowAt c.outs x).take (k+1) = (rowAt c.outs x).take k ++ [(rowAt c.outs x)[k]]) := List.take_succ_eq_append_getElem hlt
        rw [List.getElem?_eq_getElem hlt, Option.getD_some] at hck
        generalize (rowAt c.outs x)[k] = y at *
        obtain ⟨y, rfl⟩ : ∃ t : Nat, y = (t : Int) := ⟨y.toNat, by omega⟩
        have his : c.isN x = true := by
          refine Decidable.byContradiction fun hn => ?_
          have e := row_none HC.out (k := x) (by simpa using hn)
          rw [HROW.out] at e
          rw [e] at hlt
          simp at hlt
        have hgh := goes_heres his
        have hdh := H3.out.heres
        have hdl := H3.out.len
        have hgl : (c.goes x).here.length = c.here.length := by unfold KS.goes; simp
        have HY : Hid (y < d.here.length) := by unfold Hid; omega
        have HM : Hid (m - 1 < m ∧ d.heres ≤ m - 1) := by unfold Hid; omega
        clear hcell hmem hyr hrow his hgh hdh hdl hgl
        go_wp2_with (go_at_call 35; go_must (refine (IH.out (m - 1) HM.out.1 S2 d y _ H1.out H3.out.mid HM.out.2 HY.out).mono ?_; rintro e w2 ⟨rfl, d2, S3, h1, h2, h3⟩; have H4 : Hid (CHeap w2 S3 a d2) := h1; have H5 : Hid (Stp S2 S3 wr w2) := h2; have H6 : Hid (Sets d d2 [(y : Int)]) := h3; clear h1 h2 h3))
        go_roundw
        case rel => exact ⟨k + 1, d2, S3, by omega, by go_num, H4, H2.out.trans H5.out, by rw [HTK.out]; exact H3.out.trans H6.out⟩
        case measure => simp [intOf]; omega
      · have hlt' : ¬ (k : Int) < ((rowAt c.outs x).length : Int) := by omega
        have HL : Hid (Sets c d [(x : Int)]) := by
          have := H3.out
          rw [List.take_of_length_le (by omega), ← HROW.out] at this
          exact sets_goes HC.out HX.out HB.out this
        go_wp2
        go_end0
        exact ⟨rfl, d, S2, H1.out, HS2.out.trans H2.out, HL.out⟩
  · have hd : decide (c.count (x : Int) = 0) = false := by simp [hb]
    have HC : Hid (KMid c) := hc
    have HB : Hid (c.count (x : Int) ≠ 0) := hb
    have HW : Hid (CHeap w S a c) := hw
    clear hb hw hc
    go_enter Tryd.func35, Tryd.ntmps35
    go_wp2_with (go_at_call 26; go_must (refine (gone_any S a c x _ HW.out HC.out).mono ?_; rintro e w' ⟨rfl, hw⟩; have hw := hw.symm; subst hw; rw [hd]))
    refine bodyPost_ret (results_none rfl _ _ _) rfl ?_
    exact ⟨rfl, c, S, HW.out, Stp.refl _ _, sets_held HC.out HB.out⟩
end Go.Proofs.YtmibnceadciidaaDoor
