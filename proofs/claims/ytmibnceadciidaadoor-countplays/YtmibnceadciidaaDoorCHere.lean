/- The walk of Here. -/
import Derived.Test.YtmibnceadciidaaDoorCDo
import Derived.Test.YtmibnceadciidaaDoorGNum
namespace Go.Proofs.YtmibnceadciidaaDoor
set_option maxRecDepth 100000
open Go.RowKit Go.Sort

/-- Which of the first k nodes are here, as bits. -/
def hereM (c : KS) : Nat → Nat
  | 0 => 0
  | k + 1 => if c.isN k then hereM c k ||| 2 ^ k else hereM c k
theorem hereM_bit (c : KS) : ∀ k, hereM c k < 2 ^ k ∧ ∀ i, (hereM c k).testBit i = (decide (i < k) && c.isN i)
  | 0 => ⟨by simp [hereM], fun i => by simp [hereM]⟩
  | k + 1 => by
    obtain ⟨h1, h2⟩ := hereM_bit c k
    have h3 : 2 ^ k < 2 ^ (k+1) := by rw [Nat.pow_succ]; have := Nat.two_pow_pos k; omega
    unfold hereM
    cases hb : c.isN k
    · refine ⟨by simp; omega, fun i => ?_⟩
      simp only [Bool.false_eq_true, if_false]
      rw [h2]
      by_cases e : i = k
      · subst e; simp [hb]
      · have : (i < k + 1) ↔ i < k := by omega
        simp [this]
    · refine ⟨by simp only [if_true]; exact Nat.or_lt_two_pow (by omega) h3, fun i => ?_⟩
      simp only [if_true]
      rw [Nat.testBit_or, h2, Nat.testBit_two_pow]
      by_cases e : i = k
      · subst e; simp [hb]
      · have h5 : (i < k + 1) ↔ i < k := by omega
        have h6 : ¬ k = i := fun x => e x.symm
        simp [h5, h6]
/-- All of them. -/
def hereB (c : KS) : Nat := hereM c c.here.length
theorem hereB_bit (c : KS) (i : Nat) : (hereB c).testBit i = c.isN i := by
  unfold hereB
  rw [(hereM_bit c _).2]
  by_cases h : i < c.here.length
  · simp [h]
  · have : c.isN i = false := by unfold KS.isN; rw [List.getElem?_eq_none (by omega)]; rfl
    simp [this]
theorem hereB_lt (c : KS) : hereB c < 2 ^ c.here.length := (hereM_bit c _).1
theorem hereM_small (c : KS) {k : Nat} (hk : k ≤ 12) : hereM c k < 4096 := by
  have h1 := (hereM_bit c k).1
  have h2 : 2 ^ k ≤ 2 ^ 12 := Nat.pow_le_pow_right (by decide) hk
  omega
set_option maxHeartbeats 1000000 in
theorem hereP_any (S : Nat → Prop) (a : Nat) (c : KS) (w : World) (hw : CHeap w S a c) (hc : KGood c) :
    Calls Tryd.prog 15 #[.pointer (some ⟨a, 0, none⟩)] w fun e w' => e = .returned (.int .i64 ((hereB c : Nat) : Int)) ∧ w' = w := by
  have HW : Hid (CHeap w S a c) := hw
  have HC : Hid (KGood c) := hc
  obtain ⟨vo, vr, us, h⟩ := hw
  obtain ⟨ao, co, ar, cr, rfl, rfl, hco, hcr, hlo, hlr⟩ := h.forms
  obtain ⟨hc0, hc1, _, _⟩ := box_cells h.box
  have HEV : Hid (c.outs.length = c.here.length) := hc.even
  have hl12 : c.outs.length ≤ 12 := hc.mid.outs12
  clear h hc
  go_enter Tryd.func15, Tryd.ntmps15
  go_wp2
  go_loop [3, 10] (fun n i => ∃ k : Nat, k ≤ c.outs.length ∧ i = .int .i64 k ∧ n = .int .i64 ((hereM c k : Nat) : Int)) (fun _ i => c.outs.length - (intOf i).toNat)
  case atStart => exact ⟨0, by omega, rfl, rfl⟩
  case round =>
    obtain ⟨k, hk, rfl, rfl⟩ := hrel
    by_cases hlt : k < c.outs.length
    · have hlt' : (k : Int) < (c.outs.length : Int) := by omega
      have hms := hereM_small c (k := k) (by omega)
      have HG : Hid (decide (c.count (k : Int) = 0) = !c.isN k) := by unfold Hid; rw [gone_is HC.out, isN_is]
      have HM : Hid (hereM c (k+1) = if c.isN k then hereM c k ||| 2 ^ k else hereM c k) := rfl
      have h2 : 2 ^ k < 65536 := by
        have : 2 ^ k ≤ 2 ^ 12 := Nat.pow_le_pow_right (by decide) (by omega)
        omega
      have HW2 : Hid (wrap64 (2 ^ k) = ((2 ^ k : Nat) : Int)) := pow64 h2
      have HQ : Hid (bits .or .i64 (hereM c k : Int) ((2 ^ k : Nat) : Int) = ((hereM c k ||| 2 ^ k : Nat) : Int)) := or64 _ _ (by omega) (by omega)
      clear h2
      cases hb : c.isN k with
      | true =>
        have HM2 : Hid (hereM c (k+1) = hereM c k ||| 2 ^ k) := by unfold Hid; rw [HM.out, if_pos hb]
        have HB : Hid ((!c.isN k) = false) := by unfold Hid; rw [hb]; rfl
        clear hb
        generalize hereM c k = m at *
        go_wp2_with (go_at_call 26; go_must (refine (gone_any S a c (k : Int) _ HW.out HC.out.mid).mono ?_; rintro e w' ⟨rfl, hw⟩; have hw := hw.symm; subst hw; rw [HG.out, HB.out]))
        go_round
        case rel => exact ⟨k + 1, by omega, by go_num, by rw [HW2.out, HQ.out, HM2.out]⟩
        case measure => simp [intOf]; omega
      | false =>
        have HM2 : Hid (hereM c (k+1) = hereM c k) := by unfold Hid; rw [HM.out, hb]; rfl
        have HB : Hid ((!c.isN k) = true) := by unfold Hid; rw [hb]; rfl
        clear hb
        generalize hereM c k = m at *
        go_wp2_with (go_at_call 26; go_must (refine (gone_any S a c (k : Int) _ HW.out HC.out.mid).mono ?_; rintro e w' ⟨rfl, hw⟩; have hw := hw.symm; subst hw; rw [HG.out, HB.out]))
        go_round
        case rel => exact ⟨k + 1, by omega, by go_num, by rw [HM2.out]⟩
        case measure => simp [intOf]; omega
    · have hlt' : ¬ (k : Int) < (c.outs.length : Int) := by omega
      have HE : Hid (hereM c k = hereB c) := by unfold Hid hereB; rw [show k = c.here.length by have := HEV.out; omega]
      generalize hereM c k = m at *
      go_wp2
      go_ret
      exact ⟨by rw [HE.out]; rfl, rfl⟩
end Go.Proofs.YtmibnceadciidaaDoor
