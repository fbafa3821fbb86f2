/- The walks of times, Count, gone and full. -/
import Derived.Test.YtmibnceadciidaaDoorCObj
import Derived.Test.YtmibnceadciidaaDoorInnL
namespace Go.Proofs.YtmibnceadciidaaDoor
set_option maxRecDepth 100000
open Go.RowKit Go.Sort

theorem count_take {l : List Int} {k : Nat} (hk : k < l.length) (x : Int) : (l.take (k+1)).count x = (l.take k).count x + if l[k]?.getD 0 = x then 1 else 0 := by
  rw [List.take_succ_eq_append_getElem hk, List.count_append, List.count_singleton, List.getElem?_eq_getElem hk, Option.getD_some]
  by_cases e : l[k] = x <;> simp [e]
set_option maxHeartbeats 400000 in
theorem times_any (v : Value) (l : List Int) (x : Int) (w : World) (hv : IsInts w v l) (hl : l.length ≤ 1000) :
    Calls Tryd.prog 29 #[v, .int .i64 x] w fun e w' => e = .returned (.int .i64 ((l.count x : Nat) : Int)) ∧ w' = w := by
  obtain ⟨ao, cap, rfl, hcap, _⟩ := hv.opened
  have HV : Hid (IsInts w (.slice ao l.length cap) l) := hv
  unfold maxLen at hcap
  clear hv
  go_enter Tryd.func29, Tryd.ntmps29
  go_wp2
  go_loop [5, 10] (fun n i => ∃ k : Nat, k ≤ l.length ∧ i = .int .i64 k ∧ n = .int .i64 (((l.take k).count x : Nat) : Int)) (fun _ i => l.length - (intOf i).toNat)
  case atStart => exact ⟨0, by omega, rfl, by simp⟩
  case round =>
    obtain ⟨k, hk, rfl, rfl⟩ := hrel
    have hml : (l.take k).count x ≤ k := Nat.le_trans List.count_le_length (by simp; omega)
    by_cases hlt : k < l.length
    · obtain ⟨b, off, rfl, hlc, hbs, hcell⟩ := HV.out.open_at hlt
      have hck := hcell k hlt
      have HM : Hid ((l.take (k+1)).count x = (l.take k).count x + if l[k]?.getD 0 = x then 1 else 0) := count_take hlt x
      clear hcell
      generalize l[k]?.getD 0 = y at *
      by_cases hb : y = x
      · have HM2 : Hid ((l.take (k+1)).count x = (l.take k).count x + 1) := by unfold Hid; rw [HM.out, if_pos hb]
        generalize (l.take k).count x = n at *
        subst hb
        go_wp2
        go_round
        case rel => exact ⟨k + 1, by omega, by go_num, by rw [HM2.out]; go_num⟩
        case measure => simp [intOf]; omega
      · have HM2 : Hid ((l.take (k+1)).count x = (l.take k).count x) := by unfold Hid; rw [HM.out, if_neg hb, Nat.add_zero]
        generalize (l.take k).count x = n at *
        go_wp2
        go_round
        case rel => exact ⟨k + 1, by omega, by go_num, by rw [HM2.out]⟩
        case measure => simp [intOf]; omega
    · have HE : Hid ((l.take k).count x = l.count x) := by unfold Hid; rw [List.take_of_length_le (by omega)]
      generalize (l.take k).count x = n at *
      go_wp2
      go_ret
      exact ⟨by rw [HE.out]; rfl, rfl⟩
/-- How often a node is pointed to by the roots and the first k rows. -/
def cTo (c : KS) (x : Int) (k : Nat) : Nat := c.roots.count x + ((c.outs.take k).map fun r => r.count x).sum
theorem cTo_zero (c : KS) (x : Int) : cTo c x 0 = c.roots.count x := by unfold cTo; simp
theorem cTo_last (c : KS) (x : Int) : cTo c x c.outs.length = c.count x := by unfold cTo KS.count; rw [List.take_length]
theorem cTo_succ {c : KS} {k : Nat} (hk : k < c.outs.length) (x : Int) : cTo c x (k+1) = cTo c x k + (rowAt c.outs k).count x := by
  unfold cTo rowAt
  rw [List.take_succ_eq_append_getElem hk, List.map_append, List.sum_append, List.getElem?_eq_getElem hk, Option.getD_some, List.map_cons, List.map_nil, List.sum_cons, List.sum_nil]
  omega
theorem cTo_le {c : KS} (h : KMid c) (x : Int) : ∀ k, k ≤ c.outs.length → cTo c x k ≤ 12 + 4 * k
  | 0, _ => by rw [cTo_zero]; have := h.roots; have : c.roots.count x ≤ c.roots.length := List.count_le_length; omega
  | k + 1, hk => by
    have h1 := cTo_le h x k (by omega)
    have h2 : (rowAt c.outs k).count x ≤ (rowAt c.outs k).length := List.count_le_length
    have h3 := h.rows _ (rowAt_mem (show k < c.outs.length by omega))
    rw [cTo_succ (by omega)]
    omega
set_option maxHeartbeats 1000000 in
theorem countP_any (S : Nat → Prop) (a : Nat) (c : KS) (x : Int) (w : World) (hw : CHeap w S a c) (hc : KMid c) :
    Calls Tryd.prog 14 #[.pointer (some ⟨a, 0, none⟩), .int .i64 x] w fun e w' => e = .returned (.int .i64 ((c.count x : Nat) : Int)) ∧ w' = w := by
  obtain ⟨vo, vr, us, h⟩ := hw
  obtain ⟨ao, co, ar, cr, rfl, rfl, hco, hcr, hlo, hlr⟩ := h.forms
  obtain ⟨hc0, hc1, _, _⟩ := box_cells h.box
  have HR : Hid (IsInts w (.slice ar c.roots.length cr) c.roots) := h.roots.isInts
  have HO : Hid (IsRows w (.slice ao c.outs.length co) c.outs) := h.isRows
  have HC : Hid (KMid c) := hc
  have hl12 := hc.outs12
  have hr12 := hc.roots
  have HZ : Hid (c.roots.count x = cTo c x 0) := (cTo_zero c x).symm
  have hz1 := cTo_le hc x 0 (by omega)
  clear h hc
  go_enter Tryd.func14, Tryd.ntmps14
  go_wp2_with (go_at_call 29; go_must (refine (times_any _ c.roots x _ HR.out (by omega)).mono ?_; rintro e w' ⟨rfl, hw⟩; have hw := hw.symm; subst hw; rw [HZ.out]))
  go_loop [5, 19] (fun n i => ∃ k : Nat, k ≤ c.outs.length ∧ i = .int .i64 k ∧ n = .int .i64 ((cTo c x k : Nat) : Int)) (fun _ i => c.outs.length - (intOf i).toNat)
  case atStart => exact ⟨0, by omega, rfl, rfl⟩
  case round =>
    obtain ⟨k, hk, rfl, rfl⟩ := hrel
    have hml := cTo_le HC.out x k hk
    by_cases hlt : k < c.outs.length
    · obtain ⟨b, off, rfl, hlc, hbs, au, cu, hcu, hiu, hmm, hcum⟩ := HO.out.at hlt
      have HIU : Hid (IsInts w (.slice au (rowAt c.outs k).length cu) (rowAt c.outs k)) := hiu
      have HM : Hid (cTo c x (k+1) = cTo c x k + (rowAt c.outs k).count x) := cTo_succ hlt x
      have h4 := HC.out.rows _ (rowAt_mem hlt)
      have h5 : (rowAt c.outs k).count x ≤ (rowAt c.outs k).length := List.count_le_length
      clear hiu
      generalize cTo c x k = n at *
      go_wp2_with (go_at_call 29; go_must (refine (times_any _ (rowAt c.outs k) x _ HIU.out (by omega)).mono ?_; rintro e w' ⟨rfl, hw⟩; have hw := hw.symm; subst hw))
      go_round
      case rel => exact ⟨k + 1, by omega, by go_num, by rw [HM.out]; go_num⟩
      case measure => simp [intOf]; omega
    · have HE : Hid (cTo c x k = c.count x) := by unfold Hid; rw [← cTo_last, show c.outs.length = k by omega]
      generalize cTo c x k = n at *
      go_wp2
      go_ret
      exact ⟨by rw [HE.out]; rfl, rfl⟩
set_option maxHeartbeats 1000000 in
theorem gone_any (S : Nat → Prop) (a : Nat) (c : KS) (x : Int) (w : World) (hw : CHeap w S a c) (hc : KMid c) :
    Calls Tryd.prog 26 #[.pointer (some ⟨a, 0, none⟩), .int .i64 x] w fun e w' => e = .returned (.bool (decide (c.count x = 0))) ∧ w' = w := by
  have HW : Hid (CHeap w S a c) := hw
  have HC : Hid (KMid c) := hc
  clear hw hc
  go_enter Tryd.func26, Tryd.ntmps26
  by_cases hb : c.count x = 0
  · go_wp2_with (go_at_call 14; go_must (refine (countP_any S a c x _ HW.out HC.out).mono ?_; rintro e w' ⟨rfl, hw⟩; have hw := hw.symm; subst hw; rw [hb]))
    go_ret
    exact ⟨by simp [hb], rfl⟩
  · have hn : ¬ ((c.count x : Nat) : Int) = 0 := by omega
    go_wp2_with (go_at_call 14; go_must (refine (countP_any S a c x _ HW.out HC.out).mono ?_; rintro e w' ⟨rfl, hw⟩; have hw := hw.symm; subst hw))
    go_ret
    exact ⟨by simp [hb], rfl⟩
theorem full_any (S : Nat → Prop) (a : Nat) (c : KS) (w : World) (hw : CHeap w S a c) :
    Calls Tryd.prog 25 #[.pointer (some ⟨a, 0, none⟩)] w fun e w' => e = .returned (.bool (decide (12 ≤ c.roots.length))) ∧ w' = w := by
  obtain ⟨vo, vr, us, h⟩ := hw
  obtain ⟨ao, co, ar, cr, rfl, rfl, hco, hcr, hlo, hlr⟩ := h.forms
  obtain ⟨hc0, hc1, _, _⟩ := box_cells h.box
  clear h
  go_enter Tryd.func25, Tryd.ntmps25
  go_wp2
  go_ret
  exact ⟨by simp; omega, rfl⟩
theorem newC_any (w : World) : Calls Tryd.prog 4 #[] w fun e w' => ∃ a S, e = .returned (.pointer (some ⟨a, 0, none⟩)) ∧ CHeap w' S a ⟨[], [], []⟩ ∧ (∀ k, S k → w.heap.size ≤ k) ∧ Below w.heap.size w w' := by
  go_enter Tryd.func4, Tryd.ntmps4
  go_wp2
  go_ret
  refine ⟨_, fun k => k = w.heap.size, rfl, ⟨.slice none 0 0, .slice none 0 0, [], heap_alloc_new w _, rfl, fun k hk => by rw [hk]; simp, rfl, World.ownsRow_nil _ _ _ _, fun k hk => by simp [Value.ownBlock] at hk, fun j u hj => by simp at hj, fun i j u x hi => by simp at hi, OwnI.nil _ _, fun k hk => by simp [Value.ownBlock] at hk⟩, fun k hk => by rw [hk]; omega, (Below.refl _ w).alloc (Nat.le_refl _) _⟩
end Go.Proofs.YtmibnceadciidaaDoor
