/- The walk of graph.Check. -/
import Derived.Test.YtmibnceadciidaaHeapI
import Derived.Test.YtmibnceadciidaaLists
import Derived.Deep.QuietTactic
import Derived.Deep.RegionWith
namespace Go.Proofs.Ytmibnceadciidaa
set_option maxRecDepth 100000
open Go.RowKit Go.Sort

theorem any_nextN {f : Int → Bool} {l : List Int} {k : Nat} (h : k < l.length) (h0 : (l.take k).any f = false) (hb : f (l[k]?.getD 0) = false) : (l.take (k+1)).any f = false := by
  rw [List.take_succ_eq_append_getElem h, List.any_append, h0]
  simp [List.getElem?_eq_getElem h] at hb ⊢
  exact hb
theorem any_hereN {f : Int → Bool} {l : List Int} {k : Nat} (h : k < l.length) (hb : f (l[k]?.getD 0) = true) : l.any f = true := by
  rw [List.any_eq_true]
  exact ⟨l[k], List.getElem_mem h, by simpa [List.getElem?_eq_getElem h] using hb⟩
theorem none_any (x : Int) (n g : Nat) (w : World) (hc : w.cell? ⟨g, 0, none⟩ = some (.int .i64 (n : Nat))) :
    Calls Try.prog 35 #[.int .i64 x, .pointer (some ⟨g, 0, none⟩)] w fun e w' => e = .returned (.bool (badN n x)) ∧ w' = w := by
  rcases (by omega : x < 0 ∨ (0 ≤ x ∧ x < n) ∨ (0 ≤ x ∧ (n : Int) ≤ x)) with h | ⟨h1, h2⟩ | ⟨h1, h2⟩
  · have HB : Hid (badN n x = true) := by unfold Hid badN; rw [decide_eq_true h]; rfl
    go_enter Try.func35, Try.ntmps35
    go_wp2
    go_ret
    exact ⟨by rw [HB.out]; rfl, rfl⟩
  · go_enter Try.func35, Try.ntmps35
    go_wp2
    go_ret
    exact ⟨rfl, rfl⟩
  · have HB : Hid (badN n x = true) := by unfold Hid badN; rw [decide_eq_true h2, Bool.or_true]
    go_enter Try.func35, Try.ntmps35
    go_wp2
    go_ret
    exact ⟨by rw [HB.out]; rfl, rfl⟩
set_option maxHeartbeats 1000000 in
theorem gindexf_any (v : Value) (l : List Int) (n g : Nat) (w : World) (hl : l.length ≤ 12) (hv : IsInts w v l) (hc : w.cell? ⟨g, 0, none⟩ = some (.int .i64 (n : Nat))) :
    Calls Try.prog 40 #[v, .func (.func 35) #[] #[.pointer (some ⟨g, 0, none⟩)]] w fun e w' => ∃ i : Int, e = .returned (.int .i64 i) ∧ decide (i ≥ 0) = l.any (badN n) ∧ w' = w := by
  obtain ⟨ao, cap, rfl, hcap, ho⟩ := hv.opened
  have HO : Hid (∀ k, k < l.length → ∃ b off, ao = some ⟨b, off, none⟩ ∧ l.length ≤ cap ∧ b < w.heap.size ∧ ∀ j, j < l.length → w.cell? ⟨b, off + j, none⟩ = some (.int .i64 (l[j]?.getD 0))) := ho
  have HC : Hid (w.cell? ⟨g, 0, none⟩ = some (.int .i64 (n : Nat))) := hc
  clear ho hv hc
  unfold maxLen at hcap
  go_enter Try.func40, Try.ntmps40
  go_wp2
  go_loop [4, 8] (fun _ i => ∃ k : Nat, k ≤ l.length ∧ i = .int .i64 k ∧ Hid ((l.take k).any (badN n) = false)) (fun _ i => l.length - (intOf i).toNat)
  case atStart => exact ⟨0, by omega, rfl, by simp [Hid]⟩
  case round =>
    obtain ⟨k, hk, rfl, HB⟩ := hrel
    by_cases hlt : k < l.length
    · obtain ⟨b, off, rfl, hlc, _, hcell⟩ := HO.out k hlt
      have hck := hcell k hlt
      clear hcell
      generalize hp : l[k]?.getD 0 = t at *
      have HP : Hid (l[k]?.getD 0 = t) := hp
      clear hp
      cases hb : badN n t with
      | true =>
        have HBT : Hid (badN n t = true) := hb
        clear hb
        go_wp2_with (go_at_call 35; go_must (refine (none_any t n g _ HC.out).mono ?_; rintro e w' ⟨rfl, hw⟩; have hw := hw.symm; subst hw; rw [HBT.out]))
        go_ret
        exact ⟨_, rfl, by rw [any_hereN hlt (by rw [HP.out]; exact HBT.out)]; simp, rfl⟩
      | false =>
        have HBT : Hid (badN n t = false) := hb
        clear hb
        go_wp2_with (go_at_call 35; go_must (refine (none_any t n g _ HC.out).mono ?_; rintro e w' ⟨rfl, hw⟩; have hw := hw.symm; subst hw; rw [HBT.out]))
        go_round
        case rel => exact ⟨k + 1, by omega, by go_num, any_nextN hlt HB.out (by rw [HP.out]; exact HBT.out)⟩
        case measure => simp [intOf]; omega
    · have hany : l.any (badN n) = false := by have := HB.out; rwa [List.take_of_length_le (by omega)] at this
      have HA : Hid (l.any (badN n) = false) := hany
      clear hany HB
      go_wp2
      go_ret
      exact ⟨_, rfl, by rw [HA.out]; rfl, rfl⟩
theorem gcontains_any (v : Value) (l : List Int) (n g : Nat) (w : World) (hl : l.length ≤ 12) (hv : IsInts w v l) (hc : w.cell? ⟨g, 0, none⟩ = some (.int .i64 (n : Nat))) :
    Calls Try.prog 36 #[v, .func (.func 35) #[] #[.pointer (some ⟨g, 0, none⟩)]] w fun e w' => e = .returned (.bool (l.any (badN n))) ∧ w' = w := by
  have HV : Hid (IsInts w v l) := hv
  have HC : Hid (w.cell? ⟨g, 0, none⟩ = some (.int .i64 (n : Nat))) := hc
  obtain ⟨ao, cap, rfl, _⟩ := hv.opened
  clear hv hc
  go_enter Try.func36, Try.ntmps36
  go_wp2_with (go_at_call 40; go_must (refine (gindexf_any _ l n g _ hl HV.out HC.out).mono ?_; rintro e w' ⟨i, rfl, hi, hw⟩; have hw := hw.symm; subst hw))
  go_ret
  exact ⟨by rw [← hi]; rfl, rfl⟩

theorem errV_one : errV 1 = .iface 54 (.int .i64 1) := rfl
theorem errV_four : errV 4 = .iface 54 (.int .i64 4) := rfl
set_option maxHeartbeats 2000000 in
theorem gcheck_any (v : Value) (L : List (List Int)) (R : List Int) (w : World) (hv : IsHeap w v L R) :
    Calls Try.prog 28 #[v] w fun e w' => e = .returned (errV (chkH L R)) ∧ Below w.heap.size w w' := by
  obtain ⟨ao, co, ar, cr, rfl, h1, h2⟩ := hv.form
  have HBX : Hid (Boxed w (w.alloc (.cells #[.slice ao L.length co, .slice ar R.length cr] 28)) w.heap.size ao co ar cr L R) := boxed h1 h2 _
  have hd0 : (w.alloc (.cells #[.slice ao L.length co, .slice ar R.length cr] 28)).cell? ⟨w.heap.size, 0, none⟩ = some (.slice ao L.length co) := HBX.out.outs
  have hd1 : (w.alloc (.cells #[.slice ao L.length co, .slice ar R.length cr] 28)).cell? ⟨w.heap.size, 1, none⟩ = some (.slice ar R.length cr) := HBX.out.roots
  have hcO := HBX.out.capO
  have hcR := HBX.out.capR
  have HB2 : Hid (Boxed w ((w.alloc (.cells #[.slice ao L.length co, .slice ar R.length cr] 28)).alloc (.cells #[.int .i64 L.length] 3)) w.heap.size ao co ar cr L R) :=
    HBX.out.later ((Below.refl _ _).alloc (Nat.le_refl _) _)
  have HN2 : Hid (((w.alloc (.cells #[.slice ao L.length co, .slice ar R.length cr] 28)).alloc (.cells #[.int .i64 L.length] 3)).cell? ⟨w.heap.size + 1, 0, none⟩ = some (.int .i64 (L.length : Nat))) := by
    unfold Hid
    rw [show w.heap.size + 1 = (w.alloc (.cells #[.slice ao L.length co, .slice ar R.length cr] 28)).heap.size by simp]
    simp
  have hl0 : (L.length : Int) ≤ 9223372036854775807 := by
    by_cases h : 0 < L.length
    · obtain ⟨_, _, _, hlc, _, _, _, _, _, hm, _⟩ := h1.at h
      omega
    · omega
  clear hv h1 h2
  by_cases h12 : 12 < L.length
  · have HC : Hid (chkH L R = 4) := by unfold Hid chkH; rw [if_pos (.inl h12)]
    have h12' : 12 < (L.length : Int) := by omega
    go_enter Try.func28, Try.ntmps28
    go_wp2
    go_ret
    exact ⟨by rw [HC.out]; rfl, HB2.out.below⟩
  have h12' : ¬ 12 < (L.length : Int) := by omega
  by_cases r12 : 12 < R.length
  · have HC : Hid (chkH L R = 4) := by unfold Hid chkH; rw [if_pos (.inr r12)]
    have r12' : 12 < (R.length : Int) := by omega
    go_enter Try.func28, Try.ntmps28
    go_wp2
    go_ret
    exact ⟨by rw [HC.out]; rfl, HB2.out.below⟩
  have r12' : ¬ 12 < (R.length : Int) := by omega
  have HCK : Hid (chkH L R = if R.any (badN L.length) then 1 else hRows L.length L) := by unfold Hid chkH; rw [if_neg (by omega)]
  cases hrb : R.any (badN L.length) with
  | true =>
    have HRB : Hid (R.any (badN L.length) = true) := hrb
    clear hrb
    go_enter Try.func28, Try.ntmps28
    go_wp2_with (go_at_call 36; go_must (refine (gcontains_any _ R L.length (w.heap.size + 1) _ (by omega) HB2.out.ints HN2.out).mono ?_; rintro e w' ⟨rfl, hw⟩; have hw := hw.symm; subst hw; rw [HRB.out]))
    go_ret
    exact ⟨by rw [HCK.out, HRB.out]; rfl, HB2.out.below⟩
  | false =>
    have HRB : Hid (R.any (badN L.length) = false) := hrb
    clear hrb
    go_enter Try.func28, Try.ntmps28
    go_wp2_with (go_at_call 36; go_must (refine (gcontains_any _ R L.length (w.heap.size + 1) _ (by omega) HB2.out.ints HN2.out).mono ?_; rintro e w' ⟨rfl, hw⟩; have hw := hw.symm; subst hw; rw [HRB.out]))
    clear hd0 hd1 HBX
    generalize (w.alloc (.cells #[.slice ao L.length co, .slice ar R.length cr] 28)).alloc (.cells #[.int .i64 L.length] 3) = W at *
    go_loop [2, 6, 28] (fun r _ i => ∃ k : Nat, k ≤ L.length ∧ i = .int .i64 k ∧ r = .nilIface ∧ Hid (hRows L.length (L.take k) = 0)) (fun _ _ i => L.length - (intOf i).toNat)
    case atStart => exact ⟨0, by omega, rfl, rfl, by simp [Hid, hRows]⟩
    case round =>
      obtain ⟨k, hk, rfl, rfl, HA⟩ := hrel
      by_cases hlt : k < L.length
      · obtain ⟨b, off, rfl, hlc, hbs, au, cu, hcu, hiu, hm, hcum⟩ := HB2.out.rows.at hlt
        have HIU : Hid (IsInts W (.slice au (rowAt L k).length cu) (rowAt L k)) := hiu
        clear hiu hbs
        have hlt' : (k : Int) < (L.length : Int) := by omega
        have HRW : Hid (rowAt L k = L[k]?.getD []) := rfl
        by_cases h4 : 4 < (rowAt L k).length
        · have h4' : 4 < ((rowAt L k).length : Int) := by omega
          have HC : Hid (hRows L.length L = 4) := by
            have hr : hRow L.length (L[k]?.getD []) = 4 := by unfold hRow; rw [if_pos (by rw [← HRW.out]; exact h4)]
            unfold Hid
            rw [hRows_here hlt HA.out (by rw [hr]; decide), hr]
          go_wp2
          go_ret
          exact ⟨by rw [HCK.out, HRB.out, if_neg (by decide), HC.out]; rfl, HB2.out.below⟩
        · have h4' : ¬ 4 < ((rowAt L k).length : Int) := by omega
          cases hb : (rowAt L k).any (badN L.length) with
          | true =>
            have HBB : Hid ((rowAt L k).any (badN L.length) = true) := hb
            clear hb
            have HC : Hid (hRows L.length L = 1) := by
              have hr : hRow L.length (L[k]?.getD []) = 1 := by unfold hRow; rw [← HRW.out, if_neg h4, HBB.out]; rfl
              unfold Hid
              rw [hRows_here hlt HA.out (by rw [hr]; decide), hr]
            go_wp2_with (go_at_call 36; go_must (refine (gcontains_any _ (rowAt L k) L.length (w.heap.size + 1) _ (by omega) HIU.out HN2.out).mono ?_; rintro e w' ⟨rfl, hw⟩; have hw := hw.symm; subst hw; rw [HBB.out]))
            go_ret
            exact ⟨by rw [HCK.out, HRB.out, if_neg (by decide), HC.out]; rfl, HB2.out.below⟩
          | false =>
            have HBB : Hid ((rowAt L k).any (badN L.length) = false) := hb
            clear hb
            have HC : Hid (hRows L.length (L.take (k+1)) = 0) := hRows_next hlt HA.out (by unfold hRow; rw [← HRW.out, if_neg h4, HBB.out]; rfl)
            go_wp2_with (go_at_call 36; go_must (refine (gcontains_any _ (rowAt L k) L.length (w.heap.size + 1) _ (by omega) HIU.out HN2.out).mono ?_; rintro e w' ⟨rfl, hw⟩; have hw := hw.symm; subst hw; rw [HBB.out]))
            go_round
            case rel => exact ⟨k + 1, by omega, by go_num, rfl, HC⟩
            case measure => simp [intOf]; omega
      · have hlt' : ¬ (k : Int) < (L.length : Int) := by omega
        have HC : Hid (hRows L.length L = 0) := by have := HA.out; rwa [List.take_of_length_le (by omega)] at this
        go_wp2
        go_ret
        exact ⟨by rw [HCK.out, HRB.out, if_neg (by decide), HC.out]; rfl, HB2.out.below⟩
theorem gcheck_is {v : Value} {L : List (List Int)} {R : List Int} {n : Nat} {w0 : World} (hv : IsHeap w0 v L R) (hn : chkH L R = n) (w : World) (hh : w.heap = w0.heap) :
    Calls Try.prog 28 #[v] w fun e w' => e = .returned (errV n) ∧ Below w.heap.size w w' := by
  subst hn; exact gcheck_any v L R w (hv.heap hh)
end Go.Proofs.Ytmibnceadciidaa
