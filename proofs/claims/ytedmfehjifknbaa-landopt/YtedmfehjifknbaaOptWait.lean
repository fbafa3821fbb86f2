/- The walks of opt.wait, of the closure that opt.Run hands on, and of opt.latest. -/
import Derived.Test.YtedmfehjifknbaaOptRunL
import Derived.Test.YtedmfehjifknbaaKeep
import Derived.Test.YtedmfehjifknbaaShelf
namespace Go.Proofs.Ytedmfehjifknbaa
open Go.RowKit Go.Sort

theorem index_wait {l : List Int} {x : Int} : (Lib.idxOf (l.take l.length) x = -1 ∧ wait l x = l.length) ∨ (Lib.idxOf (l.take l.length) x = (wait l x : Int) ∧ wait l x < l.length) := by
  by_cases h : x ∈ l
  · have hi : l.idxOf x < l.length := List.idxOf_lt_length_iff.2 h
    refine .inr ⟨?_, hi⟩
    refine Lib.idxOf_hit l l.length _ x hi (Nat.le_refl _) ?_ ?_
    · unfold wait; rw [List.getD_eq_getElem?_getD, List.getElem?_eq_getElem hi]; simp
    · intro j hj e
      have hjl : j < l.length := by unfold wait at hj; omega
      rw [List.getD_eq_getElem?_getD, List.getElem?_eq_getElem hjl] at e
      simp at e
      have := List.not_of_lt_findIdx (xs := l) (p := fun y => y == x) (i := j) hj
      simp [e] at this
  · exact .inl ⟨idx_miss h, List.idxOf_eq_length h⟩

theorem wait_le (l : List Int) (x : Int) : wait l x ≤ l.length := List.idxOf_le_length

set_option maxHeartbeats 400000 in
theorem wait_any (v : Value) (l : List Int) (x : Int) (w : World) (hv : IsInts w v l) :
    Calls Try.prog 30 #[v, .int .i64 x] w fun e w' => e = .returned (.int .i64 (wait l x)) ∧ w' = w := by
  rcases hv with ⟨rfl, ao, cap, rfl, hcap⟩ | ⟨b, off, cap, rfl, hpos, hlc, hcap, hc⟩
  · go_enter Try.func30, Try.ntmps30
    go_wp2_with (go_at_call 39; go_must (refine (Try.slices_Index_int_empty ao cap x w).mono ?_; rintro e w' ⟨rfl, hw⟩; have hw := hw.symm; subst hw))
    go_ret
    exact ⟨rfl, rfl⟩
  · have HC : Hid (∀ j, j < l.length → w.cell? ⟨b, off + j, none⟩ = some (.int .i64 (l.getD j 0))) := fun j hj => by rw [List.getD_eq_getElem?_getD]; exact hc j hj
    clear hc
    unfold maxLen at hcap
    rcases index_wait (l := l) (x := x) with ⟨h1, h2⟩ | ⟨h1, h2⟩
    · have H1 : Hid (Lib.idxOf (l.take l.length) x = -1) := h1
      have H2 : Hid (wait l x = l.length) := h2
      clear h1 h2
      go_enter Try.func30, Try.ntmps30
      go_wp2_with (go_at_call 39; go_must (refine (Try.slices_Index_int b off l.length cap l x _ (Nat.le_refl _) (by omega) HC.out).mono ?_; rintro e w' ⟨rfl, hw⟩; have hw := hw.symm; subst hw; rw [H1.out]))
      go_ret
      exact ⟨by rw [H2.out]; rfl, rfl⟩
    · have H1 : Hid (Lib.idxOf (l.take l.length) x = (wait l x : Int)) := h1
      clear h1 h2
      generalize wait l x = t at *
      go_enter Try.func30, Try.ntmps30
      go_wp2_with (go_at_call 39; go_must (refine (Try.slices_Index_int b off l.length cap l x _ (Nat.le_refl _) (by omega) HC.out).mono ?_; rintro e w' ⟨rfl, hw⟩; have hw := hw.symm; subst hw; rw [H1.out]))
      go_ret
      exact ⟨rfl, rfl⟩

set_option maxHeartbeats 400000 in
/-- The closure: how long a page waits behind request k. -/
theorem clos_any (ao : Option Addr) (cap : Nat) (l : List Int) (k : Nat) (x : Int) (R I : Nat) (w : World) (hv : IsInts w (.slice ao l.length cap) l) (hk : k < l.length) (hl : l.length ≤ 40) (hR : w.cell? ⟨R, 0, none⟩ = some (.slice ao l.length cap)) (hI : w.cell? ⟨I, 0, none⟩ = some (.int .i64 k)) :
    Calls Try.prog 29 #[.int .i64 x, .pointer (some ⟨R, 0, none⟩), .pointer (some ⟨I, 0, none⟩)] w fun e w' => e = .returned (.int .i64 (wait (l.drop (k+1)) x)) ∧ w' = w := by
  have HV : Hid (IsInts w (.slice ao l.length cap) l) := hv
  rcases hv with ⟨h0, _⟩ | ⟨b, off, cap2, hv2, hpos, hlc, hcap, _⟩
  · subst h0; simp at hk
  · simp only [Value.slice.injEq, true_and] at hv2
    obtain ⟨rfl, rfl⟩ := hv2
    unfold maxLen at hcap
    have hk1 : ((k : Int) + 1).toNat = k + 1 := by omega
    have hk2 : k + 1 ≤ l.length := by omega
    by_cases hc : cap = k + 1
    · have HD : Hid (IsInts w (.slice (some ⟨b, off, none⟩) (l.length - (k+1)) 0) (l.drop (k+1))) := by
        have := isInts_drop (ao2 := some ⟨b, off, none⟩) HV.out rfl hk2 (fun y hy hlt => by omega)
        rwa [show cap - (k + 1) = 0 by omega] at this
      go_enter Try.func29, Try.ntmps29
      go_wp2_with (go_at_call 30; fail)
      refine (wait_any _ (l.drop (k+1)) x _ HD.out).mono ?_
      rintro e w' ⟨rfl, hw⟩
      have hw := hw.symm
      subst hw
      go_wp2
      go_ret
      exact ⟨rfl, rfl⟩
    · have HD : Hid (IsInts w (.slice (some ⟨b, off + (k+1), none⟩) (l.length - (k+1)) (cap - (k+1))) (l.drop (k+1))) := isInts_drop HV.out rfl hk2 (fun y hy hlt => by cases hy; rfl)
      go_enter Try.func29, Try.ntmps29
      go_wp2_with (go_at_call 30; fail)
      refine (wait_any _ (l.drop (k+1)) x _ HD.out).mono ?_
      rintro e w' ⟨rfl, hw⟩
      have hw := hw.symm
      subst hw
      go_wp2
      go_ret
      exact ⟨rfl, rfl⟩

set_option maxHeartbeats 1000000 in
theorem latest_any (vh : Value) (h : List Int) (ao : Option Addr) (cap : Nat) (l : List Int) (k : Nat) (R I : Nat) (w : World) (hh : IsInts w vh h) (h0 : 0 < h.length) (h8 : h.length ≤ 8) (hv : IsInts w (.slice ao l.length cap) l) (hk : k < l.length) (hl : l.length ≤ 40) (hR : w.cell? ⟨R, 0, none⟩ = some (.slice ao l.length cap)) (hI : w.cell? ⟨I, 0, none⟩ = some (.int .i64 k)) :
    Calls Try.prog 28 #[vh, .func (.func 29) #[] #[.pointer (some ⟨R, 0, none⟩), .pointer (some ⟨I, 0, none⟩)]] w fun e w' => (∃ a : Nat, e = .returned (.int .i64 a) ∧ ∃ t : Int, Lat (wait (l.drop (k+1))) h h.length a t) ∧ w' = w := by
  rcases hh with ⟨rfl, _⟩ | ⟨b, off, cap2, rfl, _, hlc, hcap, hc⟩
  · simp at h0
  have HC : Hid (∀ j, j < h.length → w.cell? ⟨b, off + j, none⟩ = some (.int .i64 (h[j]?.getD 0))) := hc
  have HV : Hid (IsInts w (.slice ao l.length cap) l) := hv
  have HR : Hid (w.cell? ⟨R, 0, none⟩ = some (.slice ao l.length cap)) := hR
  have HIC : Hid (w.cell? ⟨I, 0, none⟩ = some (.int .i64 k)) := hI
  have HW : Hid (∀ x, wait (l.drop (k+1)) x ≤ 40) := fun x => by have := wait_le (l.drop (k+1)) x; rw [List.length_drop] at this; omega
  generalize hf : wait (l.drop (k+1)) = f at *
  have HF : Hid (wait (l.drop (k+1)) = f) := hf
  clear hc hv hR hI hf
  unfold maxLen at hcap
  go_enter Try.func28, Try.ntmps28
  go_wp2
  go_loop [5, 6, 7, 8, 9, 12] (fun vf vt _ _ _ i => ∃ (m a : Nat) (t : Int), m ≤ h.length ∧ a ≤ m ∧ i = .int .i64 m ∧ vf = .int .i64 a ∧ vt = .int .i64 t ∧ -1 ≤ t ∧ t ≤ 40 ∧ Hid (Lat f h m a t)) (fun _ _ _ _ _ i => h.length - (intOf i).toNat)
  case atStart => exact ⟨0, 0, -1, by omega, by omega, rfl, rfl, rfl, by omega, by omega, lat_start f h⟩
  case round =>
    obtain ⟨m, a, t, hm, ham, rfl, rfl, rfl, ht1, ht2, HL⟩ := hrel
    by_cases hlt : m < h.length
    · have hck := HC.out m hlt
      have HT : Hid (f (h[m]?.getD 0) ≤ 40) := HW.out _
      have HG1 : Hid (t < f (h[m]?.getD 0) → Lat f h (m+1) m (f (h[m]?.getD 0))) := fun hx => lat_more HL.out hx
      have HG2 : Hid (¬ t < f (h[m]?.getD 0) → Lat f h (m+1) a t) := fun hx => lat_same HL.out hx
      generalize h[m]?.getD 0 = p at *
      have HP : Hid (wait (l.drop (k+1)) p = f p) := by unfold Hid; rw [HF.out]
      generalize hd : f p = d at *
      have hd40 : d ≤ 40 := HT.out
      clear hd
      by_cases hmore : t < (d : Int)
      · have HN : Hid (Lat f h (m+1) m d) := HG1.out hmore
        go_wp2_with (go_at_call 29; go_must (refine (clos_any ao cap l k p R I _ HV.out hk hl HR.out HIC.out).mono ?_; rintro e w' ⟨rfl, hw⟩; have hw := hw.symm; subst hw; rw [HP.out]))
        go_round
        case rel => exact ⟨m + 1, m, d, by omega, by omega, by go_num, rfl, rfl, by omega, by omega, HN⟩
        case measure => simp [intOf]; omega
      · have HN : Hid (Lat f h (m+1) a t) := HG2.out hmore
        go_wp2_with (go_at_call 29; go_must (refine (clos_any ao cap l k p R I _ HV.out hk hl HR.out HIC.out).mono ?_; rintro e w' ⟨rfl, hw⟩; have hw := hw.symm; subst hw; rw [HP.out]))
        go_round
        case rel => exact ⟨m + 1, a, t, by omega, by omega, by go_num, rfl, rfl, by omega, by omega, HN⟩
        case measure => simp [intOf]; omega
    · have hml : m = h.length := by omega
      have HN : Hid (Lat f h h.length a t) := by rw [← hml]; exact HL
      clear HL hml
      go_wp2
      go_ret
      exact ⟨⟨a, rfl, t, HN.out⟩, rfl⟩
end Go.Proofs.Ytedmfehjifknbaa
