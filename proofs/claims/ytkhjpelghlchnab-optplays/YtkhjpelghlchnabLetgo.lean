/- The walk of play.letGo. -/
import Derived.Test.YtkhjpelghlchnabOwn
import Derived.Test.YtkhjpelghlchnabShelf
namespace Go.Proofs.Ytkhjpelghlchnab
open Go.RowKit Go.Sort

set_option maxHeartbeats 400000 in
theorem letgo_shape (v vo : Value) (w : World) (hv : IsInts w vo []) :
    Calls Try.prog 16 #[v, vo] w fun e w' => e = .returned (.tuple #[.slice none 0 0, errV 3]) ∧ w' = w := by
  rcases hv with ⟨_, ao, cap, rfl, hcap⟩ | ⟨b, off, cap, rfl, hpos, hlc, hcap, hc⟩
  · go_enter Try.func16, Try.ntmps16
    go_wp2
    go_ret2
    exact ⟨rfl, rfl⟩
  · simp at hpos

set_option maxHeartbeats 400000 in
theorem letgo_none (g cap : Nat) (vo : Value) (l r : List Int) (o : Int) (w : World) (hv : IsInts w vo (o :: r)) (hl : IsInts w (.slice (some ⟨g, 0, none⟩) l.length cap) l) (hne : l ≠ []) (ho : o ∉ l) :
    Calls Try.prog 16 #[.slice (some ⟨g, 0, none⟩) l.length cap, vo] w fun e w' => e = .returned (.tuple #[.slice none 0 0, errV 5]) ∧ w' = w := by
  rcases hv with ⟨h0, _⟩ | ⟨b, off, capo, rfl, hpos, hlc, hcap, hc⟩
  · simp at h0
  · rcases hl with ⟨h0, _⟩ | ⟨b2, off2, cap2, hv2, hpos2, hlc2, hcap2, hc2⟩
    · exact absurd h0 hne
    · simp at hv2
      obtain ⟨⟨rfl, rfl⟩, rfl⟩ := hv2
      have hc0 : w.cell? ⟨b, off, none⟩ = some (.int .i64 o) := hc 0 hpos
      have HI : Hid (Lib.idxOf (l.take l.length) o = -1) := idx_miss ho
      have HC2 : Hid (∀ j, j < l.length → w.cell? ⟨g, 0 + j, none⟩ = some (.int .i64 (l.getD j 0))) := by
        intro j hj; rw [List.getD_eq_getElem?_getD]; exact hc2 j hj
      clear hc hc2 hne ho
      simp only [List.length_cons] at hpos hlc
      unfold maxLen at hcap hcap2
      go_enter Try.func16, Try.ntmps16
      go_wp2_with (go_at_call 18; go_must (refine (Try.slices_Index_int g 0 l.length cap l o _ (Nat.le_refl _) (by omega) HC2.out).mono ?_; rintro e w' ⟨rfl, rfl⟩; rw [HI.out]))
      go_ret2
      exact ⟨rfl, rfl⟩

set_option maxHeartbeats 400000 in
theorem letgo_hit (base g cap : Nat) (vo : Value) (l r : List Int) (o : Int) (w : World) (hv : IsInts w vo (o :: r)) (hl : OwnI w base (.slice (some ⟨g, 0, none⟩) l.length cap) l) (ho : o ∈ l) :
    Calls Try.prog 16 #[.slice (some ⟨g, 0, none⟩) l.length cap, vo] w fun e w' => e = .returned (.tuple #[.slice (some ⟨g, 0, none⟩) (l.length - 1) cap, .nilIface]) ∧ OwnI w' base (.slice (some ⟨g, 0, none⟩) (l.length - 1) cap) (l.erase o) ∧ w.grownBy w' (some g) := by
  have hne : l ≠ [] := by intro h; subst h; simp at ho
  rcases hv with ⟨h0, _⟩ | ⟨b, off, capo, rfl, hpos, hlc, hcap, hc⟩
  · simp at h0
  · have HOWN : Hid (OwnI w base (.slice (some ⟨g, 0, none⟩) l.length cap) l) := hl
    have hH := own_holds hl rfl
    rcases hl.isInts with ⟨h0, _⟩ | ⟨b2, off2, cap2, hv2, hpos2, hlc2, hcap2, hc2⟩
    · exact absurd h0 hne
    · simp at hv2
      obtain ⟨⟨rfl, rfl⟩, rfl⟩ := hv2
      have hc0 : w.cell? ⟨b, off, none⟩ = some (.int .i64 o) := hc 0 hpos
      obtain ⟨i, hi, hix, hie⟩ := idx_hit ho
      have HI : Hid (Lib.idxOf (l.take l.length) o = i) := hix
      have HE : Hid (l.take i ++ l.drop (i + 1) = l.erase o) := hie
      have HC2 : Hid (∀ j, j < l.length → w.cell? ⟨g, 0 + j, none⟩ = some (.int .i64 (l.getD j 0))) := by
        intro j hj; rw [List.getD_eq_getElem?_getD]; exact hc2 j hj
      have HH : Hid (Holds (Value.int .i64) w g 0 l.toArray) := hH
      have HO : Hid (o ∈ l) := ho
      clear hc hc2 hne ho hix hie hH hl
      simp only [List.length_cons] at hpos hlc
      unfold maxLen at hcap hcap2
      go_enter Try.func16, Try.ntmps16
      go_wp2_with (first | (go_at_call 18; refine (Try.slices_Index_int g 0 l.length cap l o _ (Nat.le_refl _) (by omega) HC2.out).mono ?_; rintro e w' ⟨rfl, rfl⟩; rw [HI.out]) | (go_at_call 14; go_must (refine (Try.slices_Delete_int g 0 cap i (i+1) l _ HH.out hlc2 (by omega) (by omega) (by omega)).mono ?_; rintro e w1 ⟨rfl, q, hw1⟩; have HD := own_drop (q := q) HOWN.out hi HE.out HO.out; rw [← hw1, show l.length - (i + 1 - i) = l.length - 1 by omega] at HD; clear hw1)))
      go_ret2
      exact ⟨rfl, HD⟩
end Go.Proofs.Ytkhjpelghlchnab
