/- What came last, cut out of what came: the shapes of came[from:], and the walk of Has on it. -/
import Derived.Test.YtmkpjhopjghdlaaQueue
import Derived.Test.YtmkpjhopjghdlaaHas
namespace Go.Proofs.Ytmkpjhopjghdlaa
open Go.RowKit Go.Sort

theorem has_is {v : Value} {l : List Int} {x : Int} {r : Bool} {w0 : World} (hv : IsInts w0 v l) (hr : l.contains x = r) (w : World) (hh : w.heap = w0.heap) :
    Calls Try.prog 6 #[v, .int .i64 x] w fun e w' => e = .returned (.bool r) ∧ w' = w := by
  have := has_any v l x w (hv.heap hh)
  rwa [hr] at this

/-- The three shapes of what came: nothing yet; fewer than slots; more than slots. -/
theorem tail_cases {w : World} {base s : Nat} {v : Value} {c : List Int} (hs : 1 ≤ s) (h : OwnI w base v c) (hn : c = [] → v = .slice none 0 0) :
    (v = .slice none 0 0 ∧ c = []) ∨
    (∃ g cap m, v = .slice (some ⟨g, 0, none⟩) m cap ∧ c.length = m ∧ 1 ≤ m ∧ m < s ∧ m ≤ cap ∧ cap ≤ maxLen ∧ IsInts w (.slice (some ⟨g, 0, none⟩) m cap) (lastn s c)) ∨
    (∃ g cap m a, v = .slice (some ⟨g, 0, none⟩) m cap ∧ c.length = m ∧ 1 ≤ m ∧ a + s = m ∧ m ≤ cap ∧ cap ≤ maxLen ∧ IsInts w (.slice (some ⟨g, a, none⟩) (m - a) (cap - a)) (lastn s c)) := by
  by_cases h0 : c = []
  · exact .inl ⟨hn h0, h0⟩
  · have hI := h.isInts
    obtain ⟨g, cap, cur, rfl, _, _, _, hgn, hgm, _, _⟩ := h.block h0
    have hl := List.length_pos_iff.2 h0
    by_cases hlt : c.length < s
    · refine .inr (.inl ⟨g, cap, c.length, rfl, rfl, hl, hlt, hgn, hgm, ?_⟩)
      unfold lastn
      rw [show c.length - s = 0 by omega, List.drop_zero]
      exact hI
    · refine .inr (.inr ⟨g, cap, c.length, c.length - s, rfl, rfl, hl, by omega, hgn, hgm, ?_⟩)
      refine isInts_drop hI rfl (by omega) ?_
      intro x hx _
      simp at hx
      subst hx
      simp
end Go.Proofs.Ytmkpjhopjghdlaa
