/- A heap that came in: rows of pointers, and roots; plain lemmas on worlds. -/
import Derived.Test.YtmibnceadciidaaDoorRowR
import Derived.Test.YtmibnceadciidaaDoorOpened
namespace Go.Proofs.YtmibnceadciidaaDoor
open Go.RowKit Go.Sort

/-- A row of rows of numbers. -/
def IsRows (w : World) (v : Value) (L : List (List Int)) : Prop :=
  ∃ ao cap, v = .slice ao L.length cap ∧ cap ≤ maxLen ∧ ∀ k, k < L.length → ∃ b off, ao = some ⟨b, off, none⟩ ∧ L.length ≤ cap ∧ b < w.heap.size ∧ ∃ u, w.cell? ⟨b, off + k, none⟩ = some u ∧ IsInts w u (rowAt L k)
theorem IsRows.below {w w' : World} {v : Value} {L : List (List Int)} (h : IsRows w v L) (hb : Below w.heap.size w w') : IsRows w' v L := by
  obtain ⟨ao, cap, rfl, hcap, ho⟩ := h
  refine ⟨ao, cap, rfl, hcap, fun k hk => ?_⟩
  obtain ⟨b, off, e, hlc, hbs, u, hu, hi⟩ := ho k hk
  exact ⟨b, off, e, hlc, Nat.lt_of_lt_of_le hbs hb.size, u, by rw [hb.cell hbs]; exact hu, hi.below hb⟩
theorem IsRows.heap {w0 w : World} {v : Value} {L : List (List Int)} (h : IsRows w0 v L) (hh : w.heap = w0.heap) : IsRows w v L := by
  obtain ⟨ao, cap, rfl, hcap, ho⟩ := h
  refine ⟨ao, cap, rfl, hcap, fun k hk => ?_⟩
  obtain ⟨b, off, e, hlc, hbs, u, hu, hi⟩ := ho k hk
  refine ⟨b, off, e, hlc, by rw [hh]; exact hbs, u, ?_, hi.heap hh⟩
  unfold World.cell? at hu ⊢
  rw [hh]; exact hu
theorem IsRows.form {w : World} {v : Value} {L : List (List Int)} (h : IsRows w v L) : ∃ ao cap, v = .slice ao L.length cap := by
  obtain ⟨ao, cap, rfl, _⟩ := h
  exact ⟨ao, cap, rfl⟩
/-- One row of them, opened. -/
theorem IsRows.at {w : World} {ao : Option Addr} {n cap k : Nat} {L : List (List Int)} (h : IsRows w (.slice ao n cap) L) (hk : k < L.length) : ∃ b off, ao = some ⟨b, off, none⟩ ∧ L.length ≤ cap ∧ b < w.heap.size ∧ ∃ au cu, w.cell? ⟨b, off + k, none⟩ = some (.slice au (rowAt L k).length cu) ∧ IsInts w (.slice au (rowAt L k).length cu) (rowAt L k) ∧ cap ≤ 9223372036854775807 ∧ cu ≤ 9223372036854775807 := by
  obtain ⟨ao', cap', e, hcap, ho⟩ := h
  simp only [Value.slice.injEq] at e
  obtain ⟨rfl, rfl, rfl⟩ := e
  obtain ⟨b, off, e, hlc, hbs, u, hu, hi⟩ := ho k hk
  obtain ⟨au, cu, rfl, hcu, _⟩ := hi.opened
  exact ⟨b, off, e, hlc, hbs, au, cu, hu, hi, hcap, hcu⟩
theorem OwnR.isRows {w : World} {base : Nat} {v : Value} {L : List (List Int)} (h : OwnR w base v L) : IsRows w v L := by
  obtain ⟨ao, cap, rfl, hlc, hcap, ho⟩ := h.opened
  refine ⟨ao, cap, rfl, hcap, fun k hk => ?_⟩
  obtain ⟨g, e, hg, u, hu, hi⟩ := ho k hk
  exact ⟨g, 0, e, hlc, hg, u, by rw [Nat.zero_add]; exact hu, hi.isInts⟩
/-- A heap: its rows, and its roots. -/
def IsHeap (w : World) (v : Value) (L : List (List Int)) (R : List Int) : Prop := ∃ vo vr, v = .agg #[vo, vr] ∧ IsRows w vo L ∧ IsInts w vr R
theorem IsHeap.below {w w' : World} {v : Value} {L : List (List Int)} {R : List Int} (h : IsHeap w v L R) (hb : Below w.heap.size w w') : IsHeap w' v L R := by
  obtain ⟨vo, vr, rfl, h1, h2⟩ := h
  exact ⟨vo, vr, rfl, h1.below hb, h2.below hb⟩
theorem IsHeap.heap {w0 w : World} {v : Value} {L : List (List Int)} {R : List Int} (h : IsHeap w0 v L R) (hh : w.heap = w0.heap) : IsHeap w v L R := by
  obtain ⟨vo, vr, rfl, h1, h2⟩ := h
  exact ⟨vo, vr, rfl, h1.heap hh, h2.heap hh⟩
/-- A heap in a box of its own. -/
structure Boxed (w w1 : World) (g : Nat) (ao : Option Addr) (co : Nat) (ar : Option Addr) (cr : Nat) (L : List (List Int)) (R : List Int) : Prop where
  below : Below w.heap.size w w1
  outs : w1.cell? ⟨g, 0, none⟩ = some (.slice ao L.length co)
  roots : w1.cell? ⟨g, 1, none⟩ = some (.slice ar R.length cr)
  rows : IsRows w1 (.slice ao L.length co) L
  ints : IsInts w1 (.slice ar R.length cr) R
  le : w.heap.size ≤ g
  lt : g < w1.heap.size
  capO : co ≤ 9223372036854775807
  capR : cr ≤ 9223372036854775807
theorem boxed {w : World} {ao ar : Option Addr} {co cr : Nat} {L : List (List Int)} {R : List Int} (h1 : IsRows w (.slice ao L.length co) L) (h2 : IsInts w (.slice ar R.length cr) R) (T : TypeId) :
    Boxed w (w.alloc (.cells #[.slice ao L.length co, .slice ar R.length cr] T)) w.heap.size ao co ar cr L R := by
  have hb : Below w.heap.size w (w.alloc (.cells #[.slice ao L.length co, .slice ar R.length cr] T)) := (Below.refl _ w).alloc (Nat.le_refl _) _
  refine ⟨hb, by simp, by simp, h1.below hb, h2.below hb, Nat.le_refl _, by simp, ?_, ?_⟩
  · obtain ⟨_, _, e, hc, _⟩ := h1
    simp only [Value.slice.injEq] at e
    obtain ⟨_, _, rfl⟩ := e
    exact hc
  · obtain ⟨_, _, e, hc, _⟩ := h2.opened
    simp only [Value.slice.injEq] at e
    obtain ⟨_, _, rfl⟩ := e
    exact hc
theorem Boxed.later {w w1 w2 : World} {g co cr : Nat} {ao ar : Option Addr} {L : List (List Int)} {R : List Int} (h : Boxed w w1 g ao co ar cr L R) (hb : Below w1.heap.size w1 w2) : Boxed w w2 g ao co ar cr L R :=
  ⟨h.below.trans (hb.mono h.below.size), by rw [hb.cell h.lt]; exact h.outs, by rw [hb.cell h.lt]; exact h.roots, h.rows.below hb, h.ints.below hb, h.le, Nat.lt_of_lt_of_le h.lt hb.size, h.capO, h.capR⟩
theorem Boxed.drewN {w w1 : World} {g co cr : Nat} {ao ar : Option Addr} {L : List (List Int)} {R : List Int} (h : Boxed w w1 g ao co ar cr L R) (n : Nat) : Boxed w (w1.drewN n) g ao co ar cr L R :=
  ⟨below_drewN h.below n, h.outs, h.roots, h.rows, h.ints, h.le, h.lt, h.capO, h.capR⟩
theorem Boxed.isHeap {w w1 : World} {g co cr : Nat} {ao ar : Option Addr} {L : List (List Int)} {R : List Int} (h : Boxed w w1 g ao co ar cr L R) : IsHeap w1 (.agg #[.slice ao L.length co, .slice ar R.length cr]) L R :=
  ⟨_, _, rfl, h.rows, h.ints⟩
/-- A heap's form. -/
theorem IsHeap.form {w : World} {v : Value} {L : List (List Int)} {R : List Int} (h : IsHeap w v L R) : ∃ ao co ar cr, v = .agg #[.slice ao L.length co, .slice ar R.length cr] ∧ IsRows w (.slice ao L.length co) L ∧ IsInts w (.slice ar R.length cr) R := by
  obtain ⟨vo, vr, rfl, h1, h2⟩ := h
  obtain ⟨ao, co, rfl⟩ := h1.form
  obtain ⟨ar, cr, rfl, _⟩ := h2.opened
  exact ⟨ao, co, ar, cr, rfl, h1, h2⟩
end Go.Proofs.YtmibnceadciidaaDoor
