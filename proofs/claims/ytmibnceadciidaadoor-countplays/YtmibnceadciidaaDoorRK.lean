/- The document's Counted (larderwickref2): plain lemmas on worlds. -/
import Derived.Test.YtmibnceadciidaaDoorCCount
import Derived.Test.YtmibnceadciidaaDoorHeapI
namespace Go.Proofs.YtmibnceadciidaaDoor
set_option maxRecDepth 100000
open Go.RowKit Go.Sort

theorem IsBools.form {w : World} {v : Value} {l : List Bool} (h : IsBools w v l) : ∃ ao cap, v = .slice ao l.length cap ∧ cap ≤ 9223372036854775807 := by
  rcases h with ⟨rfl, ao, cap, rfl, hm⟩ | ⟨b, off, cap, rfl, _, _, hm, _⟩
  · exact ⟨ao, cap, rfl, hm⟩
  · exact ⟨_, cap, rfl, hm⟩
theorem IsBools.at {w : World} {ao : Option Addr} {n cap k : Nat} {l : List Bool} (h : IsBools w (.slice ao n cap) l) (hk : k < l.length) : ∃ b off, ao = some ⟨b, off, none⟩ ∧ l.length ≤ cap ∧ b < w.heap.size ∧ w.cell? ⟨b, off + k, none⟩ = some (.bool (l[k]?.getD false)) := by
  rcases h with ⟨rfl, _⟩ | ⟨b, off, cap', e, _, hlc, _, hc⟩
  · simp at hk
  · simp only [Value.slice.injEq] at e
    obtain ⟨rfl, rfl, rfl⟩ := e
    exact ⟨b, off, rfl, hlc, World.block_lt_of_cell? w _ (hc k hk), hc k hk⟩
/-- What a Counted holds. -/
structure IsK (w : World) (vo vr vh : Value) (c : KS) : Prop where
  rows : IsRows w vo c.outs
  ints : IsInts w vr c.roots
  bools : IsBools w vh c.here
/-- .. in rows of one's own. -/
structure OwnK (S : Nat → Prop) (w : World) (B : Nat) (vo vr vh : Value) (c : KS) : Prop where
  rows : OwnX S w B vo c.outs
  ints : OwnI w B vr c.roots
  bools : OwnB w B vh c.here
  intsO : Out S vr
  boolsO : Out S vh
theorem OwnX.mono {S : Nat → Prop} {w : World} {B B' : Nat} {v : Value} {L : List (List Int)} (h : OwnX S w B v L) (hB : B' ≤ B) : OwnX S w B' v L := by
  obtain ⟨us, h1, h2, h4, h3⟩ := h
  exact ⟨us, h1, ownsRow_mono h2 hB, h4, fun j u hj => ⟨ownI_mono (h3 j u hj).1 hB, (h3 j u hj).2⟩⟩
theorem OwnX.later {S : Nat → Prop} {w w1 : World} {B : Nat} {v : Value} {L : List (List Int)} (h : OwnX S w B v L) (hb : Below w.heap.size w w1) : OwnX S w1 B v L := h.step (Stp.later S hb)
theorem OwnX.form {S : Nat → Prop} {w : World} {B : Nat} {v : Value} {L : List (List Int)} (h : OwnX S w B v L) : ∃ ao cap, v = .slice ao L.length cap := h.ownR.form
theorem out_nil {S : Nat → Prop} : Out S (.slice none 0 0) := fun k hk => by simp [Value.ownBlock] at hk
section
variable {S S' : Nat → Prop} {w w1 : World} {B B' g : Nat} {vo vr vh a0 a1 a2 : Value} {c : KS} {t : TypeId}
theorem IsK.below (h : IsK w vo vr vh c) (hb : Below w.heap.size w w1) : IsK w1 vo vr vh c := ⟨h.rows.below hb, h.ints.below hb, h.bools.below hb⟩
theorem OwnK.later (h : OwnK S w B vo vr vh c) (hb : Below w.heap.size w w1) : OwnK S w1 B vo vr vh c := ⟨h.rows.later hb, h.ints.later hb, h.bools.later hb, h.intsO, h.boolsO⟩
/-- .. and where something was done outside. -/
theorem OwnK.step (h : OwnK S w B vo vr vh c) (hs : Stp S S' w w1) : OwnK S' w1 B vo vr vh c := by
  have a := hs.row h.ints h.intsO
  have b := hs.row h.bools h.boolsO
  exact ⟨h.rows.step hs, a.1, b.1, a.2, b.2⟩
theorem OwnK.mono (h : OwnK S w B vo vr vh c) (hB : B' ≤ B) : OwnK S w B' vo vr vh c := ⟨h.rows.mono hB, ownI_mono h.ints hB, ownB_mono h.bools hB, h.intsO, h.boolsO⟩
theorem OwnK.isK (h : OwnK S w B vo vr vh c) : IsK w vo vr vh c := ⟨h.rows.ownR.isRows, h.ints.isInts, h.bools.isBools⟩
theorem IsK.forms (h : IsK w vo vr vh c) : ∃ ao co ar cr ah ch, vo = .slice ao c.outs.length co ∧ vr = .slice ar c.roots.length cr ∧ vh = .slice ah c.here.length ch ∧ co ≤ 9223372036854775807 ∧ cr ≤ 9223372036854775807 ∧ ch ≤ 9223372036854775807 := by
  obtain ⟨ao, co, rfl, hco, _⟩ := h.rows
  obtain ⟨ar, cr, rfl, hcr, _⟩ := h.ints.opened
  obtain ⟨ah, ch, rfl, hch⟩ := h.bools.form
  exact ⟨ao, co, ar, cr, ah, ch, rfl, rfl, rfl, hco, hcr, hch⟩
theorem tri_cells (h : w.heap[g]? = some (.cells #[a0, a1, a2] t (0, 0))) : w.cell? ⟨g, 0, none⟩ = some a0 ∧ w.cell? ⟨g, 1, none⟩ = some a1 ∧ w.cell? ⟨g, 2, none⟩ = some a2 ∧ w.frozen? ⟨g, 0, none⟩ = false ∧ w.frozen? ⟨g, 1, none⟩ = false ∧ w.frozen? ⟨g, 2, none⟩ = false := by
  refine ⟨?_, ?_, ?_, ?_, ?_, ?_⟩
  · unfold World.cell?; rw [show w.heap[(⟨g, 0, none⟩ : Addr).block]? = _ from h]; rfl
  · unfold World.cell?; rw [show w.heap[(⟨g, 1, none⟩ : Addr).block]? = _ from h]; rfl
  · unfold World.cell?; rw [show w.heap[(⟨g, 2, none⟩ : Addr).block]? = _ from h]; rfl
  · unfold World.frozen?; rw [show w.heap[(⟨g, 0, none⟩ : Addr).block]? = _ from h]; simp
  · unfold World.frozen?; rw [show w.heap[(⟨g, 1, none⟩ : Addr).block]? = _ from h]; simp
  · unfold World.frozen?; rw [show w.heap[(⟨g, 2, none⟩ : Addr).block]? = _ from h]; simp
theorem tri_set (u : Value) (h : w.heap[g]? = some (.cells #[a0, a1, a2] t (0, 0))) : (w.setCell ⟨g, 0, none⟩ u).heap[g]? = some (.cells #[u, a1, a2] t (0, 0)) ∧ (w.setCell ⟨g, 1, none⟩ u).heap[g]? = some (.cells #[a0, u, a2] t (0, 0)) ∧ (w.setCell ⟨g, 2, none⟩ u).heap[g]? = some (.cells #[a0, a1, u] t (0, 0)) := by
  refine ⟨?_, ?_, ?_⟩ <;> (simp only [World.setCell, Array.getElem?_modify]; rw [if_pos trivial, h]; rfl)
/-- A box whose type isn't that of the rows is written into. -/
theorem OwnX.set {j : Nat} {u v : Value} {X : List (List Int)} {cur : Array Value} {t' : TypeId} (h : OwnX S w B v X) (hg : w.heap[g]? = some (.cells cur t' (0, 0))) (h1 : 25 ≠ t') (h2 : 3 ≠ t') : OwnX S (w.setCell ⟨g, j, none⟩ u) B v X := by
  obtain ⟨us, a1, a2, a4, a3⟩ := h
  exact ⟨us, a1, own_set a2 hg h1 _, a4, fun k x hk => ⟨own_set (a3 k x hk).1 hg h2 _, (a3 k x hk).2⟩⟩
theorem OwnK.set {j : Nat} {u : Value} {cur : Array Value} (h : OwnK S w B vo vr vh c) (hg : w.heap[g]? = some (.cells cur 28 (0, 0))) : OwnK S (w.setCell ⟨g, j, none⟩ u) B vo vr vh c :=
  ⟨h.rows.set hg (by decide) (by decide), own_set h.ints hg (by decide) _, own_set h.bools hg (by decide) _, h.intsO, h.boolsO⟩
end
end Go.Proofs.YtmibnceadciidaaDoor
