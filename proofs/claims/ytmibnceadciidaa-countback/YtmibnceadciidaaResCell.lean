/- Results of a function that lie in a block: plain laws. -/
import Derived.Test.YtmibnceadciidaaHeapI
import Derived.Test.YtmibnceadciidaaArI
import Derived.Test.YtmibnceadciidaaOrdM
namespace Go.Proofs.Ytmibnceadciidaa
open Go.RowKit Go.Sort

theorem results_tmp_cell_tmp {P : Program} {fn : Func} {p u v : Tmp} {ty : TypeId} (h : fn.results = #[.tmp u, .cell p ty, .tmp v]) (tmps : Array Value) (w : World) (g : Nat) (t : TypeId) (cs : Array Value) (fr : Nat × Nat) (d : TypeDesc)
    (hp : tmps.getD p undef = .pointer (some ⟨g, 0, none⟩)) (hg : w.heap[g]? = some (.cells cs t fr))
    (hu : P.underlying ty = some d) (hd : (match d with | .struct _ | .array _ _ => true | _ => false) = true) (hi : (P.info? ty).map (·.size) = some cs.size) :
    (results fn tmps).run P w = .ok (.tuple #[tmps.getD u undef, .agg cs, tmps.getD v undef]) w := by
  have hp' : tmps[p]?.getD undef = .pointer (some ⟨g, 0, none⟩) := by simpa using hp
  simp [results, h, hp', asAddr, run_loadVar_row w g t ty cs fr d hg hu hd hi]
theorem own_box {w : World} {base t s n g j : Nat} {v : Value} {xs : List Value} (h : w.ownsRow base t s v n xs) (u : Value) (hg : g < base) : (w.setCell ⟨g, j, none⟩ u).ownsRow base t s v n xs :=
  World.ownsRow.kept h (row := some g) ⟨rfl, rfl, rfl, by simp [World.setCell], fun i _ hi => heap_setCell_other w ⟨g, j, none⟩ i u (fun e => hi (by rw [show i = g from e]))⟩ (.inr fun e => by have := World.ownsRow.lt h g e; omega)
theorem OwnR.box {w : World} {base g j : Nat} {v : Value} {L : List (List Int)} (h : OwnR w base v L) (u : Value) (hg : g < base) : OwnR (w.setCell ⟨g, j, none⟩ u) base v L := by
  obtain ⟨us, h1, h2, h3⟩ := h
  exact ⟨us, h1, own_box h2 u hg, fun i x hi => own_box (h3 i x hi) u hg⟩
/-- Rows that lie between the box and B. -/
theorem OwnR.but {w w1 : World} {base B g : Nat} {v : Value} {L : List (List Int)} (h : OwnR w base v L) (hb : But B g w w1) (hg : g < base) (hB : w.heap.size ≤ B) : OwnR w1 base v L := by
  have key : ∀ {t s n : Nat} {u : Value} {xs : List Value}, w.ownsRow base t s u n xs → w1.ownsRow base t s u n xs := by
    intro t s n u xs ho
    refine ⟨ho.1, ?_⟩
    rcases ho.2 with h0 | ⟨b, cap, cur, hv, hB2, hb2, rest⟩
    · exact .inl h0
    · have hbs := (Array.getElem?_eq_some_iff.1 hb2).1
      exact .inr ⟨b, cap, cur, hv, hB2, by rw [hb.block b (by omega) (by omega)]; exact hb2, rest⟩
  obtain ⟨us, h1, h2, h3⟩ := h
  exact ⟨us, h1, key h2, fun j u hj => key (h3 j u hj)⟩
/-- Rows and roots, written into a result's block. -/
theorem heap_end {w0 w : World} {base g : Nat} {vo vr : Value} {X : List (List Int)} {Y : List Int} {t : TypeId} {a0 a1 : Value} (hx : w.heap[g]? = some (.cells #[a0, a1] t (0, 0))) (ho : OwnR w base vo X) (hr : OwnI w base vr Y) (hg : g < base) (h0 : w0.heap.size ≤ g) (hb : Below w0.heap.size w0 w) :
    ((w.setCell ⟨g, 0, none⟩ vo).setCell ⟨g, 1, none⟩ vr).heap[g]? = some (.cells #[vo, vr] t (0, 0)) ∧ (OwnR ((w.setCell ⟨g, 0, none⟩ vo).setCell ⟨g, 1, none⟩ vr) base vo X ∧ OwnI ((w.setCell ⟨g, 0, none⟩ vo).setCell ⟨g, 1, none⟩ vr) base vr Y) ∧ Below w0.heap.size w0 ((w.setCell ⟨g, 0, none⟩ vo).setCell ⟨g, 1, none⟩ vr) :=
  ⟨box_set1 _ (box_set0 _ hx), ⟨(ho.box vo hg).box vr hg, own_box (own_box hr vo hg) vr hg⟩, (hb.setCell h0 _).setCell h0 _⟩
end Go.Proofs.Ytmibnceadciidaa
