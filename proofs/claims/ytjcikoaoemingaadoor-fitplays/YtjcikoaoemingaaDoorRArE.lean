/- Answers of the document's that hold an arena, written into a result's block. -/
import Derived.Test.YtjcikoaoemingaaDoorRArO
namespace Go.Proofs.YtjcikoaoemingaaDoor
open Go.RowKit Go.Maps Go.Sort

theorem results_cell2_row {P : Program} {fn : Func} {p u v : Tmp} {ty : TypeId} (h : fn.results = #[.cell p ty, .tmp u, .tmp v]) (tmps : Array Value) (w : World) (g : Nat) (t : TypeId) (cs : Array Value) (fr : Nat × Nat) (d : TypeDesc)
    (hp : tmps.getD p undef = .pointer (some ⟨g, 0, none⟩)) (hg : w.heap[g]? = some (.cells cs t fr))
    (hu : P.underlying ty = some d) (hd : (match d with | .struct _ | .array _ _ => true | _ => false) = true) (hi : (P.info? ty).map (·.size) = some cs.size) :
    (results fn tmps).run P w = .ok (.tuple #[.agg cs, tmps.getD u undef, tmps.getD v undef]) w := by
  have hp' : tmps[p]?.getD undef = .pointer (some ⟨g, 0, none⟩) := by simpa using hp
  simp [results, h, hp', asAddr, run_loadVar_row w g t ty cs fr d hg hu hd hi]
theorem results_cell1_row {P : Program} {fn : Func} {p u : Tmp} {ty : TypeId} (h : fn.results = #[.cell p ty, .tmp u]) (tmps : Array Value) (w : World) (g : Nat) (t : TypeId) (cs : Array Value) (fr : Nat × Nat) (d : TypeDesc)
    (hp : tmps.getD p undef = .pointer (some ⟨g, 0, none⟩)) (hg : w.heap[g]? = some (.cells cs t fr))
    (hu : P.underlying ty = some d) (hd : (match d with | .struct _ | .array _ _ => true | _ => false) = true) (hi : (P.info? ty).map (·.size) = some cs.size) :
    (results fn tmps).run P w = .ok (.tuple #[.agg cs, tmps.getD u undef]) w := by
  have hp' : tmps[p]?.getD undef = .pointer (some ⟨g, 0, none⟩) := by simpa using hp
  simp [results, h, hp', asAddr, run_loadVar_row w g t ty cs fr d hg hu hd hi]
/-- An answer of the document's, written into its block. -/
theorem ar_end {w W : World} {B g : Nat} {L : List (Nat × Nat)} {v1 v2 : Value} (hg : w.heap.size ≤ g) {cur : Array Value} {t : TypeId} (hc : W.heap[g]? = some (.cells cur t (0, 0))) (ht : t ≠ 3) (h : IsAr W B (.agg #[v1, v2]) L) (hb : Below w.heap.size w W) :
    IsAr ((W.setCell ⟨g, 0, none⟩ v1).setCell ⟨g, 1, none⟩ v2) B (.agg #[v1, v2]) L ∧ Below w.heap.size w ((W.setCell ⟨g, 0, none⟩ v1).setCell ⟨g, 1, none⟩ v2) := by
  obtain ⟨va, vo, e, h1, h2⟩ := h
  simp only [Value.agg.injEq, Array.mk.injEq, List.cons.injEq, and_true] at e
  obtain ⟨rfl, rfl⟩ := e
  have key : ∀ {v : Value} {l : List Int}, OwnI W B v l → OwnI ((W.setCell ⟨g, 0, none⟩ v1).setCell ⟨g, 1, none⟩ v2) B v l := by
    intro v l hv
    have ht2 : Turn g g W ((W.setCell ⟨g, 0, none⟩ v1).setCell ⟨g, 1, none⟩ v2) := (Turn.setCell W ⟨g, 0, none⟩ v1 rfl).trans (Turn.setCell _ ⟨g, 1, none⟩ v2 rfl)
    refine own_turn hv ht2 fun k hk => ?_
    have := own_ne hv hc ht
    have hne : k ≠ g := fun e => this (by rw [← e, hk])
    exact ⟨hne, hne⟩
  exact ⟨⟨v1, v2, rfl, key h1, key h2⟩, (hb.setCell hg _).setCell hg _⟩
end Go.Proofs.YtjcikoaoemingaaDoor
