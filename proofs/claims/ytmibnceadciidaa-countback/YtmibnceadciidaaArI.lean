/- An arena of the document's (larderwickref2): two rows of one's own, of where blocks are and of their orders, or sizes. -/
import Derived.Test.YtmibnceadciidaaKeep
import Derived.Test.YtmibnceadciidaaOwnCells
namespace Go.Proofs.Ytmibnceadciidaa
open Go.RowKit Go.Sort

/-- Where blocks are that are lent, and of which orders. -/
def atsI (L : List (Nat × Nat)) : List Int := L.map fun b => (b.1 : Int)
def ordsI (L : List (Nat × Nat)) : List Int := L.map fun b => (b.2 : Int)
theorem atsI_length (L : List (Nat × Nat)) : (atsI L).length = L.length := by unfold atsI; rw [List.length_map]
theorem ordsI_length (L : List (Nat × Nat)) : (ordsI L).length = L.length := by unfold ordsI; rw [List.length_map]
theorem atsI_get {L : List (Nat × Nat)} {k : Nat} (hk : k < L.length) : (atsI L)[k]?.getD 0 = ((L[k]).1 : Int) := by
  unfold atsI
  rw [List.getElem?_map, List.getElem?_eq_getElem hk]; rfl
theorem ords_succ {L : List (Nat × Nat)} {k : Nat} (hk : k < L.length) : (ordsI L).take (k+1) = (ordsI L).take k ++ [((L[k]).2 : Int)] := by
  have h : k < (ordsI L).length := by rw [ordsI_length]; exact hk
  rw [List.take_succ_eq_append_getElem h]
  congr 2
  simp [ordsI]
theorem atsI_add (B : List (Nat × Nat)) (p k : Nat) : atsI (B ++ [(p, k)]) = atsI B ++ [(p : Int)] := by unfold atsI; rw [List.map_append]; rfl
theorem ordsI_add (B : List (Nat × Nat)) (p k : Nat) : ordsI (B ++ [(p, k)]) = ordsI B ++ [(k : Int)] := by unfold ordsI; rw [List.map_append]; rfl
theorem ordsI_get {L : List (Nat × Nat)} {k : Nat} (hk : k < L.length) : (ordsI L)[k]?.getD 0 = ((L[k]).2 : Int) := by
  unfold ordsI
  rw [List.getElem?_map, List.getElem?_eq_getElem hk]; rfl
/-- The document's arena: two rows of one's own, where blocks are that are lent, and of which orders. -/
def IsAr (w : World) (B : Nat) (v : Value) (L : List (Nat × Nat)) : Prop := ∃ va vo, v = .agg #[va, vo] ∧ OwnI w B va (atsI L) ∧ OwnI w B vo (ordsI L)
theorem IsAr.later {w w1 : World} {B : Nat} {v : Value} {L : List (Nat × Nat)} (h : IsAr w B v L) (hb : Below w.heap.size w w1) : IsAr w1 B v L := by
  obtain ⟨va, vo, rfl, h1, h2⟩ := h
  exact ⟨va, vo, rfl, h1.later hb, h2.later hb⟩
theorem IsAr.mono {w : World} {B B' : Nat} {v : Value} {L : List (Nat × Nat)} (h : IsAr w B v L) (hB : B' ≤ B) : IsAr w B' v L := by
  obtain ⟨va, vo, rfl, h1, h2⟩ := h
  exact ⟨va, vo, rfl, ownI_mono h1 hB, ownI_mono h2 hB⟩
/-- A row of one's own, opened at a place. -/
theorem own_at {w : World} {B n : Nat} {ao : Option Addr} {cap : Nat} {l : List Int} (h : OwnI w B (.slice ao n cap) l) (hn : l.length = n) {i : Nat} (hi : i < n) : ∃ g, ao = some ⟨g, 0, none⟩ ∧ g < w.heap.size ∧ n ≤ cap ∧ cap ≤ maxLen ∧ w.cell? ⟨g, i, none⟩ = some (.int .i64 (l[i]?.getD 0)) := by
  subst hn
  rcases h.2 with ⟨h1, h0⟩ | ⟨g, cap', cur, h1, _, hg, hnc, hm, _⟩
  · omega
  · simp only [Value.slice.injEq, true_and] at h1
    obtain ⟨rfl, rfl⟩ := h1
    exact ⟨g, rfl, (Array.getElem?_eq_some_iff.1 hg).1, hnc, hm, h.cellN rfl hi⟩
theorem own_ne {w : World} {base c : Nat} {v : Value} {l : List Int} {cur : Array Value} {t : TypeId} {fz : Nat × Nat} (h : OwnI w base v l) (hc : w.heap[c]? = some (.cells cur t fz)) (ht : t ≠ 3) : some c ≠ v.ownBlock := by
  intro e
  rcases h.2 with ⟨rfl, _⟩ | ⟨g, cap, cur2, rfl, _, hg, _⟩
  · cases e
  · have : c = g := by simpa [Value.ownBlock] using e
    subst this
    rw [hg] at hc
    simp at hc
    exact ht hc.2.1.symm
theorem box_set0 {W : World} {g : Nat} {t : TypeId} {a0 a1 : Value} (u : Value) (h : W.heap[g]? = some (.cells #[a0, a1] t (0, 0))) : (W.setCell ⟨g, 0, none⟩ u).heap[g]? = some (.cells #[u, a1] t (0, 0)) := by
  simp only [World.setCell, Array.getElem?_modify]
  rw [if_pos trivial, h]; rfl
theorem box_set1 {W : World} {g : Nat} {t : TypeId} {a0 a1 : Value} (u : Value) (h : W.heap[g]? = some (.cells #[a0, a1] t (0, 0))) : (W.setCell ⟨g, 1, none⟩ u).heap[g]? = some (.cells #[a0, u] t (0, 0)) := by
  simp only [World.setCell, Array.getElem?_modify]
  rw [if_pos trivial, h]; rfl
theorem box_cells {W : World} {g : Nat} {t : TypeId} {a0 a1 : Value} (h : W.heap[g]? = some (.cells #[a0, a1] t (0, 0))) : W.cell? ⟨g, 0, none⟩ = some a0 ∧ W.cell? ⟨g, 1, none⟩ = some a1 ∧ W.frozen? ⟨g, 0, none⟩ = false ∧ W.frozen? ⟨g, 1, none⟩ = false := by
  refine ⟨?_, ?_, ?_, ?_⟩
  · unfold World.cell?; rw [show W.heap[(⟨g, 0, none⟩ : Addr).block]? = _ from h]; rfl
  · unfold World.cell?; rw [show W.heap[(⟨g, 1, none⟩ : Addr).block]? = _ from h]; rfl
  · unfold World.frozen?; rw [show W.heap[(⟨g, 0, none⟩ : Addr).block]? = _ from h]; simp
  · unfold World.frozen?; rw [show W.heap[(⟨g, 1, none⟩ : Addr).block]? = _ from h]; simp
end Go.Proofs.Ytmibnceadciidaa
