/- Several texts in one. -/
import Derived.Test.YtelmfccpcejdnaaDoorOwn
import Derived.Test.YtelmfccpcejdnaaDoorKeep
import Derived.Test.YtelmfccpcejdnaaDoorHeaps
import Derived.Test.YtelmfccpcejdnaaDoorOrdM
/- Cells of a row of ints of one's own whose length is known by another name. -/
namespace Go.Proofs.YtelmfccpcejdnaaDoor
open Go.RowKit Go.Sort

theorem OwnI.cellN {w : World} {base n g cap j : Nat} {l : List Int} (h : OwnI w base (.slice (some ⟨g, 0, none⟩) n cap) l) (hn : l.length = n) (hj : j < n) : w.cell? ⟨g, j, none⟩ = some (.int .i64 (l[j]?.getD 0)) := by
  subst hn
  rw [World.ownsRow.cellAt h j (by omega), List.getElem?_map, List.getElem?_eq_getElem hj]; rfl
theorem OwnI.softN {w : World} {base n g cap : Nat} {l : List Int} (h : OwnI w base (.slice (some ⟨g, 0, none⟩) n cap) l) (hn : l.length = n) (j : Nat) : w.frozen? ⟨g, j, none⟩ = false := by
  subst hn
  exact World.ownsRow.frozenAt h j

end Go.Proofs.YtelmfccpcejdnaaDoor

/- An arena of the document's (larderwickref2): two rows of one's own, of where blocks are and of their orders, or sizes. -/
namespace Go.Proofs.YtelmfccpcejdnaaDoor
open Go.RowKit Go.Sort

/-- Where blocks are that are lent, and of which orders. -/
def atsI (L : List (Nat × Nat)) : List Int := L.map fun b => (b.1 : Int)
def ordsI (L : List (Nat × Nat)) : List Int := L.map fun b => (b.2 : Int)
theorem atsI_length (L : List (Nat × Nat)) : (atsI L).length = L.length := by unfold atsI; rw [List.length_map]
theorem ordsI_length (L : List (Nat × Nat)) : (ordsI L).length = L.length := by unfold ordsI; rw [List.length_map]
theorem atsI_get {L : List (Nat × Nat)} {k : Nat} (hk : k < L.length) : (atsI L)[k]?.getD 0 = ((L[k]).1 : Int) := by
  unfold atsI
  rw [List.getElem?_map, List.getElem?_eq_getElem hk]; rfl
theorem ords_succ {L : List (Nat × Nat)} {k : Nat} (hk : k < L.length) : (ordsI L).take (k+1) = (ordsI L).take k ++ [((L[k]).2 : Int)] := by
  have h : k < (ordsI L).length := by rw [ordsI_length]; exact hk
  rw [List.take_succ_eq_append_getElem h]
  congr 2
  simp [ordsI]
theorem atsI_add (B : List (Nat × Nat)) (p k : Nat) : atsI (B ++ [(p, k)]) = atsI B ++ [(p : Int)] := by unfold atsI; rw [List.map_append]; rfl
theorem ordsI_add (B : List (Nat × Nat)) (p k : Nat) : ordsI (B ++ [(p, k)]) = ordsI B ++ [(k : Int)] := by unfold ordsI; rw [List.map_append]; rfl
theorem ordsI_get {L : List (Nat × Nat)} {k : Nat} (hk : k < L.length) : (ordsI L)[k]?.getD 0 = ((L[k]).2 : Int) := by
  unfold ordsI
  rw [List.getElem?_map, List.getElem?_eq_getElem hk]; rfl
/-- The document's arena: two rows of one's own, where blocks are that are lent, and of which orders. -/
def IsAr (w : World) (B : Nat) (v : Value) (L : List (Nat × Nat)) : Prop := ∃ va vo, v = .agg #[va, vo] ∧ OwnI w B va (atsI L) ∧ OwnI w B vo (ordsI L)
theorem IsAr.later {w w1 : World} {B : Nat} {v : Value} {L : List (Nat × Nat)} (h : IsAr w B v L) (hb : Below w.heap.size w w1) : IsAr w1 B v L := by
  obtain ⟨va, vo, rfl, h1, h2⟩ := h
  exact ⟨va, vo, rfl, h1.later hb, h2.later hb⟩
theorem IsAr.mono {w : World} {B B' : Nat} {v : Value} {L : List (Nat × Nat)} (h : IsAr w B v L) (hB : B' ≤ B) : IsAr w B' v L := by
  obtain ⟨va, vo, rfl, h1, h2⟩ := h
  exact ⟨va, vo, rfl, ownI_mono h1 hB, ownI_mono h2 hB⟩
/-- A row of one's own, opened at a place. -/
theorem own_at {w : World} {B n : Nat} {ao : Option Addr} {cap : Nat} {l : List Int} (h : OwnI w B (.slice ao n cap) l) (hn : l.length = n) {i : Nat} (hi : i < n) : ∃ g, ao = some ⟨g, 0, none⟩ ∧ g < w.heap.size ∧ n ≤ cap ∧ cap ≤ maxLen ∧ w.cell? ⟨g, i, none⟩ = some (.int .i64 (l[i]?.getD 0)) := by
  subst hn
  rcases h.2 with ⟨h1, h0⟩ | ⟨g, cap', cur, h1, _, hg, hnc, hm, _⟩
  · omega
  · simp only [Value.slice.injEq, true_and] at h1
    obtain ⟨rfl, rfl⟩ := h1
    exact ⟨g, rfl, (Array.getElem?_eq_some_iff.1 hg).1, hnc, hm, h.cellN rfl hi⟩
theorem own_ne {w : World} {base c : Nat} {v : Value} {l : List Int} {cur : Array Value} {t : TypeId} {fz : Nat × Nat} (h : OwnI w base v l) (hc : w.heap[c]? = some (.cells cur t fz)) (ht : t ≠ 3) : some c ≠ v.ownBlock := by
  intro e
  rcases h.2 with ⟨rfl, _⟩ | ⟨g, cap, cur2, rfl, _, hg, _⟩
  · cases e
  · have : c = g := by simpa [Value.ownBlock] using e
    subst this
    rw [hg] at hc
    simp at hc
    exact ht hc.2.1.symm
theorem box_set0 {W : World} {g : Nat} {t : TypeId} {a0 a1 : Value} (u : Value) (h : W.heap[g]? = some (.cells #[a0, a1] t (0, 0))) : (W.setCell ⟨g, 0, none⟩ u).heap[g]? = some (.cells #[u, a1] t (0, 0)) := by
  simp only [World.setCell, Array.getElem?_modify]
  rw [if_pos trivial, h]; rfl
theorem box_set1 {W : World} {g : Nat} {t : TypeId} {a0 a1 : Value} (u : Value) (h : W.heap[g]? = some (.cells #[a0, a1] t (0, 0))) : (W.setCell ⟨g, 1, none⟩ u).heap[g]? = some (.cells #[a0, u] t (0, 0)) := by
  simp only [World.setCell, Array.getElem?_modify]
  rw [if_pos trivial, h]; rfl
theorem box_cells {W : World} {g : Nat} {t : TypeId} {a0 a1 : Value} (h : W.heap[g]? = some (.cells #[a0, a1] t (0, 0))) : W.cell? ⟨g, 0, none⟩ = some a0 ∧ W.cell? ⟨g, 1, none⟩ = some a1 ∧ W.frozen? ⟨g, 0, none⟩ = false ∧ W.frozen? ⟨g, 1, none⟩ = false := by
  refine ⟨?_, ?_, ?_, ?_⟩
  · unfold World.cell?; rw [show W.heap[(⟨g, 0, none⟩ : Addr).block]? = _ from h]; rfl
  · unfold World.cell?; rw [show W.heap[(⟨g, 1, none⟩ : Addr).block]? = _ from h]; rfl
  · unfold World.frozen?; rw [show W.heap[(⟨g, 0, none⟩ : Addr).block]? = _ from h]; simp
  · unfold World.frozen?; rw [show W.heap[(⟨g, 1, none⟩ : Addr).block]? = _ from h]; simp
end Go.Proofs.YtelmfccpcejdnaaDoor

/- Results of a function that lie in a block: plain laws. -/
namespace Go.Proofs.YtelmfccpcejdnaaDoor
open Go.RowKit Go.Sort

theorem results_tmp_cell_tmp {P : Program} {fn : Func} {p u v : Tmp} {ty : TypeId} (h : fn.results = #[.tmp u, .cell p ty, .tmp v]) (tmps : Array Value) (w : World) (g : Nat) (t : TypeId) (cs : Array Value) (fr : Nat × Nat) (d : TypeDesc)
    (hp : tmps.getD p undef = .pointer (some ⟨g, 0, none⟩)) (hg : w.heap[g]? = some (.cells cs t fr))
    (hu : P.underlying ty = some d) (hd : (match d with | .struct _ | .array _ _ => true | _ => false) = true) (hi : (P.info? ty).map (·.size) = some cs.size) :
    (results fn tmps).run P w = .ok (.tuple #[tmps.getD u undef, .agg cs, tmps.getD v undef]) w := by
  have hp' : tmps[p]?.getD undef = .pointer (some ⟨g, 0, none⟩) := by simpa using hp
  simp [results, h, hp', asAddr, run_loadVar_row w g t ty cs fr d hg hu hd hi]
theorem own_box {w : World} {base t s n g j : Nat} {v : Value} {xs : List Value} (h : w.ownsRow base t s v n xs) (u : Value) (hg : g < base) : (w.setCell ⟨g, j, none⟩ u).ownsRow base t s v n xs :=
  World.ownsRow.kept h (row := some g) ⟨rfl, rfl, rfl, by simp [World.setCell], fun i _ hi => heap_setCell_other w ⟨g, j, none⟩ i u (fun e => hi (by rw [show i = g from e]))⟩ (.inr fun e => by have := World.ownsRow.lt h g e; omega)
theorem OwnR.box {w : World} {base g j : Nat} {v : Value} {L : List (List Int)} (h : OwnR w base v L) (u : Value) (hg : g < base) : OwnR (w.setCell ⟨g, j, none⟩ u) base v L := by
  obtain ⟨us, h1, h2, h3⟩ := h
  exact ⟨us, h1, own_box h2 u hg, fun i x hi => own_box (h3 i x hi) u hg⟩
/-- Rows that lie between the box and B. -/
theorem OwnR.but {w w1 : World} {base B g : Nat} {v : Value} {L : List (List Int)} (h : OwnR w base v L) (hb : But B g w w1) (hg : g < base) (hB : w.heap.size ≤ B) : OwnR w1 base v L := by
  have key : ∀ {t s n : Nat} {u : Value} {xs : List Value}, w.ownsRow base t s u n xs → w1.ownsRow base t s u n xs := by
    intro t s n u xs ho
    refine ⟨ho.1, ?_⟩
    rcases ho.2 with h0 | ⟨b, cap, cur, hv, hB2, hb2, rest⟩
    · exact .inl h0
    · have hbs := (Array.getElem?_eq_some_iff.1 hb2).1
      exact .inr ⟨b, cap, cur, hv, hB2, by rw [hb.block b (by omega) (by omega)]; exact hb2, rest⟩
  obtain ⟨us, h1, h2, h3⟩ := h
  exact ⟨us, h1, key h2, fun j u hj => key (h3 j u hj)⟩
/-- Rows and roots, written into a result's block. -/
theorem heap_end {w0 w : World} {base g : Nat} {vo vr : Value} {X : List (List Int)} {Y : List Int} {t : TypeId} {a0 a1 : Value} (hx : w.heap[g]? = some (.cells #[a0, a1] t (0, 0))) (ho : OwnR w base vo X) (hr : OwnI w base vr Y) (hg : g < base) (h0 : w0.heap.size ≤ g) (hb : Below w0.heap.size w0 w) :
    ((w.setCell ⟨g, 0, none⟩ vo).setCell ⟨g, 1, none⟩ vr).heap[g]? = some (.cells #[vo, vr] t (0, 0)) ∧ (OwnR ((w.setCell ⟨g, 0, none⟩ vo).setCell ⟨g, 1, none⟩ vr) base vo X ∧ OwnI ((w.setCell ⟨g, 0, none⟩ vo).setCell ⟨g, 1, none⟩ vr) base vr Y) ∧ Below w0.heap.size w0 ((w.setCell ⟨g, 0, none⟩ vo).setCell ⟨g, 1, none⟩ vr) :=
  ⟨box_set1 _ (box_set0 _ hx), ⟨(ho.box vo hg).box vr hg, own_box (own_box hr vo hg) vr hg⟩, (hb.setCell h0 _).setCell h0 _⟩
end Go.Proofs.YtelmfccpcejdnaaDoor
