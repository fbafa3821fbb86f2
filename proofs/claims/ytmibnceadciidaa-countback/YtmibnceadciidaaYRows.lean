/- Rows of numbers of one's own beside an order in a box: plain lemmas on worlds. -/
import Derived.Test.YtmibnceadciidaaOrdA
import Derived.Test.YtmibnceadciidaaResCell
namespace Go.Proofs.Ytmibnceadciidaa
set_option maxRecDepth 100000
open Go.RowKit Go.Sort

/-- A slice of slices of numbers of one's own, none of which lies in the order's block. -/
def RowsA (w : World) (base : Nat) (vo v : Value) (X : List (List Int)) : Prop :=
  ∃ us : List Value, us.length = X.length ∧ w.ownsRow base 26 1 v X.length us ∧ ∀ j u, us[j]? = some u → OwnI w base u (rowAt X j) ∧ Apart u vo
section
variable {B bo base : Nat} {A : List Int} {vo vo' v v' u : Value} {w w1 : World} {X : List (List Int)}
theorem rowsA_nil (w : World) (base : Nat) (vo : Value) : RowsA w base vo (.slice none 0 0) [] := ⟨[], rfl, World.ownsRow_nil _ _ _ _, fun j u h => by simp at h⟩
theorem RowsA.ownR (h : RowsA w base vo v X) : OwnR w base v X := by
  obtain ⟨us, h1, h2, h3⟩ := h
  exact ⟨us, h1, h2, fun j u hj => (h3 j u hj).1⟩
theorem RowsA.marks (h : RowsA w base vo v X) (hm : Marks bo vo vo' w w1) (hb : bo < base) (ho : OwnI w B vo A) : RowsA w1 base vo' v X := by
  obtain ⟨us, h1, h2, h3⟩ := h
  refine ⟨us, h1, (hm.row h2 hb (apart_type h2 ho (by decide))).1, fun j u hj => ?_⟩
  exact hm.row (h3 j u hj).1 hb (h3 j u hj).2
theorem RowsA.append {r : List Int} {us : List Value} {o : Obj} (hl : us.length = X.length) (h2 : w.ownsRow base 26 1 v X.length us) (h3 : ∀ j u, us[j]? = some u → OwnI w base u (rowAt X j) ∧ Apart u vo) (hu : OwnI w base u r) (hu2 : Apart u vo)
    (ha : w1.ownsRow base 26 1 v' (X.length + 1) (us ++ [u])) (hg : (w.alloc o).grownBy w1 v.ownBlock) : RowsA w1 base vo v' (X ++ [r]) := by
  refine ⟨us ++ [u], by simp [hl], by rw [List.length_append]; exact ha, fun j x hj => ?_⟩
  have h2a : (w.alloc o).ownsRow base 26 1 v X.length us := World.ownsRow.alloc h2 o
  have key : ∀ {x : Value} {l : List Int}, OwnI w base x l → OwnI w1 base x l := fun {x l} hx => by
    have hxa : OwnI (w.alloc o) base x l := World.ownsRow.alloc hx o
    exact OwnI.kept hxa hg (apart_ri h2a hxa)
  unfold rowAt
  by_cases hjl : j < us.length
  · rw [List.getElem?_append_left hjl] at hj
    rw [List.getElem?_append_left (by omega)]
    exact ⟨key (h3 j x hj).1, (h3 j x hj).2⟩
  · rw [List.getElem?_append_right (by omega)] at hj
    have hj0 : j - us.length = 0 := by
      have := (List.getElem?_eq_some_iff.1 hj).1
      simp at this; omega
    rw [hj0] at hj
    have hxu : u = x := by simpa using hj
    subst hxu
    rw [List.getElem?_append_right (by omega), show j - X.length = 0 by omega]
    exact ⟨key hu, hu2⟩
theorem grown_set (w : World) (g j : Nat) (x : Value) : w.grownBy (w.setCell ⟨g, j, none⟩ x) (some g) := ⟨rfl, rfl, rfl, by simp [World.setCell], fun i _ hi => heap_setCell_other w ⟨g, j, none⟩ i x (fun e => hi (by rw [show i = g from e]))⟩
/-- A cell of a box of another type is written. -/
theorem own_set {t t' s n g j : Nat} {xs : List Value} {cs : Array Value} {fr : Nat × Nat} (h : w.ownsRow base t s u n xs) (hg : w.heap[g]? = some (.cells cs t' fr)) (ht : t ≠ t') (x : Value) : (w.setCell ⟨g, j, none⟩ x).ownsRow base t s u n xs :=
  World.ownsRow.kept h (grown_set w g j x) (.inr (own_not h hg ht))
theorem RowsA.set {g j : Nat} {t' : TypeId} {cs : Array Value} {fr : Nat × Nat} (h : RowsA w base vo v X) (hg : w.heap[g]? = some (.cells cs t' fr)) (h1 : 26 ≠ t') (h2 : 3 ≠ t') (x : Value) : RowsA (w.setCell ⟨g, j, none⟩ x) base vo v X := by
  obtain ⟨us, a1, a2, a3⟩ := h
  exact ⟨us, a1, own_set a2 hg h1 x, fun j u hj => ⟨own_set (a3 j u hj).1 hg h2 x, (a3 j u hj).2⟩⟩
theorem Ord.set {g j : Nat} {t' : TypeId} {cs : Array Value} {fr : Nat × Nat} (h : Ord w B bo A vo) (hg : w.heap[g]? = some (.cells cs t' fr)) (h2 : 3 ≠ t') (hn : g ≠ bo) (x : Value) : Ord (w.setCell ⟨g, j, none⟩ x) B bo A vo :=
  h.other (grown_set w g j x) (fun e => hn (Option.some.inj e)) (.inr (own_not h.own hg h2))
theorem But.setB {g j : Nat} (h : B ≤ g) (w : World) (x : Value) : But B bo w (w.setCell ⟨g, j, none⟩ x) := ⟨rfl, rfl, rfl, by simp [World.setCell], fun i hi _ => heap_setCell_other w ⟨g, j, none⟩ i x (fun e => by have e : i = g := e; omega)⟩
/-- What a call that turns the order leaves. -/
theorem copy_mid {g : Nat} {A2 Y r : List Int} {u0 : Value} (hX : RowsA w B vo v X) (ho : Ord w B bo A2 vo) (hY : OwnI w B u0 Y) (hYa : Apart u0 vo) (hg : w.heap[g]? = some (.cells #[v, u0] 28 (0, 0))) (hgB : B ≤ g) (hm : Marks bo vo vo' w w1) (hu : OwnI w1 w.heap.size u r) :
    RowsA w1 B vo' v X ∧ OwnI w1 B u0 Y ∧ Apart u0 vo' ∧ w1.heap[g]? = some (.cells #[v, u0] 28 (0, 0)) ∧ OwnI w1 B u r ∧ But B bo w w1 := by
  have hl := ho.lt
  have hy := hm.row hY ho.lt hYa
  exact ⟨hX.marks hm ho.lt ho.own, hy.1, hy.2, (hm.block g (Array.getElem?_eq_some_iff.1 hg).1 (by omega) (own_not ho.own hg (by decide))).trans hg, ownI_mono hu ho.le, hm.but ho⟩
/-- .. and what an append to the rows, and a store into the box, leave. -/
theorem copy_end {g : Nat} {A3 Y r : List Int} {u0 : Value} {us : List Value} {o : Obj} (ho : Ord w B bo A3 vo) (hY : OwnI w B u0 Y) (hYa : Apart u0 vo) (hg : w.heap[g]? = some (.cells #[v, u0] 28 (0, 0))) (hgB : B ≤ g)
    (hl : us.length = X.length) (h2 : w.ownsRow B 26 1 v X.length us) (h3 : ∀ j u, us[j]? = some u → OwnI w B u (rowAt X j) ∧ Apart u vo) (hu : OwnI w B u r) (hu2 : Apart u vo)
    (ha : w1.ownsRow B 26 1 v' (X.length + 1) (us ++ [u])) (hgr : (w.alloc o).grownBy w1 v.ownBlock) (hat : v'.ownBlock = v.ownBlock ∨ v'.ownBlock = some (w.alloc o).heap.size) :
    w1.heap[g]? = some (.cells #[v, u0] 28 (0, 0)) ∧ Ord (w1.setCell ⟨g, 0, none⟩ v') B bo A3 vo ∧ RowsA (w1.setCell ⟨g, 0, none⟩ v') B vo v' (X ++ [r]) ∧ (OwnI (w1.setCell ⟨g, 0, none⟩ v') B u0 Y ∧ Apart u0 vo) ∧ (w1.setCell ⟨g, 0, none⟩ v').heap[g]? = some (.cells #[v', u0] 28 (0, 0)) ∧ But B bo w (w1.setCell ⟨g, 0, none⟩ v') := by
  have hlt := ho.lt
  have hle := ho.le
  have hgs := (Array.getElem?_eq_some_iff.1 hg).1
  have h2a : (w.alloc o).ownsRow B 26 1 v X.length us := World.ownsRow.alloc h2 o
  have hg1 : w1.heap[g]? = some (.cells #[v, u0] 28 (0, 0)) := by
    rw [hgr.block g (by simp; omega) (fun e => own_not h2 hg (by decide) e.symm), heap_alloc_old _ _ hgs]; exact hg
  have hy : OwnI w1 B u0 Y := OwnI.kept (World.ownsRow.alloc hY o) hgr (apart_ri h2a (World.ownsRow.alloc hY o))
  have hR := RowsA.append hl h2 h3 hu hu2 ha hgr
  have hO := (ho.beside h2 hlt (apart_type h2 ho.own (by decide)) hgr hat).1
  exact ⟨hg1, hO.set hg1 (by decide) (by omega) _, hR.set hg1 (by decide) (by decide) _, ⟨own_set hy hg1 (by decide) _, hYa⟩, box_set0 _ hg1, (But.grown hgr hle fun k hk => (World.ownsRow.lt h2 k hk).1).trans (But.setB hgB _ _)⟩
end
end Go.Proofs.Ytmibnceadciidaa
