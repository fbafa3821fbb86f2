/- Rows of numbers of one's own that are written into: plain lemmas on worlds. -/
import Derived.Test.YtelmfccpcejdnaaDoorHeaps
import Derived.Test.YtelmfccpcejdnaaDoorLists
import Derived.Test.YtelmfccpcejdnaaDoorOwns
namespace Go.Proofs.YtelmfccpcejdnaaDoor
set_option maxRecDepth 100000
open Go.RowKit Go.Sort

def Und (hi : Nat) (v : Value) : Prop := ∀ k, v.ownBlock = some k → k < hi
/-- A slice of slices of numbers of one's own, in blocks from lo on and below hi; no two rows lie in one block. -/
def TRows (w : World) (lo hi : Nat) (v : Value) (X : List (List Int)) : Prop :=
  ∃ us : List Value, us.length = X.length ∧ w.ownsRow lo 23 1 v X.length us ∧ (∀ j u, us[j]? = some u → OwnI w lo u (outsOf X j)) ∧ Und hi v ∧ (∀ (j : Nat) (u : Value), us[j]? = some u → Und hi u) ∧
    ∀ (i j : Nat) (u x : Value), us[i]? = some u → us[j]? = some x → i ≠ j → u.ownBlock = none ∨ u.ownBlock ≠ x.ownBlock
theorem tRows_nil (w : World) (lo hi : Nat) : TRows w lo hi (.slice none 0 0) [] :=
  ⟨[], rfl, World.ownsRow_nil _ _ _ _, fun j u h => by simp at h, fun k h => by simp [Value.ownBlock] at h, fun j u h => by simp at h, fun i j u x h => by simp at h⟩
section
variable {w w1 : World} {lo hi : Nat} {v : Value} {X : List (List Int)}
theorem TRows.kept (h : TRows w lo hi v X) (hk : ∀ k, lo ≤ k → k < hi → k < w.heap.size → w1.heap[k]? = w.heap[k]?) : TRows w1 lo hi v X := by
  obtain ⟨us, h1, h2, h3, h4, h5, h6⟩ := h
  have key : ∀ {t s n : Nat} {u : Value} {xs : List Value}, w.ownsRow lo t s u n xs → Und hi u → w1.ownsRow lo t s u n xs := by
    intro t s n u xs ho hu
    refine ⟨ho.1, ?_⟩
    rcases ho.2 with h0 | ⟨g, cap, cur, hv, hB, hg, rest⟩
    · exact .inl h0
    · have hgs := (Array.getElem?_eq_some_iff.1 hg).1
      exact .inr ⟨g, cap, cur, hv, hB, by rw [hk g hB (hu g (by rw [hv]; rfl)) hgs]; exact hg, rest⟩
  exact ⟨us, h1, key h2 h4, fun j u hj => key (h3 j u hj) (h5 j u hj), h4, h5, h6⟩
theorem TRows.below (h : TRows w lo hi v X) (hb : Below hi w w1) : TRows w1 lo hi v X := h.kept fun k _ h2 _ => hb.block k h2
theorem TRows.later (h : TRows w lo hi v X) (hb : Below w.heap.size w w1) : TRows w1 lo hi v X := h.kept fun k _ _ h3 => hb.block k h3
theorem TRows.form (h : TRows w lo hi v X) : ∃ ao cap, v = .slice ao X.length cap := by
  obtain ⟨us, _, h2, _⟩ := h
  rcases h2.2 with ⟨rfl, h0⟩ | ⟨g, cap, cur, rfl, _⟩
  · exact ⟨none, 0, by rw [h0]⟩
  · exact ⟨_, cap, rfl⟩
theorem TRows.ownR (h : TRows w lo hi v X) : OwnR w lo v X := by
  obtain ⟨us, h1, h2, h3, _⟩ := h
  exact ⟨us, h1, h2, h3⟩
/-- One row, its cells, and what a store into one leaves. -/
theorem TRows.row (h : TRows w lo hi v X) {j : Nat} (hj : j < X.length) : ∃ g c au cu, v = .slice (some ⟨g, 0, none⟩) X.length c ∧ X.length ≤ c ∧ c ≤ 9223372036854775807 ∧ w.cell? ⟨g, j, none⟩ = some (.slice au (outsOf X j).length cu) ∧ cu ≤ 9223372036854775807 ∧ (outsOf X j).length ≤ cu ∧
    ∀ k, k < (outsOf X j).length → ∃ b, au = some ⟨b, 0, none⟩ ∧ w.cell? ⟨b, k, none⟩ = some (.int .i64 ((outsOf X j)[k]?.getD 0)) ∧ w.frozen? ⟨b, k, none⟩ = false ∧ lo ≤ b ∧ b < hi ∧ b < w.heap.size ∧
      ∀ y : Int, TRows (w.setCell ⟨b, k, none⟩ (.int .i64 y)) lo hi v (put2 X j k y) := by
  obtain ⟨us, h1, h2, h3, h4, h5, h6⟩ := h
  have hju : j < us.length := by omega
  have hu := List.getElem?_eq_getElem hju
  generalize us[j] = u at hu
  have ho := h3 j u hu
  have h2' := h2
  rcases h2.2 with ⟨_, h0⟩ | ⟨g, c, cur, rfl, hB, hg, hn, hm, _, _⟩
  · omega
  have hcg : w.cell? ⟨g, j, none⟩ = some u := by rw [World.ownsRow.cellAt h2' j (by omega)]; exact hu
  obtain ⟨au, cu, hform⟩ := OwnI.form ho
  have hcu : cu ≤ 9223372036854775807 ∧ (outsOf X j).length ≤ cu := by
    rcases ho.2 with ⟨e, h0⟩ | ⟨b, cap, cur2, e, _, _, hn2, hm2, _⟩
    · rw [e] at hform
      simp only [Value.slice.injEq] at hform
      obtain ⟨_, _, e3⟩ := hform
      rw [h0]; omega
    · rw [e] at hform
      simp only [Value.slice.injEq] at hform
      obtain ⟨_, _, e3⟩ := hform
      unfold maxLen at hm2
      omega
  subst hform
  refine ⟨g, c, au, cu, rfl, hn, hm, hcg, hcu.1, hcu.2, fun k hk => ?_⟩
  obtain ⟨b, cap, cur2, e, hb1, hb2, hb3, _⟩ := ho.block (fun e => by rw [e] at hk; simp at hk)
  simp only [Value.slice.injEq, true_and] at e
  obtain ⟨rfl, rfl⟩ := e
  refine ⟨b, rfl, ho.cellN rfl hk, ho.softN rfl k, hb1, h5 j _ hu b rfl, hb2, fun y => ?_⟩
  have hst := World.ownsRow.stored ho k (.int .i64 y)
  have hgr := hst.2
  have hgb : g ≠ b := fun e => by
    have := (hg.symm.trans (e ▸ hb3))
    simp at this
  refine ⟨us, by rw [put2_length]; exact h1, ?_, fun i x hi => ?_, h4, h5, h6⟩
  · rw [put2_length]
    exact h2'.kept hgr (.inr (by simp [Value.ownBlock]; exact hgb))
  · by_cases hij : i = j
    · subst hij
      rw [hu] at hi
      cases hi
      rw [put2_same hj]
      unfold OwnI
      rw [List.length_set, List.map_set]
      exact hst.1
    · rw [put2_other (fun e => hij e.symm)]
      exact OwnI.kept (h3 i x hi) hgr (h6 i j x _ hi hu hij)
theorem und_of {base n t s : Nat} {u : Value} {xs : List Value} (h : w.ownsRow base t s u n xs) : Und w.heap.size u := fun k hk => (World.ownsRow.lt h k hk).2
/-- A row more. -/
theorem TRows.append {v' u : Value} {r : List Int} {wr w' : World} {o : Obj} (h : TRows wr lo hi v X) (hu : OwnI wr lo u r) (hn : ∀ k, u.ownBlock = some k → hi ≤ k) (us : List Value) (hus : us.length = X.length) (h2 : wr.ownsRow lo 23 1 v X.length us)
    (ha : w'.ownsRow lo 23 1 v' (X.length + 1) (us ++ [u])) (hg : (wr.alloc o).grownBy w' v.ownBlock) : TRows w' lo w'.heap.size v' (X ++ [r]) := by
  obtain ⟨us', h1, h2', h3, h4, h5, h6⟩ := h
  have e : us' = us := by
    rcases h2.2 with ⟨rfl, h0⟩ | ⟨g, c, cur, rfl, hB, hgg, hnn, hm, hs, ht⟩
    · rw [List.eq_nil_of_length_eq_zero (show us'.length = 0 by omega), List.eq_nil_of_length_eq_zero (show us.length = 0 by omega)]
    · rcases h2'.2 with ⟨hx, _⟩ | ⟨g', c', cur', hx, _, hgg', _, _, _, ht'⟩
      · simp at hx
      · simp only [Value.slice.injEq, Option.some.injEq, Addr.mk.injEq, and_true, true_and] at hx
        obtain ⟨rfl, rfl⟩ := hx
        rw [hgg] at hgg'
        simp only [Option.some.injEq, Obj.cells.injEq, and_true] at hgg'
        subst hgg'
        rw [← ht, ← ht']
  subst e
  have h2a : (wr.alloc o).ownsRow lo 23 1 v X.length us' := World.ownsRow.alloc h2 o
  have key : ∀ {x : Value} {l : List Int}, OwnI wr lo x l → OwnI w' lo x l := fun {x l} hx => by
    have hxa : OwnI (wr.alloc o) lo x l := World.ownsRow.alloc hx o
    exact OwnI.kept hxa hg (apart_ri h2a hxa)
  have hrow : ∀ j x, (us' ++ [u])[j]? = some x → OwnI w' lo x (outsOf (X ++ [r]) j) := fun j x hj => by
    unfold outsOf
    by_cases hjl : j < us'.length
    · rw [List.getElem?_append_left hjl] at hj
      rw [List.getElem?_append_left (by omega)]
      exact key (h3 j x hj)
    · rw [List.getElem?_append_right (by omega)] at hj
      have hj0 : j - us'.length = 0 := by
        have := (List.getElem?_eq_some_iff.1 hj).1
        simp at this; omega
      rw [hj0] at hj
      have hxu : u = x := by simpa using hj
      subst hxu
      rw [List.getElem?_append_right (by omega), show j - X.length = 0 by omega]
      exact key hu
  refine ⟨us' ++ [u], by simp [h1], by rw [List.length_append]; exact ha, hrow, und_of ha, fun j x hj => und_of (hrow j x hj), fun i j x y hi hj hne => ?_⟩
  have hlast : ∀ {i : Nat} {x : Value}, (us' ++ [u])[i]? = some x → (us'[i]? = some x ∧ i < us'.length) ∨ (x = u ∧ i = us'.length) := fun {i x} hi => by
    by_cases hil : i < us'.length
    · rw [List.getElem?_append_left hil] at hi
      exact .inl ⟨hi, hil⟩
    · have h0 := (List.getElem?_eq_some_iff.1 hi).1
      rw [List.length_append] at h0
      have hie : i = us'.length := by simp at h0; omega
      subst hie
      rw [List.getElem?_append_right (by omega)] at hi
      exact .inr ⟨by simpa using hi.symm, rfl⟩
  rcases hlast hi with ⟨hi', _⟩ | ⟨rfl, rfl⟩
  · rcases hlast hj with ⟨hj', _⟩ | ⟨rfl, rfl⟩
    · exact h6 i j x y hi' hj' hne
    · cases hx : x.ownBlock with
      | none => exact .inl rfl
      | some k =>
        refine .inr fun e => ?_
        have := h5 i x hi' k hx
        have := hn k (e ▸ rfl)
        omega
  · rcases hlast hj with ⟨hj', _⟩ | ⟨rfl, rfl⟩
    · cases hx : x.ownBlock with
      | none => exact .inl rfl
      | some k =>
        refine .inr fun e => ?_
        have := h5 j y hj' k e.symm
        have := hn k hx
        omega
    · exact absurd rfl hne
end
end Go.Proofs.YtelmfccpcejdnaaDoor
