/- A slice of slices of ints, all of them of one's own: plain lemmas. -/
import Derived.Test.YtmibnceadciidaaDoorKeep
namespace Go.Proofs.YtmibnceadciidaaDoor
set_option maxRecDepth 100000
open Go.RowKit Go.Sort

def rowAt (L : List (List Int)) (i : Nat) : List Int := L[i]?.getD []
theorem rowAt_mem {L : List (List Int)} {i : Nat} (h : i < L.length) : rowAt L i ∈ L := by unfold rowAt; rw [List.getElem?_eq_getElem h]; exact List.getElem_mem h

/-- A slice of slices of ints, all of them of one's own. -/
def OwnR (w : World) (base : Nat) (v : Value) (L : List (List Int)) : Prop :=
  ∃ us : List Value, us.length = L.length ∧ w.ownsRow base 25 1 v L.length us ∧ ∀ j u, us[j]? = some u → OwnI w base u (rowAt L j)
theorem OwnR.nil (w : World) (base : Nat) : OwnR w base (.slice none 0 0) [] := ⟨[], rfl, World.ownsRow_nil _ _ _ _, fun j u h => by simp at h⟩
theorem ownsRow_below {w w' : World} {B n : Nat} {t : TypeId} {sz : Nat} {v : Value} {l : List Value} (h : w.ownsRow B t sz v n l) (hb : RowKit.Below w.heap.size w w') : w'.ownsRow B t sz v n l := by
  refine ⟨h.1, ?_⟩
  rcases h.2 with h0 | ⟨g, cap, cur, hv, hB, hg, rest⟩
  · exact .inl h0
  · exact .inr ⟨g, cap, cur, hv, hB, by rw [hb.block g (Array.getElem?_eq_some_iff.1 hg).1]; exact hg, rest⟩
theorem OwnR.later {w w' : World} {base : Nat} {v : Value} {L : List (List Int)} (h : OwnR w base v L) (hb : RowKit.Below w.heap.size w w') : OwnR w' base v L := by
  obtain ⟨us, h1, h2, h3⟩ := h
  exact ⟨us, h1, ownsRow_below h2 hb, fun j u hj => (h3 j u hj).later hb⟩
theorem ownsRow_mono {w : World} {B B' n : Nat} {t : TypeId} {sz : Nat} {v : Value} {l : List Value} (h : w.ownsRow B t sz v n l) (hB : B' ≤ B) : w.ownsRow B' t sz v n l := by
  refine ⟨h.1, ?_⟩
  rcases h.2 with h0 | ⟨g, cap, cur, hv, hb, rest⟩
  · exact .inl h0
  · exact .inr ⟨g, cap, cur, hv, Nat.le_trans hB hb, rest⟩
theorem OwnR.mono {w : World} {B B' : Nat} {v : Value} {L : List (List Int)} (h : OwnR w B v L) (hB : B' ≤ B) : OwnR w B' v L := by
  obtain ⟨us, h1, h2, h3⟩ := h
  exact ⟨us, h1, ownsRow_mono h2 hB, fun j u hj => ownI_mono (h3 j u hj) hB⟩
/-- A row of slices and a row of ints lie apart. -/
theorem apart_ri {w : World} {base n : Nat} {v u : Value} {l : List Int} {us : List Value} (h : w.ownsRow base 25 1 v n us) (hu : OwnI w base u l) : u.ownBlock = none ∨ u.ownBlock ≠ v.ownBlock := by
  rcases hu.2 with ⟨rfl, _⟩ | ⟨g, cap, cur, rfl, _, hg, _⟩
  · exact .inl rfl
  · refine .inr fun he => ?_
    rcases h.2 with ⟨rfl, _⟩ | ⟨g2, cap2, cur2, rfl, _, hg2, _⟩
    · simp [Value.ownBlock] at he
    · simp [Value.ownBlock] at he
      subst he
      rw [hg] at hg2
      simp at hg2
theorem ownR_append {w wr w' : World} {B : Nat} {v v' u : Value} {L : List (List Int)} {r : List Int} {us : List Value} {o : Obj} (hl : us.length = L.length) (h2 : wr.ownsRow B 25 1 v L.length us) (h3 : ∀ j u, us[j]? = some u → OwnI wr B u (rowAt L j)) (hu : OwnI wr B u r) (hb : Below B w wr) (hB : B ≤ w.heap.size)
    (ha : w'.ownsRow B 25 1 v' (L.length + 1) (us ++ [u])) (hg : (wr.alloc o).grownBy w' v.ownBlock) : OwnR w' B v' (L ++ [r]) ∧ Below B w w' := by
  have hs := hb.size
  refine ⟨⟨us ++ [u], by simp [hl], by rw [List.length_append]; exact ha, fun j x hj => ?_⟩, ?_⟩
  · have h2a : (wr.alloc o).ownsRow B 25 1 v L.length us := World.ownsRow.alloc h2 o
    have key : ∀ {x : Value} {l : List Int}, OwnI wr B x l → OwnI w' B x l := fun {x l} hx => by
      have hxa : OwnI (wr.alloc o) B x l := World.ownsRow.alloc hx o
      exact OwnI.kept hxa hg (apart_ri h2a hxa)
    unfold rowAt
    by_cases hjl : j < us.length
    · rw [List.getElem?_append_left hjl] at hj
      rw [List.getElem?_append_left (by omega)]
      exact key (h3 j x hj)
    · rw [List.getElem?_append_right (by omega)] at hj
      have hj0 : j - us.length = 0 := by
        have := (List.getElem?_eq_some_iff.1 hj).1
        simp at this; omega
      rw [hj0] at hj
      have hxu : u = x := by simpa using hj
      subst hxu
      rw [List.getElem?_append_right (by omega), show j - L.length = 0 by omega]
      exact key hu
  · exact (hb.alloc (by omega) o).grown hg (by simp; omega) fun k hk => (World.ownsRow.lt h2 k hk).1
theorem OwnR.form {w : World} {base : Nat} {v : Value} {L : List (List Int)} (h : OwnR w base v L) : ∃ ao cap, v = .slice ao L.length cap := by
  obtain ⟨us, _, h2, _⟩ := h
  rcases h2.2 with ⟨rfl, h0⟩ | ⟨g, cap, cur, rfl, _⟩
  · exact ⟨none, 0, by rw [h0]⟩
  · exact ⟨_, cap, rfl⟩
/-- Opened: its form, its cells, and what they hold. -/
theorem OwnR.opened {w : World} {base : Nat} {v : Value} {L : List (List Int)} (h : OwnR w base v L) : ∃ ao cap, v = .slice ao L.length cap ∧ L.length ≤ cap ∧ cap ≤ maxLen ∧ ∀ k, k < L.length → ∃ g, ao = some ⟨g, 0, none⟩ ∧ g < w.heap.size ∧ ∃ u, w.cell? ⟨g, k, none⟩ = some u ∧ OwnI w base u (rowAt L k) := by
  obtain ⟨us, h1, h2, h3⟩ := h
  have h2' := h2
  rcases h2.2 with ⟨rfl, h0⟩ | ⟨g, cap, cur, rfl, hb, hg, hn, hm, hs, ht⟩
  · exact ⟨none, 0, by rw [h0], by omega, by simp, fun k hk => by omega⟩
  · refine ⟨_, cap, rfl, hn, hm, fun k hk => ⟨g, rfl, (Array.getElem?_eq_some_iff.1 hg).1, ?_⟩⟩
    have hku : k < us.length := by omega
    refine ⟨us[k], ?_, h3 k _ (List.getElem?_eq_getElem hku)⟩
    rw [World.ownsRow.cellAt h2' k (by omega), List.getElem?_eq_getElem hku]
theorem info_row : (Tryd.prog.info? 25).map (fun i => (i.zero, i.size, i.bytes)) = some (some (.slice none 0 0), 1, 24) := by kernel_rfl
theorem ownI_one {w : World} {base : Nat} {u : Value} {l : List Int} (h : OwnI w base u l) : ∀ x ∈ [u], x.oneCell' = true := by
  intro x hx
  have : x = u := by simpa using hx
  subst this
  obtain ⟨ao, cap, rfl⟩ := OwnI.form h
  rfl
end Go.Proofs.YtmibnceadciidaaDoor
