/- Several texts in one. -/
import Derived.Test.YtelmfccpcejdnaaDoorKeep
import Derived.Test.YtelmfccpcejdnaaDoorBase
/- A slice of slices of ints, all of them of one's own: plain lemmas. -/
namespace Go.Proofs.YtelmfccpcejdnaaDoor
set_option maxRecDepth 100000
open Go.RowKit Go.Sort

def rowAt (L : List (List Int)) (i : Nat) : List Int := L[i]?.getD []
theorem rowAt_mem {L : List (List Int)} {i : Nat} (h : i < L.length) : rowAt L i ∈ L := by unfold rowAt; rw [List.getElem?_eq_getElem h]; exact List.getElem_mem h

/-- A slice of slices of ints, all of them of one's own. -/
def OwnR (w : World) (base : Nat) (v : Value) (L : List (List Int)) : Prop :=
  ∃ us : List Value, us.length = L.length ∧ w.ownsRow base 23 1 v L.length us ∧ ∀ j u, us[j]? = some u → OwnI w base u (rowAt L j)
theorem OwnR.nil (w : World) (base : Nat) : OwnR w base (.slice none 0 0) [] := ⟨[], rfl, World.ownsRow_nil _ _ _ _, fun j u h => by simp at h⟩
theorem ownsRow_below {w w' : World} {B n : Nat} {t : TypeId} {sz : Nat} {v : Value} {l : List Value} (h : w.ownsRow B t sz v n l) (hb : RowKit.Below w.heap.size w w') : w'.ownsRow B t sz v n l := by
  refine ⟨h.1, ?_⟩
  rcases h.2 with h0 | ⟨g, cap, cur, hv, hB, hg, rest⟩
  · exact .inl h0
  · exact .inr ⟨g, cap, cur, hv, hB, by rw [hb.block g (Array.getElem?_eq_some_iff.1 hg).1]; exact hg, rest⟩
theorem OwnR.later {w w' : World} {base : Nat} {v : Value} {L : List (List Int)} (h : OwnR w base v L) (hb : RowKit.Below w.heap.size w w') : OwnR w' base v L := by
  obtain ⟨us, h1, h2, h3⟩ := h
  exact ⟨us, h1, ownsRow_below h2 hb, fun j u hj => (h3 j u hj).later hb⟩
theorem ownsRow_mono {w : World} {B B' n : Nat} {t : TypeId} {sz : Nat} {v : Value} {l : List Value} (h : w.ownsRow B t sz v n l) (hB : B' ≤ B) : w.ownsRow B' t sz v n l := by
  refine ⟨h.1, ?_⟩
  rcases h.2 with h0 | ⟨g, cap, cur, hv, hb, rest⟩
  · exact .inl h0
  · exact .inr ⟨g, cap, cur, hv, Nat.le_trans hB hb, rest⟩
theorem OwnR.mono {w : World} {B B' : Nat} {v : Value} {L : List (List Int)} (h : OwnR w B v L) (hB : B' ≤ B) : OwnR w B' v L := by
  obtain ⟨us, h1, h2, h3⟩ := h
  exact ⟨us, h1, ownsRow_mono h2 hB, fun j u hj => ownI_mono (h3 j u hj) hB⟩
/-- A row of slices and a row of ints lie apart. -/
theorem apart_ri {w : World} {base n : Nat} {v u : Value} {l : List Int} {us : List Value} (h : w.ownsRow base 23 1 v n us) (hu : OwnI w base u l) : u.ownBlock = none ∨ u.ownBlock ≠ v.ownBlock := by
  rcases hu.2 with ⟨rfl, _⟩ | ⟨g, cap, cur, rfl, _, hg, _⟩
  · exact .inl rfl
  · refine .inr fun he => ?_
    rcases h.2 with ⟨rfl, _⟩ | ⟨g2, cap2, cur2, rfl, _, hg2, _⟩
    · simp [Value.ownBlock] at he
    · simp [Value.ownBlock] at he
      subst he
      rw [hg] at hg2
      simp at hg2
theorem ownR_append {w wr w' : World} {B : Nat} {v v' u : Value} {L : List (List Int)} {r : List Int} {us : List Value} {o : Obj} (hl : us.length = L.length) (h2 : wr.ownsRow B 23 1 v L.length us) (h3 : ∀ j u, us[j]? = some u → OwnI wr B u (rowAt L j)) (hu : OwnI wr B u r) (hb : Below B w wr) (hB : B ≤ w.heap.size)
    (ha : w'.ownsRow B 23 1 v' (L.length + 1) (us ++ [u])) (hg : (wr.alloc o).grownBy w' v.ownBlock) : OwnR w' B v' (L ++ [r]) ∧ Below B w w' := by
  have hs := hb.size
  refine ⟨⟨us ++ [u], by simp [hl], by rw [List.length_append]; exact ha, fun j x hj => ?_⟩, ?_⟩
  · have h2a : (wr.alloc o).ownsRow B 23 1 v L.length us := World.ownsRow.alloc h2 o
    have key : ∀ {x : Value} {l : List Int}, OwnI wr B x l → OwnI w' B x l := fun {x l} hx => by
      have hxa : OwnI (wr.alloc o) B x l := World.ownsRow.alloc hx o
      exact OwnI.kept hxa hg (apart_ri h2a hxa)
    unfold rowAt
    by_cases hjl : j < us.length
    · rw [List.getElem?_append_left hjl] at hj
      rw [List.getElem?_append_left (by omega)]
      exact key (h3 j x hj)
    · rw [List.getElem?_append_right (by omega)] at hj
      have hj0 : j - us.length = 0 := by
        have := (List.getElem?_eq_some_iff.1 hj).1
        simp at this; omega
      rw [hj0] at hj
      have hxu : u = x := by simpa using hj
      subst hxu
      rw [List.getElem?_append_right (by omega), show j - L.length = 0 by omega]
      exact key hu
  · exact (hb.alloc (by omega) o).grown hg (by simp; omega) fun k hk => (World.ownsRow.lt h2 k hk).1
theorem OwnR.form {w : World} {base : Nat} {v : Value} {L : List (List Int)} (h : OwnR w base v L) : ∃ ao cap, v = .slice ao L.length cap := by
  obtain ⟨us, _, h2, _⟩ := h
  rcases h2.2 with ⟨rfl, h0⟩ | ⟨g, cap, cur, rfl, _⟩
  · exact ⟨none, 0, by rw [h0]⟩
  · exact ⟨_, cap, rfl⟩
/-- Opened: its form, its cells, and what they hold. -/
theorem OwnR.opened {w : World} {base : Nat} {v : Value} {L : List (List Int)} (h : OwnR w base v L) : ∃ ao cap, v = .slice ao L.length cap ∧ L.length ≤ cap ∧ cap ≤ maxLen ∧ ∀ k, k < L.length → ∃ g, ao = some ⟨g, 0, none⟩ ∧ g < w.heap.size ∧ ∃ u, w.cell? ⟨g, k, none⟩ = some u ∧ OwnI w base u (rowAt L k) := by
  obtain ⟨us, h1, h2, h3⟩ := h
  have h2' := h2
  rcases h2.2 with ⟨rfl, h0⟩ | ⟨g, cap, cur, rfl, hb, hg, hn, hm, hs, ht⟩
  · exact ⟨none, 0, by rw [h0], by omega, by simp, fun k hk => by omega⟩
  · refine ⟨_, cap, rfl, hn, hm, fun k hk => ⟨g, rfl, (Array.getElem?_eq_some_iff.1 hg).1, ?_⟩⟩
    have hku : k < us.length := by omega
    refine ⟨us[k], ?_, h3 k _ (List.getElem?_eq_getElem hku)⟩
    rw [World.ownsRow.cellAt h2' k (by omega), List.getElem?_eq_getElem hku]
theorem info_row : (Tryd.prog.info? 23).map (fun i => (i.zero, i.size, i.bytes)) = some (some (.slice none 0 0), 1, 24) := by kernel_rfl
theorem ownI_one {w : World} {base : Nat} {u : Value} {l : List Int} (h : OwnI w base u l) : ∀ x ∈ [u], x.oneCell' = true := by
  intro x hx
  have : x = u := by simpa using hx
  subst this
  obtain ⟨ao, cap, rfl⟩ := OwnI.form h
  rfl
end Go.Proofs.YtelmfccpcejdnaaDoor

/- A row of numbers, opened: plain words, no function of the program is named here. -/
namespace Go.Proofs.YtelmfccpcejdnaaDoor
open Go.RowKit

/-- A row of numbers, opened: its form, and its cells where there are any. -/
theorem IsInts.opened {w : World} {v : Value} {l : List Int} (h : IsInts w v l) : ∃ ao cap, v = .slice ao l.length cap ∧ cap ≤ maxLen ∧ ∀ k, k < l.length → ∃ b off, ao = some ⟨b, off, none⟩ ∧ l.length ≤ cap ∧ b < w.heap.size ∧ ∀ j, j < l.length → w.cell? ⟨b, off + j, none⟩ = some (.int .i64 (l[j]?.getD 0)) := by
  rcases h with ⟨rfl, ao, cap, rfl, hcap⟩ | ⟨b, off, cap, rfl, hpos, hlc, hcap, hc⟩
  · exact ⟨ao, cap, rfl, hcap, fun k hk => absurd hk (Nat.not_lt_zero _)⟩
  · exact ⟨_, cap, rfl, hcap, fun k _ => ⟨b, off, rfl, hlc, World.block_lt_of_cell? w _ (hc 0 hpos), hc⟩⟩
end Go.Proofs.YtelmfccpcejdnaaDoor

/- A heap that came in: rows of pointers, and roots; plain lemmas on worlds. -/
namespace Go.Proofs.YtelmfccpcejdnaaDoor
open Go.RowKit Go.Sort

/-- A row of rows of numbers. -/
def IsRows (w : World) (v : Value) (L : List (List Int)) : Prop :=
  ∃ ao cap, v = .slice ao L.length cap ∧ cap ≤ maxLen ∧ ∀ k, k < L.length → ∃ b off, ao = some ⟨b, off, none⟩ ∧ L.length ≤ cap ∧ b < w.heap.size ∧ ∃ u, w.cell? ⟨b, off + k, none⟩ = some u ∧ IsInts w u (rowAt L k)
theorem IsRows.below {w w' : World} {v : Value} {L : List (List Int)} (h : IsRows w v L) (hb : Below w.heap.size w w') : IsRows w' v L := by
  obtain ⟨ao, cap, rfl, hcap, ho⟩ := h
  refine ⟨ao, cap, rfl, hcap, fun k hk => ?_⟩
  obtain ⟨b, off, e, hlc, hbs, u, hu, hi⟩ := ho k hk
  exact ⟨b, off, e, hlc, Nat.lt_of_lt_of_le hbs hb.size, u, by rw [hb.cell hbs]; exact hu, hi.below hb⟩
theorem IsRows.heap {w0 w : World} {v : Value} {L : List (List Int)} (h : IsRows w0 v L) (hh : w.heap = w0.heap) : IsRows w v L := by
  obtain ⟨ao, cap, rfl, hcap, ho⟩ := h
  refine ⟨ao, cap, rfl, hcap, fun k hk => ?_⟩
  obtain ⟨b, off, e, hlc, hbs, u, hu, hi⟩ := ho k hk
  refine ⟨b, off, e, hlc, by rw [hh]; exact hbs, u, ?_, hi.heap hh⟩
  unfold World.cell? at hu ⊢
  rw [hh]; exact hu
theorem IsRows.form {w : World} {v : Value} {L : List (List Int)} (h : IsRows w v L) : ∃ ao cap, v = .slice ao L.length cap := by
  obtain ⟨ao, cap, rfl, _⟩ := h
  exact ⟨ao, cap, rfl⟩
/-- One row of them, opened. -/
theorem IsRows.at {w : World} {ao : Option Addr} {n cap k : Nat} {L : List (List Int)} (h : IsRows w (.slice ao n cap) L) (hk : k < L.length) : ∃ b off, ao = some ⟨b, off, none⟩ ∧ L.length ≤ cap ∧ b < w.heap.size ∧ ∃ au cu, w.cell? ⟨b, off + k, none⟩ = some (.slice au (rowAt L k).length cu) ∧ IsInts w (.slice au (rowAt L k).length cu) (rowAt L k) ∧ cap ≤ 9223372036854775807 ∧ cu ≤ 9223372036854775807 := by
  obtain ⟨ao', cap', e, hcap, ho⟩ := h
  simp only [Value.slice.injEq] at e
  obtain ⟨rfl, rfl, rfl⟩ := e
  obtain ⟨b, off, e, hlc, hbs, u, hu, hi⟩ := ho k hk
  obtain ⟨au, cu, rfl, hcu, _⟩ := hi.opened
  exact ⟨b, off, e, hlc, hbs, au, cu, hu, hi, hcap, hcu⟩
theorem OwnR.isRows {w : World} {base : Nat} {v : Value} {L : List (List Int)} (h : OwnR w base v L) : IsRows w v L := by
  obtain ⟨ao, cap, rfl, hlc, hcap, ho⟩ := h.opened
  refine ⟨ao, cap, rfl, hcap, fun k hk => ?_⟩
  obtain ⟨g, e, hg, u, hu, hi⟩ := ho k hk
  exact ⟨g, 0, e, hlc, hg, u, by rw [Nat.zero_add]; exact hu, hi.isInts⟩
/-- A heap: its rows, and its roots. -/
def IsHeap (w : World) (v : Value) (L : List (List Int)) (R : List Int) : Prop := ∃ vo vr, v = .agg #[vo, vr] ∧ IsRows w vo L ∧ IsInts w vr R
theorem IsHeap.below {w w' : World} {v : Value} {L : List (List Int)} {R : List Int} (h : IsHeap w v L R) (hb : Below w.heap.size w w') : IsHeap w' v L R := by
  obtain ⟨vo, vr, rfl, h1, h2⟩ := h
  exact ⟨vo, vr, rfl, h1.below hb, h2.below hb⟩
theorem IsHeap.heap {w0 w : World} {v : Value} {L : List (List Int)} {R : List Int} (h : IsHeap w0 v L R) (hh : w.heap = w0.heap) : IsHeap w v L R := by
  obtain ⟨vo, vr, rfl, h1, h2⟩ := h
  exact ⟨vo, vr, rfl, h1.heap hh, h2.heap hh⟩
/-- A heap in a box of its own. -/
structure Boxed (w w1 : World) (g : Nat) (ao : Option Addr) (co : Nat) (ar : Option Addr) (cr : Nat) (L : List (List Int)) (R : List Int) : Prop where
  below : Below w.heap.size w w1
  outs : w1.cell? ⟨g, 0, none⟩ = some (.slice ao L.length co)
  roots : w1.cell? ⟨g, 1, none⟩ = some (.slice ar R.length cr)
  rows : IsRows w1 (.slice ao L.length co) L
  ints : IsInts w1 (.slice ar R.length cr) R
  le : w.heap.size ≤ g
  lt : g < w1.heap.size
  capO : co ≤ 9223372036854775807
  capR : cr ≤ 9223372036854775807
theorem boxed {w : World} {ao ar : Option Addr} {co cr : Nat} {L : List (List Int)} {R : List Int} (h1 : IsRows w (.slice ao L.length co) L) (h2 : IsInts w (.slice ar R.length cr) R) (T : TypeId) :
    Boxed w (w.alloc (.cells #[.slice ao L.length co, .slice ar R.length cr] T)) w.heap.size ao co ar cr L R := by
  have hb : Below w.heap.size w (w.alloc (.cells #[.slice ao L.length co, .slice ar R.length cr] T)) := (Below.refl _ w).alloc (Nat.le_refl _) _
  refine ⟨hb, by simp, by simp, h1.below hb, h2.below hb, Nat.le_refl _, by simp, ?_, ?_⟩
  · obtain ⟨_, _, e, hc, _⟩ := h1
    simp only [Value.slice.injEq] at e
    obtain ⟨_, _, rfl⟩ := e
    exact hc
  · obtain ⟨_, _, e, hc, _⟩ := h2.opened
    simp only [Value.slice.injEq] at e
    obtain ⟨_, _, rfl⟩ := e
    exact hc
theorem Boxed.later {w w1 w2 : World} {g co cr : Nat} {ao ar : Option Addr} {L : List (List Int)} {R : List Int} (h : Boxed w w1 g ao co ar cr L R) (hb : Below w1.heap.size w1 w2) : Boxed w w2 g ao co ar cr L R :=
  ⟨h.below.trans (hb.mono h.below.size), by rw [hb.cell h.lt]; exact h.outs, by rw [hb.cell h.lt]; exact h.roots, h.rows.below hb, h.ints.below hb, h.le, Nat.lt_of_lt_of_le h.lt hb.size, h.capO, h.capR⟩
theorem Boxed.drewN {w w1 : World} {g co cr : Nat} {ao ar : Option Addr} {L : List (List Int)} {R : List Int} (h : Boxed w w1 g ao co ar cr L R) (n : Nat) : Boxed w (w1.drewN n) g ao co ar cr L R :=
  ⟨below_drewN h.below n, h.outs, h.roots, h.rows, h.ints, h.le, h.lt, h.capO, h.capR⟩
theorem Boxed.isHeap {w w1 : World} {g co cr : Nat} {ao ar : Option Addr} {L : List (List Int)} {R : List Int} (h : Boxed w w1 g ao co ar cr L R) : IsHeap w1 (.agg #[.slice ao L.length co, .slice ar R.length cr]) L R :=
  ⟨_, _, rfl, h.rows, h.ints⟩
/-- A heap's form. -/
theorem IsHeap.form {w : World} {v : Value} {L : List (List Int)} {R : List Int} (h : IsHeap w v L R) : ∃ ao co ar cr, v = .agg #[.slice ao L.length co, .slice ar R.length cr] ∧ IsRows w (.slice ao L.length co) L ∧ IsInts w (.slice ar R.length cr) R := by
  obtain ⟨vo, vr, rfl, h1, h2⟩ := h
  obtain ⟨ao, co, rfl⟩ := h1.form
  obtain ⟨ar, cr, rfl, _⟩ := h2.opened
  exact ⟨ao, co, ar, cr, rfl, h1, h2⟩
end Go.Proofs.YtelmfccpcejdnaaDoor
