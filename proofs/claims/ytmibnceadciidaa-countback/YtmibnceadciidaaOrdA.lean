/- An order in a box, and rows that lie beside it: plain lemmas on worlds. -/
import Derived.Test.YtmibnceadciidaaOrdM
namespace Go.Proofs.Ytmibnceadciidaa
set_option maxRecDepth 100000
open Go.RowKit Go.Sort

/-- The row's block is not the order's. -/
def Apart (u vo : Value) : Prop := ∀ k, u.ownBlock = some k → vo.ownBlock ≠ some k
section
variable {B bo base t s n : Nat} {A : List Int} {u u' vo vo' vo'' : Value} {xs : List Value} {w w1 w2 : World}
theorem apart_nil (vo : Value) : Apart (.slice none 0 0) vo := fun k h => by simp [Value.ownBlock] at h
theorem Marks.trans (h : Marks bo vo vo' w w1) (k : Marks bo vo' vo'' w1 w2) : Marks bo vo vo'' w w2 :=
  ⟨k.os.trans h.os, k.tape.trans h.tape, k.output.trans h.output, Nat.le_trans h.size k.size,
    fun i hi hn hv => (k.block i (Nat.lt_of_lt_of_le hi h.size) hn (h.fresh i hi hv)).trans (h.block i hi hn hv), fun i hi hv => k.fresh i (Nat.lt_of_lt_of_le hi h.size) (h.fresh i hi hv)⟩
/-- A row that lies apart is kept, and lies apart. -/
theorem Marks.row (h : Marks bo vo vo' w w1) (ho : w.ownsRow base t s u n xs) (hb : bo < base) (ha : Apart u vo) : w1.ownsRow base t s u n xs ∧ Apart u vo' := by
  refine ⟨⟨ho.1, ?_⟩, fun k hk => h.fresh k (World.ownsRow.lt ho k hk).2 (ha k hk)⟩
  rcases ho.2 with h0 | ⟨b, cap, cur, hv, hB2, hb2, rest⟩
  · exact .inl h0
  · have hbs := (Array.getElem?_eq_some_iff.1 hb2).1
    exact .inr ⟨b, cap, cur, hv, hB2, by rw [h.block b hbs (by omega) (ha b (by rw [hv]; rfl))]; exact hb2, rest⟩
/-- Behind it something new grows. -/
theorem Marks.grown {o : Obj} {row : Option Nat} (h : Marks bo vo vo' w w1) (hg : (w1.alloc o).grownBy w2 row) (hr : ∀ k, row = some k → w.heap.size ≤ k) : Marks bo vo vo' w w2 :=
  ⟨hg.os.trans h.os, hg.tape.trans h.tape, hg.output.trans h.output, by have h1 := hg.size; have h2 := h.size; simp at h1; omega, fun k hk hn hv => by
    have h2 := h.size
    rw [hg.block k (by simp; omega) (fun e => by have := hr k e.symm; omega), heap_alloc_old _ _ (by omega)]
    exact h.block k hk hn hv, h.fresh⟩
theorem Marks.later (h : Marks bo vo vo' w w1) (hb : Below w1.heap.size w1 w2) : Marks bo vo vo' w w2 :=
  ⟨hb.os.trans h.os, hb.tape.trans h.tape, hb.output.trans h.output, Nat.le_trans h.size hb.size, fun k hk hn hv => by
    have h2 := h.size
    rw [hb.block k (by omega)]
    exact h.block k hk hn hv, h.fresh⟩
/-- The order stays while a row that lies apart grows, and that row lies apart. -/
theorem Ord.beside {o : Obj} (h : Ord w B bo A vo) (hu : w.ownsRow base t s u n xs) (hb : bo < base) (ha : Apart u vo) (hg : (w.alloc o).grownBy w1 u.ownBlock) (hat : u'.ownBlock = u.ownBlock ∨ u'.ownBlock = some (w.alloc o).heap.size) : Ord w1 B bo A vo ∧ Apart u' vo := by
  refine ⟨(h.alloc o).other hg (fun e => by have := World.ownsRow.lt hu bo e; omega) ?_, fun k hk hv => ?_⟩
  · cases hv : vo.ownBlock with
    | none => exact .inl rfl
    | some k => exact .inr fun e => ha k e.symm hv
  · rcases hat with e | e
    · exact ha k (e ▸ hk) hv
    · have h1 := World.ownsRow.lt h.own k hv
      rw [hk] at e
      have e := Option.some.inj e
      simp at e
      omega
/-- A row whose elements are of another type lies apart. -/
theorem apart_type {t' s' n' base' : Nat} {xs' : List Value} (hu : w.ownsRow base t s u n xs) (hv : w.ownsRow base' t' s' vo n' xs') (ht : t ≠ t') : Apart u vo := fun k hk hk' => by
  rcases hu.2 with ⟨rfl, _⟩ | ⟨g, cap, cur, rfl, _, hg, _⟩
  · simp [Value.ownBlock] at hk
  · rcases hv.2 with ⟨rfl, _⟩ | ⟨g2, cap2, cur2, rfl, _, hg2, _⟩
    · simp [Value.ownBlock] at hk'
    · simp [Value.ownBlock] at hk hk'
      subst hk
      subst hk'
      rw [hg] at hg2
      simp at hg2
      exact ht hg2.2
/-- A block of another type is none of a row's. -/
theorem own_not {g t' : Nat} {cs : Array Value} {fr : Nat × Nat} (hu : w.ownsRow base t s u n xs) (hg : w.heap[g]? = some (.cells cs t' fr)) (ht : t ≠ t') : u.ownBlock ≠ some g := fun hk => by
  rcases hu.2 with ⟨rfl, _⟩ | ⟨b, cap, cur, rfl, _, hb, _⟩
  · simp [Value.ownBlock] at hk
  · simp [Value.ownBlock] at hk
    subst hk
    rw [hg] at hb
    simp at hb
    exact ht hb.2.1.symm
end
end Go.Proofs.Ytmibnceadciidaa
