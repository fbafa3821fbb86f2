/- Things behind pointers: two blocks alone may be turned, all others stay. Plain lemmas on worlds. -/
import Derived.Test.YtjcikoaoemingaaDoorKeep
namespace Go.Proofs.YtjcikoaoemingaaDoor
open Go.RowKit Go.Sort

/-- Of all blocks that lay, a and b alone may be turned. -/
structure Turn (a b : Nat) (w w' : World) : Prop where
  os : w'.os = w.os
  tape : w'.tape = w.tape
  output : w'.output = w.output
  size : w.heap.size ≤ w'.heap.size
  block : ∀ k, k < w.heap.size → k ≠ a → k ≠ b → w'.heap[k]? = w.heap[k]?
section
variable {a b : Nat} {w w1 w2 : World}
theorem Turn.refl (a b : Nat) (w : World) : Turn a b w w := ⟨rfl, rfl, rfl, Nat.le_refl _, fun _ _ _ _ => rfl⟩
theorem Turn.trans (h : Turn a b w w1) (k : Turn a b w1 w2) : Turn a b w w2 :=
  ⟨k.os.trans h.os, k.tape.trans h.tape, k.output.trans h.output, Nat.le_trans h.size k.size, fun i hi h1 h2 => (k.block i (Nat.lt_of_lt_of_le hi h.size) h1 h2).trans (h.block i hi h1 h2)⟩
theorem Turn.grown (h : w.grownBy w1 none) : Turn a b w w1 := ⟨h.os, h.tape, h.output, h.size, fun i hi _ _ => h.block i hi (by simp)⟩
theorem Turn.grownA (h : w.grownBy w1 (some a)) : Turn a b w w1 := ⟨h.os, h.tape, h.output, h.size, fun i hi h1 _ => h.block i hi (by simp [h1])⟩
theorem Turn.grownB (h : w.grownBy w1 (some b)) : Turn a b w w1 := ⟨h.os, h.tape, h.output, h.size, fun i hi _ h2 => h.block i hi (by simp [h2])⟩
theorem Turn.alloc (w : World) (o : Obj) : Turn a b w (w.alloc o) := Turn.grown (World.grownBy_alloc w o none)
theorem Turn.drewN (w : World) (n : Nat) : Turn a b w (w.drewN n) := ⟨rfl, rfl, rfl, Nat.le_refl _, fun _ _ _ _ => rfl⟩
theorem Turn.setCell (w : World) (p : Addr) (v : Value) (hp : p.block = a) : Turn a b w (w.setCell p v) :=
  ⟨rfl, rfl, rfl, by simp [World.setCell], fun i _ h1 _ => by
    subst hp
    simp [World.setCell, Array.getElem?_modify, Ne.symm h1]⟩
theorem Turn.later (h : Below w.heap.size w w1) : Turn a b w w1 := ⟨h.os, h.tape, h.output, h.size, fun i hi _ _ => h.block i hi⟩
/-- Blocks that were not there when the call began do not count. -/
theorem Turn.of {B : Nat} (h : Turn a b w w1) (h0 : Turn B B w1 w2) (hB : w.heap.size ≤ B) : Turn a b w w2 :=
  ⟨h0.os.trans h.os, h0.tape.trans h.tape, h0.output.trans h.output, Nat.le_trans h.size h0.size, fun i hi h1 h2 => (h0.block i (Nat.lt_of_lt_of_le hi h.size) (by omega) (by omega)).trans (h.block i hi h1 h2)⟩
theorem Turn.below {B : Nat} {w0 : World} (h0 : Below B w0 w) (h : Turn a b w w1) (hB : B ≤ w.heap.size) (ha : B ≤ a) (hb : B ≤ b) : Below B w0 w1 :=
  ⟨h.os.trans h0.os, h.tape.trans h0.tape, h.output.trans h0.output, Nat.le_trans h0.size h.size, fun i hi => (h.block i (by omega) (by omega) (by omega)).trans (h0.block i hi)⟩
/-- A row of one's own, apart from both. -/
theorem own_turn {base t s n : Nat} {v : Value} {xs : List Value} (h : w.ownsRow base t s v n xs) (ht : Turn a b w w1) (hv : ∀ k, v.ownBlock = some k → k ≠ a ∧ k ≠ b) : w1.ownsRow base t s v n xs := by
  refine ⟨h.1, ?_⟩
  rcases h.2 with h2 | ⟨g, cap, cur, rfl, hb, hg, r⟩
  · exact .inl h2
  · obtain ⟨h1, h2⟩ := hv g rfl
    exact .inr ⟨g, cap, cur, rfl, hb, (ht.block g (Array.getElem?_eq_some_iff.1 hg).1 h1 h2).trans hg, r⟩
theorem OwnI.turn {base : Nat} {v : Value} {l : List Int} (h : OwnI w base v l) (ht : Turn a b w w1) (ha : ∀ cur fz, w.heap[a]? ≠ some (.cells cur 3 fz)) (hb : ∀ cur fz, w.heap[b]? ≠ some (.cells cur 3 fz)) : OwnI w1 base v l :=
  own_turn h ht fun k hk => by
    rcases h.2 with ⟨rfl, _⟩ | ⟨g, cap, cur, rfl, _, hg, _⟩
    · cases hk
    · cases hk
      exact ⟨fun e => ha cur (0, 0) (e ▸ hg), fun e => hb cur (0, 0) (e ▸ hg)⟩
theorem IsInts.turn {v : Value} {l : List Int} (h : IsInts w v l) (ht : Turn a b w w1) (hv : ∀ k, v.ownBlock = some k → k ≠ a ∧ k ≠ b) : IsInts w1 v l := by
  rcases h with h | ⟨g, off, cap, rfl, h1, h2, h3, hc⟩
  · exact .inl h
  · obtain ⟨e1, e2⟩ := hv g rfl
    refine .inr ⟨g, off, cap, rfl, h1, h2, h3, fun j hj => ?_⟩
    have h0 := hc j hj
    have hlt : g < w.heap.size := World.block_lt_of_cell? w _ h0
    rw [World.cell?_of_block (a := ⟨g, off + j, none⟩) (ht.block g hlt e1 e2)]
    exact h0
end
end Go.Proofs.YtjcikoaoemingaaDoor
