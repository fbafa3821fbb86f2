/- Three rows of one's own beside each other. -/
import Derived.Test.YtjcikoaoemingaaDoorKeep
import Derived.Maps.AppendAt
namespace Go.Proofs.YtjcikoaoemingaaDoor
open Go.RowKit Go.Sort

theorem ne_swap {x y : Option Nat} (h : x = none ∨ x ≠ y) : y = none ∨ y ≠ x := by
  cases y with
  | none => exact .inl rfl
  | some j =>
    refine .inr fun e => ?_
    rcases h with h | h
    · rw [h] at e; cases e
    · exact h e.symm

/-- Three rows of one's own: of bools, and two of ints that lie apart. -/
structure Tri (w0 w : World) (vb vp va : Value) (lb : List Bool) (lp la : List Int) : Prop where
  b : OwnB w w0.heap.size vb lb
  p : OwnI w w0.heap.size vp lp
  a : OwnI w w0.heap.size va la
  ne : vp.ownBlock = none ∨ vp.ownBlock ≠ va.ownBlock
  below : Below w0.heap.size w0 w
theorem Tri.start (w : World) : Tri w w (.slice none 0 0) (.slice none 0 0) (.slice none 0 0) [] [] [] := ⟨OwnB.nil _ _, OwnI.nil _ _, OwnI.nil _ _, .inl rfl, Below.refl _ _⟩
theorem Tri.later {w0 w w1 : World} {vb vp va : Value} {lb : List Bool} {lp la : List Int} (h : Tri w0 w vb vp va lb lp la) (hb : Below w.heap.size w w1) : Tri w0 w1 vb vp va lb lp la :=
  ⟨h.b.later hb, h.p.later hb, h.a.later hb, h.ne, h.below.trans (hb.mono h.below.size)⟩
theorem Tri.alloc {w0 w : World} {vb vp va : Value} {lb : List Bool} {lp la : List Int} (h : Tri w0 w vb vp va lb lp la) (o : Obj) : Tri w0 (w.alloc o) vb vp va lb lp la :=
  h.later ((Below.refl _ _).alloc (Nat.le_refl _) o)
theorem Tri.bools {w0 w w1 : World} {vb vb' vp va : Value} {lb : List Bool} {lp la : List Int} {n : Nat} {x : Bool} {o : Obj} (h : Tri w0 w vb vp va lb lp la) (hn : lb.length = n)
    (h1 : w1.ownsRow w0.heap.size 4 1 vb' (n + 1) (lb.map Value.bool ++ [.bool x])) (h2 : (w.alloc o).grownBy w1 vb.ownBlock) : Tri w0 w1 vb' vp va (lb ++ [x]) lp la := by
  subst hn
  have ha := h.alloc o
  have hs := ha.below.size
  refine ⟨?_, ha.p.kept h2 (apart_rows' ha.p ha.b), ha.a.kept h2 (apart_rows' ha.a ha.b), h.ne, ha.below.grown h2 (by omega) fun k hk => (World.ownsRow.lt ha.b k hk).1⟩
  unfold OwnB
  rw [List.length_append, List.map_append]
  exact h1
theorem Tri.asked {w0 w w1 : World} {vb vp va va' : Value} {lb : List Bool} {lp la : List Int} {n : Nat} {x : Int} {o : Obj} (h : Tri w0 w vb vp va lb lp la) (hn : la.length = n)
    (h1 : w1.ownsRow w0.heap.size 3 1 va' (n + 1) (la.map (Value.int .i64) ++ [.int .i64 x])) (h2 : (w.alloc o).grownBy w1 va.ownBlock) (hat : va'.ownBlock = va.ownBlock ∨ va'.ownBlock = some (w.alloc o).heap.size) : Tri w0 w1 vb vp va' lb lp (la ++ [x]) := by
  subst hn
  have ha := h.alloc o
  have hs := ha.below.size
  refine ⟨ha.b.kept h2 (apart_rows ha.a ha.b), ha.p.kept h2 ha.ne, ?_, ?_, ha.below.grown h2 (by omega) fun k hk => (World.ownsRow.lt ha.a k hk).1⟩
  · unfold OwnI
    rw [List.length_append, List.map_append]
    exact h1
  · rcases hat with e | e
    · rw [e]; exact h.ne
    · rw [e]
      refine .inr fun e2 => ?_
      have := (World.ownsRow.lt ha.p _ e2).2
      omega
theorem Tri.pages {w0 w w1 : World} {vb vp vp' va : Value} {lb : List Bool} {lp la : List Int} {n : Nat} {x : Int} {o : Obj} (h : Tri w0 w vb vp va lb lp la) (hn : lp.length = n)
    (h1 : w1.ownsRow w0.heap.size 3 1 vp' (n + 1) (lp.map (Value.int .i64) ++ [.int .i64 x])) (h2 : (w.alloc o).grownBy w1 vp.ownBlock) (hat : vp'.ownBlock = vp.ownBlock ∨ vp'.ownBlock = some (w.alloc o).heap.size) : Tri w0 w1 vb vp' va lb (lp ++ [x]) la := by
  subst hn
  have ha := h.alloc o
  have hs := ha.below.size
  refine ⟨ha.b.kept h2 (apart_rows ha.p ha.b), ?_, ha.a.kept h2 (ne_swap ha.ne), ?_, ha.below.grown h2 (by omega) fun k hk => (World.ownsRow.lt ha.p k hk).1⟩
  · unfold OwnI
    rw [List.length_append, List.map_append]
    exact h1
  · rcases hat with e | e
    · rw [e]; exact h.ne
    · refine ne_swap (.inr ?_)
      rw [e]
      intro e2
      have := (World.ownsRow.lt ha.a _ e2).2
      omega
theorem Tri.without {w0 w w1 : World} {vb vp va va' : Value} {lb : List Bool} {lp la la' : List Int} (h : Tri w0 w vb vp va lb lp la) (hO : OwnI w1 w.heap.size va' la') (hb : Below w.heap.size w w1) : Tri w0 w1 vb vp va' lb lp la' := by
  have h1 := h.later hb
  refine ⟨h1.b, h1.p, ownI_mono hO h.below.size, ?_, h1.below⟩
  cases hv : vp.ownBlock with
  | none => exact .inl rfl
  | some k =>
    refine .inr fun e => ?_
    have h2 := (World.ownsRow.lt hO k e.symm).1
    have h3 := (World.ownsRow.lt h.p k hv).2
    omega
theorem Tri.copied {w0 w w1 : World} {vb vp vp' va : Value} {lb : List Bool} {lp la : List Int} {n : Nat} (h : Tri w0 w vb vp va lb lp la) (hn : lp.length = n)
    (h1 : w1.ownsRow w0.heap.size 3 1 vp' (0 + n) (lp.map (Value.int .i64))) (h2 : w.grownBy w1 none) (hat : vp'.ownBlock = none ∨ vp'.ownBlock = some w.heap.size) : Tri w0 w1 vb vp' va lb lp la := by
  subst hn
  rw [Nat.zero_add] at h1
  refine ⟨h.b.kept h2 (by cases vb.ownBlock <;> simp), h1, h.a.kept h2 (by cases va.ownBlock <;> simp), ?_, h.below.grown h2 h.below.size (by simp)⟩
  rcases hat with e | e
  · exact .inl e
  · refine ne_swap (.inr ?_)
    rw [e]
    intro e2
    have := (World.ownsRow.lt h.a _ e2).2
    omega
theorem Tri.stored {w0 w : World} {vb va : Value} {g n cap : Nat} {lb : List Bool} {lp la : List Int} (h : Tri w0 w vb (.slice (some ⟨g, 0, none⟩) n cap) va lb lp la) (hn : lp.length = n) (j : Nat) (x : Int) : Tri w0 (w.setCell ⟨g, j, none⟩ (.int .i64 x)) vb (.slice (some ⟨g, 0, none⟩) n cap) va lb (lp.set j x) la := by
  subst hn
  have P := World.ownsRow.stored h.p j (.int .i64 x)
  refine ⟨h.b.kept P.2 (apart_rows h.p h.b), ?_, h.a.kept P.2 (ne_swap h.ne), h.ne, h.below.grown P.2 h.below.size fun k hk => (World.ownsRow.lt h.p k hk).1⟩
  unfold OwnI
  rw [List.length_set, List.map_set]
  exact P.1
/-- One row of ints is another one: written over, or laid anew. -/
theorem Tri.changed {w0 w w1 : World} {vb vp va va' : Value} {lb : List Bool} {lp la la' : List Int} (h : Tri w0 w vb vp va lb lp la) (hO : OwnI w1 w0.heap.size va' la') (hg : w.grownBy w1 va.ownBlock) (hat : va'.ownBlock = va.ownBlock ∨ ∃ k, va'.ownBlock = some k ∧ w.heap.size ≤ k) : Tri w0 w1 vb vp va' lb lp la' := by
  refine ⟨h.b.kept hg (apart_rows h.a h.b), h.p.kept hg h.ne, hO, ?_, h.below.grown hg h.below.size fun k hk => (World.ownsRow.lt h.a k hk).1⟩
  rcases hat with e | ⟨k, e, hk⟩
  · rw [e]; exact h.ne
  · rw [e]
    refine .inr fun e2 => ?_
    have := (World.ownsRow.lt h.p _ e2).2
    omega
end Go.Proofs.YtjcikoaoemingaaDoor
