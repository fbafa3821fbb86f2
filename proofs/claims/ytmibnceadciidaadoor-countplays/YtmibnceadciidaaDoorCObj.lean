/- The heap that counts, in blocks of its own: plain lemmas on worlds. -/
import Derived.Test.YtmibnceadciidaaDoorWorlds
import Derived.Test.YtmibnceadciidaaDoorLists
namespace Go.Proofs.YtmibnceadciidaaDoor
set_option maxRecDepth 100000
open Go.RowKit Go.Sort

/-- Of the blocks that lay, those in S alone may be turned; S' are some of those, and new ones. -/
structure Stp (S S' : Nat → Prop) (w w' : World) : Prop where
  os : w'.os = w.os
  tape : w'.tape = w.tape
  output : w'.output = w.output
  size : w.heap.size ≤ w'.heap.size
  block : ∀ k, k < w.heap.size → ¬ S k → w'.heap[k]? = w.heap[k]?
  set : ∀ k, S' k → S k ∨ w.heap.size ≤ k
def In (S : Nat → Prop) (u : Value) : Prop := ∀ k, u.ownBlock = some k → S k
def Out (S : Nat → Prop) (u : Value) : Prop := ∀ k, u.ownBlock = some k → ¬ S k
section
variable {S S' S'' : Nat → Prop} {w w1 w2 : World} {u v : Value}
theorem Stp.refl (S : Nat → Prop) (w : World) : Stp S S w w := ⟨rfl, rfl, rfl, Nat.le_refl _, fun _ _ _ => rfl, fun _ h => .inl h⟩
theorem Stp.trans (h : Stp S S' w w1) (k : Stp S' S'' w1 w2) : Stp S S'' w w2 :=
  ⟨k.os.trans h.os, k.tape.trans h.tape, k.output.trans h.output, Nat.le_trans h.size k.size,
    fun i hi hn => (k.block i (Nat.lt_of_lt_of_le hi h.size) fun e => (h.set i e).elim hn fun e => by omega).trans (h.block i hi hn),
    fun i hi => by
      have := h.size
      rcases k.set i hi with e | e
      · exact h.set i e
      · exact .inr (by omega)⟩
theorem Stp.later (S : Nat → Prop) (h : Below w.heap.size w w1) : Stp S S w w1 := ⟨h.os, h.tape, h.output, h.size, fun k hk _ => h.block k hk, fun _ h => .inl h⟩
theorem Stp.less (h : Stp S S' w w1) (hs : ∀ k, S'' k → S' k) : Stp S S'' w w1 := ⟨h.os, h.tape, h.output, h.size, h.block, fun k hk => h.set k (hs k hk)⟩
theorem Stp.more (h : Stp S S' w w1) (hs : ∀ k, S k → S'' k) : Stp S'' S' w w1 := ⟨h.os, h.tape, h.output, h.size, fun k hk hn => h.block k hk fun e => hn (hs k e), fun k hk => (h.set k hk).imp (hs k) id⟩
theorem Stp.below {B : Nat} (h : Stp S S' w w1) (hB : B ≤ w.heap.size) (hs : ∀ k, S k → B ≤ k) : Below B w w1 := ⟨h.os, h.tape, h.output, h.size, fun k hk => h.block k (by omega) fun e => by have := hs k e; omega⟩
theorem Stp.ge {B : Nat} (h : Stp S S' w w1) (hB : B ≤ w.heap.size) (hs : ∀ k, S k → B ≤ k) : ∀ k, S' k → B ≤ k := fun k hk => (h.set k hk).elim (hs k) fun e => by omega
/-- A row that lies outside is kept, and lies outside. -/
theorem Stp.row {base t s n : Nat} {xs : List Value} (h : Stp S S' w w1) (ho : w.ownsRow base t s u n xs) (hu : Out S u) : w1.ownsRow base t s u n xs ∧ Out S' u := by
  refine ⟨⟨ho.1, ?_⟩, fun k hk e => ?_⟩
  · rcases ho.2 with h0 | ⟨b, cap, cur, hv, hB2, hb2, rest⟩
    · exact .inl h0
    · have hbs := (Array.getElem?_eq_some_iff.1 hb2).1
      exact .inr ⟨b, cap, cur, hv, hB2, by rw [h.block b hbs (hu b (by rw [hv]; rfl))]; exact hb2, rest⟩
  · have := World.ownsRow.lt ho k hk
    rcases h.set k e with e | e
    · exact hu k hk e
    · omega
theorem Out.new {base t s n : Nat} {xs : List Value} (ho : w.ownsRow base t s u n xs) (h : ∀ k, S k → k < base) : Out S u := fun k hk e => by
  have := World.ownsRow.lt ho k hk
  have := h k e
  omega
/-- Rows of numbers that lie outside. -/
def OwnX (S : Nat → Prop) (w : World) (base : Nat) (v : Value) (X : List (List Int)) : Prop :=
  ∃ us : List Value, us.length = X.length ∧ w.ownsRow base 25 1 v X.length us ∧ Out S v ∧ ∀ j u, us[j]? = some u → OwnI w base u (rowAt X j) ∧ Out S u
theorem OwnX.ownR {base : Nat} {X : List (List Int)} (h : OwnX S w base v X) : OwnR w base v X := by
  obtain ⟨us, h1, h2, _, h3⟩ := h
  exact ⟨us, h1, h2, fun j u hj => (h3 j u hj).1⟩
theorem OwnX.new {base : Nat} {X : List (List Int)} (h : OwnR w base v X) (hs : ∀ k, S k → k < base) : OwnX S w base v X := by
  obtain ⟨us, h1, h2, h3⟩ := h
  exact ⟨us, h1, h2, Out.new h2 hs, fun j u hj => ⟨h3 j u hj, Out.new (h3 j u hj) hs⟩⟩
theorem OwnX.step {base : Nat} {X : List (List Int)} (h : OwnX S w base v X) (hs : Stp S S' w w1) : OwnX S' w1 base v X := by
  obtain ⟨us, h1, h2, h4, h3⟩ := h
  have a := hs.row h2 h4
  exact ⟨us, h1, a.1, a.2, fun j u hj => hs.row (h3 j u hj).1 (h3 j u hj).2⟩
end
/-- The heap's box, its row of rows and its roots. -/
structure CH (w : World) (S : Nat → Prop) (a : Nat) (c : KS) (vo vr : Value) (us : List Value) : Prop where
  box : w.heap[a]? = some (.cells #[vo, vr] 49 (0, 0))
  at_ : S a
  lt : ∀ k, S k → k < w.heap.size
  len : us.length = c.outs.length
  outs : w.ownsRow 0 25 1 vo c.outs.length us
  outsS : In S vo
  rows : ∀ (j : Nat) (u : Value), us[j]? = some u → OwnI w 0 u (rowAt c.outs j) ∧ In S u ∧ Apart u vr
  apart : ∀ (i j : Nat) (u x : Value), us[i]? = some u → us[j]? = some x → i ≠ j → Apart u x
  roots : OwnI w 0 vr c.roots
  rootsS : In S vr
def CHeap (w : World) (S : Nat → Prop) (a : Nat) (c : KS) : Prop := ∃ vo vr us, CH w S a c vo vr us
section
variable {S S' : Nat → Prop} {w w1 w2 : World} {a : Nat} {c : KS} {vo vr vo' vr' u u' : Value} {us : List Value}
theorem CH.kept (h : CH w S a c vo vr us) (hs : w.heap.size ≤ w1.heap.size) (hk : ∀ k, S k → w1.heap[k]? = w.heap[k]?) : CH w1 S a c vo vr us := by
  have key : ∀ {t s n : Nat} {x : Value} {xs : List Value}, w.ownsRow 0 t s x n xs → In S x → w1.ownsRow 0 t s x n xs := by
    intro t s n x xs ho hu
    refine ⟨ho.1, ?_⟩
    rcases ho.2 with h0 | ⟨g, cap, cur, hv, hB, hg, rest⟩
    · exact .inl h0
    · exact .inr ⟨g, cap, cur, hv, hB, by rw [hk g (hu g (by rw [hv]; rfl))]; exact hg, rest⟩
  exact ⟨by rw [hk a h.at_]; exact h.box, h.at_, fun k hS => Nat.lt_of_lt_of_le (h.lt k hS) hs, h.len, key h.outs h.outsS, h.outsS, fun j u hj => ⟨key (h.rows j u hj).1 (h.rows j u hj).2.1, (h.rows j u hj).2⟩, h.apart, key h.roots h.rootsS, h.rootsS⟩
theorem CHeap.later (h : CHeap w S a c) (hb : Below w.heap.size w w1) : CHeap w1 S a c := by
  obtain ⟨vo, vr, us, h⟩ := h
  exact ⟨vo, vr, us, h.kept hb.size fun k hS => hb.block k (h.lt k hS)⟩
theorem CHeap.lt (h : CHeap w S a c) : ∀ k, S k → k < w.heap.size := by
  obtain ⟨vo, vr, us, h⟩ := h
  exact h.lt
theorem CH.box_ne {t t' s n base : Nat} {xs : List Value} (h : w.ownsRow base t s u n xs) (hc : w.heap[a]? = some (.cells #[vo, vr] t' (0, 0))) (ht : t ≠ t') : u.ownBlock ≠ some a := own_not h hc ht
theorem grown_alloc {o : Obj} {row : Option Nat} (h : (w.alloc o).grownBy w1 row) : w.grownBy w1 row :=
  ⟨h.os, h.tape, h.output, by have := h.size; simp at this; omega, fun k hk hn => by rw [h.block k (by simp; omega) hn, heap_alloc_old _ _ hk]⟩
/-- The set, and all blocks that are new. -/
def Plus (S : Nat → Prop) (w w1 : World) : Nat → Prop := fun k => S k ∨ (w.heap.size ≤ k ∧ k < w1.heap.size)
theorem Plus.stp {row : Option Nat} (hg : w.grownBy w1 row) (hr : ∀ k, row = some k → S k) : Stp S (Plus S w w1) w w1 :=
  ⟨hg.os, hg.tape, hg.output, hg.size, fun k hk hn => hg.block k hk fun e => hn (hr k e.symm), fun _ hk => hk.imp id fun e => e.1⟩
theorem Stp.set1 {g j : Nat} {x : Value} (h : Stp S S' w w1) (hg : S g) : Stp S S' w (w1.setCell ⟨g, j, none⟩ x) :=
  ⟨h.os, h.tape, h.output, by have := h.size; simpa [World.setCell] using this, fun k hk hn => (heap_setCell_other w1 ⟨g, j, none⟩ k x (fun e => hn (by rw [show k = g from e]; exact hg))).trans (h.block k hk hn), h.set⟩
theorem plus_in (h : In S u) : In (Plus S w w1) u := fun k hk => .inl (h k hk)
theorem plus_new {base t s n : Nat} {xs : List Value} (ho : w1.ownsRow base t s u' n xs) (h : In S u) (hat : ∀ k, u'.ownBlock = some k → u.ownBlock = some k ∨ w.heap.size ≤ k) : In (Plus S w w1) u' := fun k hk => by
  have := World.ownsRow.lt ho k hk
  rcases hat k hk with e | e
  · exact .inl (h k e)
  · exact .inr ⟨e, this.2⟩
/-- What lay apart of a row lies apart of what it grew to. -/
theorem apart_grown {base t s n : Nat} {xs : List Value} {x : Value} (ho : w.ownsRow base t s x n xs) (h : Apart x u) (hat : ∀ k, u'.ownBlock = some k → u.ownBlock = some k ∨ w.heap.size ≤ k) : Apart x u' := fun k hk e => by
  have := World.ownsRow.lt ho k hk
  rcases hat k e with e | e
  · exact h k hk e
  · omega
theorem apart_symm {x : Value} (h : Apart x u) : Apart u x := fun k hk e => h k e hk
theorem apart_none {x : Value} (h : Apart x u) : x.ownBlock = none ∨ x.ownBlock ≠ u.ownBlock := by
  cases hx : x.ownBlock with
  | none => exact .inl rfl
  | some k => exact .inr fun e => h k hx e.symm
/-- Other roots. -/
theorem CH.setRoots {R : List Int} (h : CH w S a c vo vr us) (hg : w.grownBy w1 vr.ownBlock) (hv : OwnI w1 0 vr' R) (hat : ∀ k, vr'.ownBlock = some k → vr.ownBlock = some k ∨ w.heap.size ≤ k) :
    CH (w1.setCell ⟨a, 1, none⟩ vr') (Plus S w w1) a ⟨c.outs, R, c.here⟩ vo vr' us ∧ Stp S (Plus S w w1) w (w1.setCell ⟨a, 1, none⟩ vr') := by
  have hab : w1.heap[a]? = some (.cells #[vo, vr] 49 (0, 0)) := by rw [hg.block a (h.lt a h.at_) (fun e => own_not h.roots h.box (by decide) e.symm)]; exact h.box
  have hs := grown_set w1 a 1 vr'
  have hvo : w1.ownsRow 0 25 1 vo c.outs.length us := World.ownsRow.kept h.outs hg (apart_none (apart_type h.outs h.roots (by decide)))
  have hst : Stp S (Plus S w w1) w w1 := Plus.stp hg fun k e => h.rootsS k e
  refine ⟨⟨box_set1 _ hab, .inl h.at_, fun k hk => ?_, h.len, own_set hvo hab (by decide) _, plus_in h.outsS, fun j u hj => ?_, h.apart, own_set hv hab (by decide) _, plus_new hv h.rootsS hat⟩, hst.set1 h.at_⟩
  · have hz := hg.size
    rw [show (w1.setCell ⟨a, 1, none⟩ vr').heap.size = w1.heap.size by simp [World.setCell]]
    rcases hk with hk | hk
    · have := h.lt k hk; omega
    · exact hk.2
  · obtain ⟨r1, r2, r3⟩ := h.rows j u hj
    have r4 : OwnI w1 0 u (rowAt c.outs j) := World.ownsRow.kept r1 hg (apart_none r3)
    exact ⟨own_set r4 hab (by decide) _, plus_in r2, apart_grown r1 r3 hat⟩
theorem rowAt_set {X : List (List Int)} {k : Nat} {r : List Int} (hk : k < X.length) (j : Nat) : rowAt (X.set k r) j = if j = k then r else rowAt X j := by
  unfold rowAt
  split
  · rename_i e
    subst e
    rw [List.getElem?_set_self hk]; rfl
  · rename_i e
    rw [List.getElem?_set_ne (fun x => e x.symm)]
/-- Another row. -/
theorem CH.setRow {r : List Int} {g i cap n : Nat} (h : CH w S a c (.slice (some ⟨g, 0, none⟩) n cap) vr us) (hi : us[i]? = some u) (hg : w.grownBy w1 u.ownBlock) (hv : OwnI w1 0 u' r) (hat : ∀ k, u'.ownBlock = some k → u.ownBlock = some k ∨ w.heap.size ≤ k) :
    CH (w1.setCell ⟨g, i, none⟩ u') (Plus S w w1) a ⟨c.outs.set i r, c.roots, c.here⟩ (.slice (some ⟨g, 0, none⟩) n cap) vr (us.set i u') ∧ Stp S (Plus S w w1) w (w1.setCell ⟨g, i, none⟩ u') := by
  obtain ⟨q1, q2, q3⟩ := h.rows i u hi
  have hil : i < us.length := (List.getElem?_eq_some_iff.1 hi).1
  have hic : i < c.outs.length := by rw [← h.len]; exact hil
  have hSg : S g := h.outsS g rfl
  have hga : g ≠ a := fun e => own_not h.outs h.box (by decide) (by rw [← e]; rfl)
  have hab : w1.heap[a]? = some (.cells #[.slice (some ⟨g, 0, none⟩) n cap, vr] 49 (0, 0)) := by rw [hg.block a (h.lt a h.at_) (fun e => own_not q1 h.box (by decide) e.symm)]; exact h.box
  have hs := grown_set w1 g i u'
  have hvo : w1.ownsRow 0 25 1 (.slice (some ⟨g, 0, none⟩) n cap) c.outs.length us := World.ownsRow.kept h.outs hg (apart_none (apart_type h.outs q1 (by decide)))
  have hn : n = c.outs.length := by
    rcases h.outs.2 with ⟨e, _⟩ | ⟨_, _, _, e, _⟩
    · simp at e
    · simp only [Value.slice.injEq] at e
      exact e.2.1
  subst hn
  have hvo2 := (World.ownsRow.stored hvo i u').1
  have hst : Stp S (Plus S w w1) w w1 := Plus.stp hg fun k e => q2 k e
  have hrt : OwnI w1 0 vr c.roots := World.ownsRow.kept h.roots hg (apart_none (apart_symm q3))
  have key : ∀ {x : Value} {l : List Int}, OwnI w1 0 x l → OwnI (w1.setCell ⟨g, i, none⟩ u') 0 x l := fun {x l} hx => World.ownsRow.kept hx hs (apart_none (apart_type hx hvo (by decide)))
  refine ⟨⟨?_, .inl h.at_, fun k hk => ?_, by simp [h.len], by rw [List.length_set]; exact hvo2, plus_in h.outsS, fun j x hj => ?_, fun j k x y hj hk hne => ?_, key hrt, plus_in h.rootsS⟩, hst.set1 hSg⟩
  · rw [heap_setCell_other w1 ⟨g, i, none⟩ a u' (fun e => hga e.symm)]; exact hab
  · have hz := hg.size
    rw [show (w1.setCell ⟨g, i, none⟩ u').heap.size = w1.heap.size by simp [World.setCell]]
    rcases hk with hk | hk
    · have := h.lt k hk; omega
    · exact hk.2
  · show OwnI _ 0 x (rowAt (c.outs.set i r) j) ∧ _
    rw [rowAt_set hic]
    by_cases e : j = i
    · subst e
      rw [List.getElem?_set_self hil] at hj
      cases hj
      rw [if_pos rfl]
      exact ⟨key hv, plus_new hv q2 hat, apart_symm (apart_grown h.roots (apart_symm q3) hat)⟩
    · rw [List.getElem?_set_ne (fun x => e x.symm)] at hj
      rw [if_neg e]
      obtain ⟨r1, r2, r3⟩ := h.rows j x hj
      exact ⟨key (World.ownsRow.kept r1 hg (apart_none (h.apart j i x u hj hi e))), plus_in r2, r3⟩
  · by_cases ej : j = i
    · subst ej
      rw [List.getElem?_set_self hil] at hj
      cases hj
      rw [List.getElem?_set_ne hne] at hk
      exact apart_symm (apart_grown (h.rows k y hk).1 (h.apart k j y u hk hi (fun e => hne e.symm)) hat)
    · rw [List.getElem?_set_ne (fun x => ej x.symm)] at hj
      by_cases ek : k = i
      · subst ek
        rw [List.getElem?_set_self hil] at hk
        cases hk
        exact apart_grown (h.rows j x hj).1 (h.apart j k x u hj hi ej) hat
      · rw [List.getElem?_set_ne (fun x => ek x.symm)] at hk
        exact h.apart j k x y hj hk hne
/-- A row more, with nothing in it. -/
theorem CH.addRow (h : CH w S a c vo vr us) (hg : w.grownBy w1 vo.ownBlock) (hv : w1.ownsRow 0 25 1 vo' (c.outs.length + 1) (us ++ [.slice none 0 0])) (hat : ∀ k, vo'.ownBlock = some k → vo.ownBlock = some k ∨ w.heap.size ≤ k) :
    CH (w1.setCell ⟨a, 0, none⟩ vo') (Plus S w w1) a ⟨c.outs ++ [[]], c.roots, c.here⟩ vo' vr (us ++ [.slice none 0 0]) ∧ Stp S (Plus S w w1) w (w1.setCell ⟨a, 0, none⟩ vo') := by
  have hab : w1.heap[a]? = some (.cells #[vo, vr] 49 (0, 0)) := by rw [hg.block a (h.lt a h.at_) (fun e => own_not h.outs h.box (by decide) e.symm)]; exact h.box
  have hst : Stp S (Plus S w w1) w w1 := Plus.stp hg fun k e => h.outsS k e
  have key : ∀ {x : Value} {l : List Int}, OwnI w 0 x l → OwnI (w1.setCell ⟨a, 0, none⟩ vo') 0 x l := fun {x l} hx => own_set (World.ownsRow.kept hx hg (apart_none (apart_type hx h.outs (by decide)))) hab (by decide) _
  have hrow : ∀ j x, (us ++ [.slice none 0 0])[j]? = some x → (us[j]? = some x ∧ j < us.length) ∨ (x = .slice none 0 0 ∧ j = us.length) := fun j x hj => by
    by_cases hjl : j < us.length
    · rw [List.getElem?_append_left hjl] at hj
      exact .inl ⟨hj, hjl⟩
    · have h0 := (List.getElem?_eq_some_iff.1 hj).1
      rw [List.length_append] at h0
      have hje : j = us.length := by simp at h0; omega
      subst hje
      rw [List.getElem?_append_right (by omega)] at hj
      exact .inr ⟨by simpa using hj.symm, rfl⟩
  refine ⟨⟨box_set0 _ hab, .inl h.at_, fun k hk => ?_, by simp [h.len], by rw [List.length_append]; exact own_set hv hab (by decide) _, plus_new hv h.outsS hat, fun j x hj => ?_, fun i j x y hi hj hne => ?_, key h.roots, plus_in h.rootsS⟩, hst.set1 h.at_⟩
  · have hz := hg.size
    rw [show (w1.setCell ⟨a, 0, none⟩ vo').heap.size = w1.heap.size by simp [World.setCell]]
    rcases hk with hk | hk
    · have := h.lt k hk; omega
    · exact hk.2
  · show OwnI _ 0 x (rowAt (c.outs ++ [[]]) j) ∧ _
    rcases hrow j x hj with ⟨hj', hjl⟩ | ⟨rfl, rfl⟩
    · obtain ⟨r1, r2, r3⟩ := h.rows j x hj'
      have hjc : j < c.outs.length := by rw [← h.len]; exact hjl
      have e : rowAt (c.outs ++ [[]]) j = rowAt c.outs j := by unfold rowAt; rw [List.getElem?_append_left hjc]
      rw [e]
      exact ⟨key r1, plus_in r2, r3⟩
    · have e : rowAt (c.outs ++ [[]]) us.length = [] := by unfold rowAt; rw [h.len, List.getElem?_append_right (Nat.le_refl _)]; simp
      rw [e]
      exact ⟨OwnI.nil _ _, fun k hk => by simp [Value.ownBlock] at hk, apart_nil _⟩
  · rcases hrow i x hi with ⟨hi', _⟩ | ⟨rfl, rfl⟩
    · rcases hrow j y hj with ⟨hj', _⟩ | ⟨rfl, rfl⟩
      · exact h.apart i j x y hi' hj' hne
      · exact apart_symm (apart_nil _)
    · exact apart_nil _
/-- Opened: forms and cells. -/
theorem CH.forms (h : CH w S a c vo vr us) : ∃ ao co ar cr, vo = .slice ao c.outs.length co ∧ vr = .slice ar c.roots.length cr ∧ co ≤ 9223372036854775807 ∧ cr ≤ 9223372036854775807 ∧ c.outs.length ≤ co ∧ c.roots.length ≤ cr := by
  obtain ⟨ar, cr, e, hcr, _⟩ := h.roots.isInts.opened
  obtain ⟨ar2, cr2, e2, hl2⟩ : ∃ ar cr, vr = .slice ar c.roots.length cr ∧ c.roots.length ≤ cr := by
    rcases h.roots.2 with ⟨e, h0⟩ | ⟨g, cap, cur, e, _, _, hn, _⟩
    · exact ⟨none, 0, by rw [e, h0], by omega⟩
    · exact ⟨_, cap, e, hn⟩
  obtain ⟨ao, co, e3, hl3, hc3⟩ : ∃ ao co, vo = .slice ao c.outs.length co ∧ c.outs.length ≤ co ∧ co ≤ maxLen := by
    rcases h.outs.2 with ⟨e, h0⟩ | ⟨g, cap, cur, e, _, _, hn, hm, _⟩
    · exact ⟨none, 0, by rw [e, h0], by omega, by simp⟩
    · exact ⟨_, cap, e, hn, hm⟩
  rw [e] at e2
  simp only [Value.slice.injEq, true_and] at e2
  obtain ⟨rfl, rfl⟩ := e2
  exact ⟨ao, co, ar, cr, e3, e, hc3, hcr, hl3, hl2⟩
/-- One row. -/
theorem CH.row {n co j : Nat} {ao : Option Addr} (h : CH w S a c (.slice ao n co) vr us) (hj : j < c.outs.length) : ∃ g u, ao = some ⟨g, 0, none⟩ ∧ us[j]? = some u ∧ w.cell? ⟨g, j, none⟩ = some u ∧ w.frozen? ⟨g, j, none⟩ = false ∧ g < w.heap.size ∧ OwnI w 0 u (rowAt c.outs j) := by
  have hju : j < us.length := by rw [h.len]; exact hj
  have hu := List.getElem?_eq_getElem hju
  have ho := h.outs
  rcases ho.2 with ⟨_, h0⟩ | ⟨g, cap, cur, e, hB, hg, hn, hm, _⟩
  · omega
  · simp only [Value.slice.injEq] at e
    obtain ⟨rfl, rfl, rfl⟩ := e
    exact ⟨g, us[j], rfl, hu, by rw [World.ownsRow.cellAt ho j (by omega), hu], World.ownsRow.frozenAt ho j, (Array.getElem?_eq_some_iff.1 hg).1, (h.rows j _ hu).1⟩
theorem CH.isRows (h : CH w S a c vo vr us) : IsRows w vo c.outs := OwnR.isRows ⟨us, h.len, h.outs, fun j u hj => (h.rows j u hj).1⟩
end
end Go.Proofs.YtmibnceadciidaaDoor
