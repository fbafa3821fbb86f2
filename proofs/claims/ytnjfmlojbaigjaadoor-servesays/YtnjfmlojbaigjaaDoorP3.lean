/- Places of three servers, as arrays of ints, and tables from these to numbers: keys, and maps of one's own; the walks of a table's offer and All. -/
import Derived.Test.YtnjfmlojbaigjaaDoorBase
import Derived.Maps.OwnIn
import Derived.Maps.OwnSet
import Derived.DeepKeys5
import Derived.RangeFuncNested
import Derived.RangeFuncBound
import Derived.RangeFuncCalls
import Derived.RangeFuncLeaves
import Derived.RangeFuncBox
import Derived.Sort.MapsRangeIn
import Derived.Shelf.Abstract
import Derived.Shelf.RegionOpen
import Derived.OwnWalkIn
import Derived.TacticsInMore
import Derived.LoopNIn
import Derived.LoopIn
namespace Go.Proofs.YtnjfmlojbaigjaaDoor
namespace Pl
set_option maxRecDepth 100000
open Go.RowKit Go.Maps
open Go.WideElems (Fit rd rg)

/-- Three numbers, as a key has them. -/
structure G3 where
  (a b c : Int)
  wf : (Lit.int .i64 a).wf = true ∧ (Lit.int .i64 b).wf = true ∧ (Lit.int .i64 c).wf = true
abbrev G3.v (s : G3) : Value := .agg #[.int .i64 s.a, .int .i64 s.b, .int .i64 s.c]
def G3.key (s : G3) : Lit := .string (keyBytes [.int .i64 s.a, .int .i64 s.b, .int .i64 s.c])
theorem G3.keyLit (s : G3) : WideAt.IsKeyLit s.key := by unfold G3.key; trivial
theorem places_cells : Tryd.prog.cellsOf 47 = 3 := by kernel_rfl
theorem int_cells : Tryd.prog.cellsOf 3 = 1 := by kernel_rfl
theorem places_wide : (match Tryd.prog.underlying 47 with | some (.array _ _) | some (.struct _) => true | _ => false) = true := by kernel_rfl
theorem places_laid : laidOutB Tryd.prog = true := by kernel_rfl
theorem places_keyed : Keyed Tryd.prog 47 := Keyed.of_law (deep_law_gate places_laid (of_decide_eq_true (by kernel_rfl)) (of_decide_eq_true (by kernel_rfl)) (by kernel_rfl) places_wide)
theorem int_lits {D : Nat} {n : Int} (h : (Lit.int .i64 n).wf = true) : Tryd.prog.keyLits (D + 1) 3 [.int .i64 n] = some [.int .i64 n] := by
  unfold Program.keyLits
  rw [Tryd.underlying3]
  simp [h]
theorem int_lits_inv {D : Nat} {c : Value} {L : List Lit} (h : Tryd.prog.keyLits D 3 [c] = some L) : ∃ n, c = .int .i64 n ∧ (Lit.int .i64 n).wf = true ∧ L = [.int .i64 n] := by
  cases D with
  | zero => simp [Program.keyLits] at h
  | succ D =>
    unfold Program.keyLits at h
    rw [Tryd.underlying3] at h
    cases c <;> simp at h
    obtain ⟨⟨rfl, h1⟩, h2⟩ := h
    exact ⟨_, rfl, h1, h2.symm⟩
theorem places_lits (D : Nat) (s : G3) : Tryd.prog.keyLits (D + 1 + 1) 47 [.int .i64 s.a, .int .i64 s.b, .int .i64 s.c] = some [.int .i64 s.a, .int .i64 s.b, .int .i64 s.c] := by
  obtain ⟨a, b, c, h0, h1, h2⟩ := s
  unfold Program.keyLits
  rw [Tryd.underlying47]
  simp only [places_cells, int_cells]
  simp [List.range, List.range.loop, List.mapM_cons, int_lits h0, int_lits h1, int_lits h2]
theorem types_some : ∃ D, Tryd.prog.types.size = D + 1 := ⟨Tryd.prog.types.size - 1, by have : (0 < Tryd.prog.types.size) := of_decide_eq_true (by kernel_rfl); omega⟩
theorem gkey_of (s : G3) : keyOf Tryd.prog 47 s.v = some s.key := by
  have hk : Tryd.prog.keyType 47 = true := by kernel_rfl
  have hf : s.v.formed Tryd.prog 47 = true := by
    unfold Value.formed
    rw [Tryd.underlying47]
    simp [places_cells]
  obtain ⟨D, hD⟩ := types_some
  unfold keyOf
  rw [Tryd.underlying47, hD]
  simp only [hk, hf, Bool.and_self, if_true]
  have := places_lits D s
  simp only [Value.cells]
  rw [this]; rfl
theorem gkey_inv {v : Value} {l : Lit} (h : keyOf Tryd.prog 47 v = some l) : ∃ s : G3, v = s.v ∧ l = s.key := by
  obtain ⟨xs, L, rfl, hL, _⟩ := keyOf_top places_wide h
  obtain ⟨D, hD⟩ := types_some
  rw [hD] at hL
  unfold Program.keyLits at hL
  rw [Tryd.underlying47] at hL
  simp only [places_cells, int_cells] at hL
  split at hL
  · rename_i hlen
    obtain ⟨xs⟩ := xs
    match xs, hlen with
    | [c0, c1, c2], _ =>
      have hb : ∀ i, i < 3 → ∃ L', Tryd.prog.keyLits (D + 1) 3 (([c0, c1, c2].drop (i * 1)).take 1) = some L' := by
        intro i hi
        obtain ⟨Ls, hm, _⟩ := Option.map_eq_some_iff.1 hL
        cases hk : Tryd.prog.keyLits (D + 1) 3 (([c0, c1, c2].drop (i * 1)).take 1) with
        | some L' => exact ⟨L', rfl⟩
        | none =>
          exfalso
          have : i = 0 ∨ i = 1 ∨ i = 2 := by omega
          rcases this with rfl | rfl | rfl <;> simp [List.range, List.range.loop, List.mapM_cons] at hm hk <;> simp [hk] at hm
      obtain ⟨x0, rfl, w0, _⟩ := int_lits_inv (hb 0 (by omega)).choose_spec
      obtain ⟨x1, rfl, w1, _⟩ := int_lits_inv (hb 1 (by omega)).choose_spec
      obtain ⟨x2, rfl, w2, _⟩ := int_lits_inv (hb 2 (by omega)).choose_spec
      have e := gkey_of ⟨x0, x1, x2, w0, w1, w2⟩
      exact ⟨⟨x0, x1, x2, w0, w1, w2⟩, rfl, Option.some.inj (h.symm.trans e)⟩
  · cases hL
theorem G3.key_inj {s t : G3} (h : s.key = t.key) : s = t := by
  have e := places_keyed.inj (gkey_of s) (h ▸ gkey_of t)
  obtain ⟨a, b, c, _⟩ := s
  obtain ⟨a', b', c', _⟩ := t
  simp [G3.v] at e
  obtain ⟨rfl, rfl, rfl⟩ := e
  rfl

/-- Where three servers are. -/
structure P3 where
  (a b c : Fin 13)
  deriving DecidableEq
abbrev P3.v (s : P3) : Value := .agg #[.int .i64 (s.a.val : Nat), .int .i64 (s.b.val : Nat), .int .i64 (s.c.val : Nat)]
abbrev P3.cells (s : P3) : Array Value := #[.int .i64 (s.a.val : Nat), .int .i64 (s.b.val : Nat), .int .i64 (s.c.val : Nat)]
theorem wf_tiny (x : Fin 13) : (Lit.int .i64 ((x.val : Nat) : Int)).wf = true := WalkArith.wf_i64 (by have := x.isLt; omega)
def P3.g (s : P3) : G3 := ⟨s.a.val, s.b.val, s.c.val, wf_tiny _, wf_tiny _, wf_tiny _⟩
theorem P3.g_inj {s t : P3} (h : s.g = t.g) : s = t := by
  obtain ⟨a, b, c⟩ := s
  obtain ⟨a', b', c'⟩ := t
  simp [P3.g] at h
  obtain ⟨h0, h1, h2⟩ := h
  have e0 : a = a' := Fin.ext (by omega)
  have e1 : b = b' := Fin.ext (by omega)
  have e2 : c = c' := Fin.ext (by omega)
  rw [e0, e1, e2]
abbrev P3.key (s : P3) : Lit := s.g.key
theorem P3.key_inj {s t : P3} (h : s.key = t.key) : s = t := P3.g_inj (G3.key_inj h)
theorem P3.keyLit (s : P3) : WideAt.IsKeyLit s.key := G3.keyLit _
theorem key_of (s : P3) : keyOf Tryd.prog 47 s.v = some s.key := gkey_of s.g
def P3.num (s : P3) : Nat := s.a.val + 13 * s.b.val + 169 * s.c.val
theorem P3.num_lt (s : P3) : s.num < 2197 := by
  have := s.a.isLt; have := s.b.isLt; have := s.c.isLt
  unfold P3.num; omega
theorem P3.num_inj {s t : P3} (h : s.num = t.num) : s = t := by
  obtain ⟨a, b, c⟩ := s
  obtain ⟨a', b', c'⟩ := t
  unfold P3.num at h
  simp only [] at h
  have := a.isLt; have := b.isLt; have := c.isLt
  have := a'.isLt; have := b'.isLt; have := c'.isLt
  have e0 : a = a' := Fin.ext (by omega)
  have e1 : b = b' := Fin.ext (by omega)
  have e2 : c = c' := Fin.ext (by omega)
  rw [e0, e1, e2]

/-! A table in the world: a map of one's own, which tells T. -/
def Tell {H : Type} (D : DataW H) (s : P3) : Option Nat → Prop
  | none => has D s.key = false
  | some x => has D s.key = true ∧ ∀ z, D.atKey s.key z = .lit (.int .i64 x)
def Few {H : Type} (D : DataW H) : Prop := ∀ g : G3, has D g.key = true → ∃ s : P3, g = s.g
def IsTab (H : Type) (W : World) (b : Nat) (T : P3 → Option Nat) : Prop :=
  ∃ D : DataW H, W.ownsMap Tryd.prog 47 (plainElem Tryd.prog 3) b 2197 D ∧ (∀ s, Tell D s (T s)) ∧ Few D
theorem IsTab.lt {H : Type} {W : World} {b : Nat} {T : P3 → Option Nat} (h : IsTab H W b T) : b < W.heap.size := by obtain ⟨D, h, _⟩ := h; exact h.lt
theorem IsTab.kept {H : Type} {W W' : World} {b : Nat} {T : P3 → Option Nat} {row : Option Nat} (h : IsTab H W b T) (hg : W.grownBy W' row) (hne : some b ≠ row) : IsTab H W' b T := by
  obtain ⟨D, h1, h2⟩ := h; exact ⟨D, h1.kept hg hne, h2⟩
theorem IsTab.obj {H : Type} {W : World} {b : Nat} {T : P3 → Option Nat} (h : IsTab H W b T) : ∃ es ck, W.heap[b]? = some (.map es ck) := by
  obtain ⟨D, ⟨es, ck, hh, _⟩, _⟩ := h; exact ⟨es, ck, hh⟩
theorem IsTab.same {H : Type} {W W' : World} {b : Nat} {T : P3 → Option Nat} (h : IsTab H W b T) (he : W'.heap[b]? = W.heap[b]?) : IsTab H W' b T := by
  obtain ⟨D, ⟨es, ck, hh, r⟩, h2⟩ := h; exact ⟨D, ⟨es, ck, he.trans hh, r⟩, h2⟩
theorem nd_few : ∀ (n : Nat) (l : List Nat), l.Nodup → (∀ x, x ∈ l → x < n) → l.length ≤ n
  | 0, l, _, h => by cases l with | nil => simp | cons x r => exact absurd (h x List.mem_cons_self) (Nat.not_lt_zero _)
  | n + 1, l, hn, h => by
    have h1 : (l.erase n).length ≤ n := nd_few n _ (hn.erase _) fun x hx => by
      have := h x (List.mem_of_mem_erase hx)
      have hne : x ≠ n := fun e => by subst e; exact (List.Nodup.not_mem_erase hn) hx
      omega
    by_cases hm : n ∈ l
    · rw [List.length_erase_of_mem hm] at h1; omega
    · rw [List.erase_of_not_mem hm] at h1; omega
def P3.at (s : P3) (k : Nat) : Fin 13 := if k = 0 then s.a else if k = 1 then s.b else s.c
def P3.set (s : P3) (k : Nat) (x : Fin 13) : P3 := if k = 0 then ⟨x, s.b, s.c⟩ else if k = 1 then ⟨s.a, x, s.c⟩ else ⟨s.a, s.b, x⟩
theorem P3.cells_at (s : P3) (k : Nat) (hk : k < 3) : s.cells[k]? = some (.int .i64 ((s.at k).val : Nat)) := by
  have : k = 0 ∨ k = 1 ∨ k = 2 := by omega
  rcases this with rfl | rfl | rfl <;> rfl
theorem P3.cells_set (s : P3) (k : Nat) (hk : k < 3) (x : Fin 13) : s.cells.setIfInBounds k (.int .i64 (x.val : Nat)) = (s.set k x).cells := by
  have : k = 0 ∨ k = 1 ∨ k = 2 := by omega
  rcases this with rfl | rfl | rfl <;> rfl
end Pl
end Go.Proofs.YtnjfmlojbaigjaaDoor
