/- Orders of four things, as arrays of ints, and tables from these to numbers: keys, and maps of one's own; the walks of a table's offer and All. -/
import Derived.Test.YtjafedijbainbaaDoorBase
import Derived.Maps.OwnIn
import Derived.Maps.OwnSet
import Derived.DeepKeys5
import Derived.RangeFuncNested
import Derived.RangeFuncBound
import Derived.RangeFuncCalls
import Derived.RangeFuncLeaves
import Derived.RangeFuncBox
import Derived.Sort.MapsRangeIn
import Derived.Shelf.Abstract
import Derived.Shelf.RegionOpen
import Derived.OwnWalkIn
import Derived.TacticsInMore
import Derived.LoopNIn
import Derived.LoopIn
namespace Go.Proofs.YtjafedijbainbaaDoor
set_option maxRecDepth 100000
open Go.RowKit Go.Maps
open Go.WideElems (Fit rd rg)

/-- Four numbers, as a key has them. -/
structure G4 where
  (a b c d : Int)
  wf : (Lit.int .i64 a).wf = true ∧ (Lit.int .i64 b).wf = true ∧ (Lit.int .i64 c).wf = true ∧ (Lit.int .i64 d).wf = true
abbrev G4.v (s : G4) : Value := .agg #[.int .i64 s.a, .int .i64 s.b, .int .i64 s.c, .int .i64 s.d]
def G4.key (s : G4) : Lit := .string (keyBytes [.int .i64 s.a, .int .i64 s.b, .int .i64 s.c, .int .i64 s.d])
theorem G4.keyLit (s : G4) : WideAt.IsKeyLit s.key := by unfold G4.key; trivial
theorem order_cells : Tryd.prog.cellsOf 56 = 4 := by kernel_rfl
theorem int_cells : Tryd.prog.cellsOf 3 = 1 := by kernel_rfl
theorem order_wide : (match Tryd.prog.underlying 56 with | some (.array _ _) | some (.struct _) => true | _ => false) = true := by kernel_rfl
theorem order_laid : laidOutB Tryd.prog = true := by kernel_rfl
theorem order_keyed : Keyed Tryd.prog 56 := Keyed.of_law (deep_law_gate order_laid (of_decide_eq_true (by kernel_rfl)) (of_decide_eq_true (by kernel_rfl)) (by kernel_rfl) order_wide)
theorem int_lits {D : Nat} {n : Int} (h : (Lit.int .i64 n).wf = true) : Tryd.prog.keyLits (D + 1) 3 [.int .i64 n] = some [.int .i64 n] := by
  unfold Program.keyLits
  rw [Tryd.underlying3]
  simp [h]
theorem int_lits_inv {D : Nat} {c : Value} {L : List Lit} (h : Tryd.prog.keyLits D 3 [c] = some L) : ∃ n, c = .int .i64 n ∧ (Lit.int .i64 n).wf = true ∧ L = [.int .i64 n] := by
  cases D with
  | zero => simp [Program.keyLits] at h
  | succ D =>
    unfold Program.keyLits at h
    rw [Tryd.underlying3] at h
    cases c <;> simp at h
    obtain ⟨⟨rfl, h1⟩, h2⟩ := h
    exact ⟨_, rfl, h1, h2.symm⟩
theorem order_lits (D : Nat) (s : G4) : Tryd.prog.keyLits (D + 1 + 1) 56 [.int .i64 s.a, .int .i64 s.b, .int .i64 s.c, .int .i64 s.d] = some [.int .i64 s.a, .int .i64 s.b, .int .i64 s.c, .int .i64 s.d] := by
  obtain ⟨a, b, c, d, h0, h1, h2, h3⟩ := s
  unfold Program.keyLits
  rw [Tryd.underlying56]
  simp only [order_cells, int_cells]
  simp [List.range, List.range.loop, List.mapM_cons, int_lits h0, int_lits h1, int_lits h2, int_lits h3]
theorem types_some : ∃ D, Tryd.prog.types.size = D + 1 := ⟨Tryd.prog.types.size - 1, by have : (0 < Tryd.prog.types.size) := of_decide_eq_true (by kernel_rfl); omega⟩
theorem gkey_of (s : G4) : keyOf Tryd.prog 56 s.v = some s.key := by
  have hk : Tryd.prog.keyType 56 = true := by kernel_rfl
  have hf : s.v.formed Tryd.prog 56 = true := by
    unfold Value.formed
    rw [Tryd.underlying56]
    simp [order_cells]
  obtain ⟨D, hD⟩ := types_some
  unfold keyOf
  rw [Tryd.underlying56, hD]
  simp only [hk, hf, Bool.and_self, if_true]
  have := order_lits D s
  simp only [Value.cells]
  rw [this]; rfl
theorem gkey_inv {v : Value} {l : Lit} (h : keyOf Tryd.prog 56 v = some l) : ∃ s : G4, v = s.v ∧ l = s.key := by
  obtain ⟨xs, L, rfl, hL, _⟩ := keyOf_top order_wide h
  obtain ⟨D, hD⟩ := types_some
  rw [hD] at hL
  unfold Program.keyLits at hL
  rw [Tryd.underlying56] at hL
  simp only [order_cells, int_cells] at hL
  split at hL
  · rename_i hlen
    obtain ⟨xs⟩ := xs
    match xs, hlen with
    | [c0, c1, c2, c3], _ =>
      have hb : ∀ i, i < 4 → ∃ L', Tryd.prog.keyLits (D + 1) 3 (([c0, c1, c2, c3].drop (i * 1)).take 1) = some L' := by
        intro i hi
        obtain ⟨Ls, hm, _⟩ := Option.map_eq_some_iff.1 hL
        cases hk : Tryd.prog.keyLits (D + 1) 3 (([c0, c1, c2, c3].drop (i * 1)).take 1) with
        | some L' => exact ⟨L', rfl⟩
        | none =>
          exfalso
          have : i = 0 ∨ i = 1 ∨ i = 2 ∨ i = 3 := by omega
          rcases this with rfl | rfl | rfl | rfl <;> simp [List.range, List.range.loop, List.mapM_cons] at hm hk <;> simp [hk] at hm
      obtain ⟨x0, rfl, w0, _⟩ := int_lits_inv (hb 0 (by omega)).choose_spec
      obtain ⟨x1, rfl, w1, _⟩ := int_lits_inv (hb 1 (by omega)).choose_spec
      obtain ⟨x2, rfl, w2, _⟩ := int_lits_inv (hb 2 (by omega)).choose_spec
      obtain ⟨x3, rfl, w3, _⟩ := int_lits_inv (hb 3 (by omega)).choose_spec
      have e := gkey_of ⟨x0, x1, x2, x3, w0, w1, w2, w3⟩
      exact ⟨⟨x0, x1, x2, x3, w0, w1, w2, w3⟩, rfl, Option.some.inj (h.symm.trans e)⟩
  · cases hL
theorem G4.key_inj {s t : G4} (h : s.key = t.key) : s = t := by
  have e := order_keyed.inj (gkey_of s) (h ▸ gkey_of t)
  obtain ⟨a, b, c, d, _⟩ := s
  obtain ⟨a', b', c', d', _⟩ := t
  simp [G4.v] at e
  obtain ⟨rfl, rfl, rfl, rfl⟩ := e
  rfl

/-- An order of the four things. -/
structure O4 where
  (a b c d : Fin 4)
  deriving DecidableEq
abbrev O4.v (s : O4) : Value := .agg #[.int .i64 (s.a.val : Nat), .int .i64 (s.b.val : Nat), .int .i64 (s.c.val : Nat), .int .i64 (s.d.val : Nat)]
abbrev O4.cells (s : O4) : Array Value := #[.int .i64 (s.a.val : Nat), .int .i64 (s.b.val : Nat), .int .i64 (s.c.val : Nat), .int .i64 (s.d.val : Nat)]
theorem wf_tiny (x : Fin 4) : (Lit.int .i64 ((x.val : Nat) : Int)).wf = true := WalkArith.wf_i64 (by have := x.isLt; omega)
def O4.g (s : O4) : G4 := ⟨s.a.val, s.b.val, s.c.val, s.d.val, wf_tiny _, wf_tiny _, wf_tiny _, wf_tiny _⟩
theorem O4.g_inj {s t : O4} (h : s.g = t.g) : s = t := by
  obtain ⟨a, b, c, d⟩ := s
  obtain ⟨a', b', c', d'⟩ := t
  simp [O4.g] at h
  obtain ⟨h0, h1, h2, h3⟩ := h
  have e0 : a = a' := Fin.ext (by omega)
  have e1 : b = b' := Fin.ext (by omega)
  have e2 : c = c' := Fin.ext (by omega)
  have e3 : d = d' := Fin.ext (by omega)
  rw [e0, e1, e2, e3]
abbrev O4.key (s : O4) : Lit := s.g.key
theorem O4.key_inj {s t : O4} (h : s.key = t.key) : s = t := O4.g_inj (G4.key_inj h)
theorem O4.keyLit (s : O4) : WideAt.IsKeyLit s.key := G4.keyLit _
theorem key_of (s : O4) : keyOf Tryd.prog 56 s.v = some s.key := gkey_of s.g
def O4.num (s : O4) : Nat := s.a.val + 4 * s.b.val + 16 * s.c.val + 64 * s.d.val
theorem O4.num_lt (s : O4) : s.num < 256 := by
  have := s.a.isLt; have := s.b.isLt; have := s.c.isLt; have := s.d.isLt
  unfold O4.num; omega
theorem O4.num_inj {s t : O4} (h : s.num = t.num) : s = t := by
  obtain ⟨a, b, c, d⟩ := s
  obtain ⟨a', b', c', d'⟩ := t
  unfold O4.num at h
  simp only [] at h
  have := a.isLt; have := b.isLt; have := c.isLt; have := d.isLt
  have := a'.isLt; have := b'.isLt; have := c'.isLt; have := d'.isLt
  have e0 : a = a' := Fin.ext (by omega)
  have e1 : b = b' := Fin.ext (by omega)
  have e2 : c = c' := Fin.ext (by omega)
  have e3 : d = d' := Fin.ext (by omega)
  rw [e0, e1, e2, e3]

/-! A table in the world: a map of one's own, which tells T. -/
def Tell {H : Type} (D : DataW H) (s : O4) : Option Nat → Prop
  | none => has D s.key = false
  | some x => has D s.key = true ∧ ∀ z, D.atKey s.key z = .lit (.int .i64 x)
def Few {H : Type} (D : DataW H) : Prop := ∀ g : G4, has D g.key = true → ∃ s : O4, g = s.g
def IsTab (H : Type) (W : World) (b : Nat) (T : O4 → Option Nat) : Prop :=
  ∃ D : DataW H, W.ownsMap Tryd.prog 56 (plainElem Tryd.prog 3) b 256 D ∧ (∀ s, Tell D s (T s)) ∧ Few D
theorem IsTab.lt {H : Type} {W : World} {b : Nat} {T : O4 → Option Nat} (h : IsTab H W b T) : b < W.heap.size := by obtain ⟨D, h, _⟩ := h; exact h.lt
theorem IsTab.kept {H : Type} {W W' : World} {b : Nat} {T : O4 → Option Nat} {row : Option Nat} (h : IsTab H W b T) (hg : W.grownBy W' row) (hne : some b ≠ row) : IsTab H W' b T := by
  obtain ⟨D, h1, h2⟩ := h; exact ⟨D, h1.kept hg hne, h2⟩
theorem IsTab.obj {H : Type} {W : World} {b : Nat} {T : O4 → Option Nat} (h : IsTab H W b T) : ∃ es ck, W.heap[b]? = some (.map es ck) := by
  obtain ⟨D, ⟨es, ck, hh, _⟩, _⟩ := h; exact ⟨es, ck, hh⟩
theorem IsTab.same {H : Type} {W W' : World} {b : Nat} {T : O4 → Option Nat} (h : IsTab H W b T) (he : W'.heap[b]? = W.heap[b]?) : IsTab H W' b T := by
  obtain ⟨D, ⟨es, ck, hh, r⟩, h2⟩ := h; exact ⟨D, ⟨es, ck, he.trans hh, r⟩, h2⟩
theorem nd_few : ∀ (n : Nat) (l : List Nat), l.Nodup → (∀ x, x ∈ l → x < n) → l.length ≤ n
  | 0, l, _, h => by cases l with | nil => simp | cons x r => exact absurd (h x List.mem_cons_self) (Nat.not_lt_zero _)
  | n + 1, l, hn, h => by
    have h1 : (l.erase n).length ≤ n := nd_few n _ (hn.erase _) fun x hx => by
      have := h x (List.mem_of_mem_erase hx)
      have hne : x ≠ n := fun e => by subst e; exact (List.Nodup.not_mem_erase hn) hx
      omega
    by_cases hm : n ∈ l
    · rw [List.length_erase_of_mem hm] at h1; omega
    · rw [List.erase_of_not_mem hm] at h1; omega
end Go.Proofs.YtjafedijbainbaaDoor
