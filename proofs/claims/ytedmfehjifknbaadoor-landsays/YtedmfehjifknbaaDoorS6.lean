/- Stores of six pages, as arrays of bools, and tables from these to numbers: keys, and maps of one's own. -/
import Derived.Test.YtedmfehjifknbaaDoorBase
import Derived.Maps.OwnIn
import Derived.Maps.OwnSet
import Derived.DeepKeys5
import Derived.RangeFuncNested
import Derived.RangeFuncBound
import Derived.RangeFuncCalls
import Derived.RangeFuncLeaves
import Derived.RangeFuncBox
import Derived.Sort.MapsRangeIn
import Derived.Shelf.Abstract
import Derived.Shelf.RegionOpen
import Derived.OwnWalkIn
import Derived.TacticsInMore
import Derived.LoopNIn
import Derived.LoopIn
namespace Go.Proofs.YtedmfehjifknbaaDoor
set_option maxRecDepth 100000
open Go.RowKit Go.Maps

structure S6 where
  (a b c d e f : Bool)
  deriving DecidableEq
abbrev S6.v (s : S6) : Value := .agg #[.bool s.a, .bool s.b, .bool s.c, .bool s.d, .bool s.e, .bool s.f]
abbrev S6.cells (s : S6) : Array Value := #[.bool s.a, .bool s.b, .bool s.c, .bool s.d, .bool s.e, .bool s.f]
def bb (x : Bool) : UInt8 := if x then 1 else 0
def S6.key (s : S6) : Lit := .string [bb s.a, bb s.b, bb s.c, bb s.d, bb s.e, bb s.f]
theorem bb_inj {x y : Bool} (h : bb x = bb y) : x = y := by cases x <;> cases y <;> first | rfl | (simp [bb] at h)
theorem S6.key_inj {s t : S6} (h : s.key = t.key) : s = t := by
  obtain ⟨a, b, c, d, e, f⟩ := s
  obtain ⟨a', b', c', d', e', f'⟩ := t
  simp only [S6.key, Lit.string.injEq, List.cons.injEq, and_true] at h
  obtain ⟨h1, h2, h3, h4, h5, h6⟩ := h
  rw [bb_inj h1, bb_inj h2, bb_inj h3, bb_inj h4, bb_inj h5, bb_inj h6]
theorem S6.keyLit (s : S6) : WideAt.IsKeyLit s.key := by unfold S6.key; trivial
theorem key_of (s : S6) : keyOf Tryd.prog 58 s.v = some s.key := by
  obtain ⟨a, b, c, d, e, f⟩ := s
  kernel_rfl
theorem store_wide : (match Tryd.prog.underlying 58 with | some (.array _ _) | some (.struct _) => true | _ => false) = true := by kernel_rfl
theorem store_laid : laidOutB Tryd.prog = true := by kernel_rfl
theorem store_keyed : Keyed Tryd.prog 58 := Keyed.of_law (deep_law_gate store_laid (of_decide_eq_true (by kernel_rfl)) (of_decide_eq_true (by kernel_rfl)) (by kernel_rfl) store_wide)
theorem bool_lits {D : Nat} {c : Value} {L : List Lit} (h : Tryd.prog.keyLits D 4 [c] = some L) : ∃ x, c = .bool x := by
  cases D with
  | zero => simp [Program.keyLits] at h
  | succ D =>
    unfold Program.keyLits at h
    rw [Tryd.underlying4] at h
    cases c <;> simp at h
    exact ⟨_, rfl⟩
theorem store_cells : Tryd.prog.cellsOf 58 = 6 := by kernel_rfl
theorem bool_cells : Tryd.prog.cellsOf 4 = 1 := by kernel_rfl
theorem key_inv {v : Value} {l : Lit} (h : keyOf Tryd.prog 58 v = some l) : ∃ s : S6, v = s.v ∧ l = s.key := by
  obtain ⟨xs, L, rfl, hL, _⟩ := keyOf_top store_wide h
  generalize Tryd.prog.types.size = D at hL
  unfold Program.keyLits at hL
  rw [Tryd.underlying58] at hL
  simp only [store_cells, bool_cells] at hL
  split at hL
  · rename_i hlen
    obtain ⟨xs⟩ := xs
    match xs, hlen with
    | [c0, c1, c2, c3, c4, c5], _ =>
      have hb : ∀ i, i < 6 → ∃ L', Tryd.prog.keyLits D 4 (([c0, c1, c2, c3, c4, c5].drop (i * 1)).take 1) = some L' := by
        intro i hi
        obtain ⟨Ls, hm, _⟩ := Option.map_eq_some_iff.1 hL
        cases hk : Tryd.prog.keyLits D 4 (([c0, c1, c2, c3, c4, c5].drop (i * 1)).take 1) with
        | some L' => exact ⟨L', rfl⟩
        | none =>
          exfalso
          have : i = 0 ∨ i = 1 ∨ i = 2 ∨ i = 3 ∨ i = 4 ∨ i = 5 := by omega
          rcases this with rfl | rfl | rfl | rfl | rfl | rfl <;> simp [List.range, List.range.loop, List.mapM_cons] at hm hk <;> simp [hk] at hm
      obtain ⟨x0, rfl⟩ := bool_lits (hb 0 (by omega)).choose_spec
      obtain ⟨x1, rfl⟩ := bool_lits (hb 1 (by omega)).choose_spec
      obtain ⟨x2, rfl⟩ := bool_lits (hb 2 (by omega)).choose_spec
      obtain ⟨x3, rfl⟩ := bool_lits (hb 3 (by omega)).choose_spec
      obtain ⟨x4, rfl⟩ := bool_lits (hb 4 (by omega)).choose_spec
      obtain ⟨x5, rfl⟩ := bool_lits (hb 5 (by omega)).choose_spec
      have e := key_of ⟨x0, x1, x2, x3, x4, x5⟩
      exact ⟨⟨x0, x1, x2, x3, x4, x5⟩, rfl, Option.some.inj (h.symm.trans e)⟩
  · cases hL

/-! A table in the world: a map of one's own, which tells T. -/
def Tell {H : Type} (D : DataW H) (s : S6) : Option Nat → Prop
  | none => has D s.key = false
  | some x => has D s.key = true ∧ ∀ z, D.atKey s.key z = .lit (.int .i64 x)
def IsTab (H : Type) (W : World) (b : Nat) (T : S6 → Option Nat) : Prop :=
  ∃ D : DataW H, W.ownsMap Tryd.prog 58 (plainElem Tryd.prog 3) b 64 D ∧ ∀ s, Tell D s (T s)
theorem IsTab.lt {H : Type} {W : World} {b : Nat} {T : S6 → Option Nat} (h : IsTab H W b T) : b < W.heap.size := by obtain ⟨D, h, _⟩ := h; exact h.lt
theorem IsTab.kept {H : Type} {W W' : World} {b : Nat} {T : S6 → Option Nat} {row : Option Nat} (h : IsTab H W b T) (hg : W.grownBy W' row) (hne : some b ≠ row) : IsTab H W' b T := by
  obtain ⟨D, h1, h2⟩ := h; exact ⟨D, h1.kept hg hne, h2⟩
theorem IsTab.obj {H : Type} {W : World} {b : Nat} {T : S6 → Option Nat} (h : IsTab H W b T) : ∃ es ck, W.heap[b]? = some (.map es ck) := by
  obtain ⟨D, ⟨es, ck, hh, _⟩, _⟩ := h; exact ⟨es, ck, hh⟩
theorem IsTab.same {H : Type} {W W' : World} {b : Nat} {T : S6 → Option Nat} (h : IsTab H W b T) (he : W'.heap[b]? = W.heap[b]?) : IsTab H W' b T := by
  obtain ⟨D, ⟨es, ck, hh, r⟩, h2⟩ := h; exact ⟨D, ⟨es, ck, he.trans hh, r⟩, h2⟩

def S6.num (s : S6) : Nat := s.a.toNat + 2 * s.b.toNat + 4 * s.c.toNat + 8 * s.d.toNat + 16 * s.e.toNat + 32 * s.f.toNat
theorem S6.num_lt (s : S6) : s.num < 64 := by
  have h (x : Bool) : x.toNat ≤ 1 := by cases x <;> decide
  have := h s.a; have := h s.b; have := h s.c; have := h s.d; have := h s.e; have := h s.f
  unfold S6.num; omega
theorem S6.num_inj {s t : S6} (h : s.num = t.num) : s = t := by
  obtain ⟨a, b, c, d, e, f⟩ := s
  obtain ⟨a', b', c', d', e', f'⟩ := t
  unfold S6.num at h
  cases a <;> cases a' <;> simp at h <;> try omega
  all_goals (cases b <;> cases b' <;> simp at h <;> try omega)
  all_goals (cases c <;> cases c' <;> simp at h <;> try omega)
  all_goals (cases d <;> cases d' <;> simp at h <;> try omega)
  all_goals (cases e <;> cases e' <;> simp at h <;> try omega)
  all_goals (cases f <;> cases f' <;> simp at h <;> try omega)
  all_goals rfl
theorem nd_few : ∀ (n : Nat) (l : List Nat), l.Nodup → (∀ x, x ∈ l → x < n) → l.length ≤ n
  | 0, l, _, h => by cases l with | nil => simp | cons x r => exact absurd (h x List.mem_cons_self) (Nat.not_lt_zero _)
  | n + 1, l, hn, h => by
    have h1 : (l.erase n).length ≤ n := nd_few n _ (hn.erase _) fun x hx => by
      have := h x (List.mem_of_mem_erase hx)
      have hne : x ≠ n := fun e => by subst e; exact (List.Nodup.not_mem_erase hn) hx
      omega
    by_cases hm : n ∈ l
    · rw [List.length_erase_of_mem hm] at h1; omega
    · rw [List.erase_of_not_mem hm] at h1; omega
end Go.Proofs.YtedmfehjifknbaaDoor
