/- Who of twenty messages waits, as arrays of bools, and tables from these to numbers: keys, and maps of one's own. -/
import Derived.Test.YtbdkpgjbcjmoiaaDoorBase
import Derived.Maps.OwnIn
import Derived.Maps.OwnSet
import Derived.DeepKeys5
import Derived.RangeFuncNested
import Derived.RangeFuncBound
import Derived.RangeFuncCalls
import Derived.RangeFuncLeaves
import Derived.RangeFuncBox
import Derived.Sort.MapsRangeIn
import Derived.Shelf.Abstract
import Derived.Shelf.RegionOpen
import Derived.OwnWalkIn
import Derived.TacticsInMore
import Derived.LoopNIn
import Derived.LoopIn
namespace Go.Proofs.YtbdkpgjbcjmoiaaDoor
set_option maxRecDepth 100000
open Go.RowKit Go.Maps

structure W20 where
  (b0 b1 b2 b3 b4 b5 b6 b7 b8 b9 b10 b11 b12 b13 b14 b15 b16 b17 b18 b19 : Bool)
  deriving DecidableEq
def W20.l (s : W20) : List Bool := [s.b0, s.b1, s.b2, s.b3, s.b4, s.b5, s.b6, s.b7, s.b8, s.b9, s.b10, s.b11, s.b12, s.b13, s.b14, s.b15, s.b16, s.b17, s.b18, s.b19]
def W20.ofFn (f : Nat → Bool) : W20 := ⟨f 0, f 1, f 2, f 3, f 4, f 5, f 6, f 7, f 8, f 9, f 10, f 11, f 12, f 13, f 14, f 15, f 16, f 17, f 18, f 19⟩
def W20.cells (s : W20) : Array Value := #[.bool s.b0, .bool s.b1, .bool s.b2, .bool s.b3, .bool s.b4, .bool s.b5, .bool s.b6, .bool s.b7, .bool s.b8, .bool s.b9, .bool s.b10, .bool s.b11, .bool s.b12, .bool s.b13, .bool s.b14, .bool s.b15, .bool s.b16, .bool s.b17, .bool s.b18, .bool s.b19]
abbrev W20.v (s : W20) : Value := .agg s.cells
theorem twenty {k : Nat} (h : k < 20) : k = 0 ∨ k = 1 ∨ k = 2 ∨ k = 3 ∨ k = 4 ∨ k = 5 ∨ k = 6 ∨ k = 7 ∨ k = 8 ∨ k = 9 ∨ k = 10 ∨ k = 11 ∨ k = 12 ∨ k = 13 ∨ k = 14 ∨ k = 15 ∨ k = 16 ∨ k = 17 ∨ k = 18 ∨ k = 19 := by omega
theorem W20.l_inj {s t : W20} (h : s.l = t.l) : s = t := by
  cases s; cases t
  simp only [W20.l, List.cons.injEq, and_true] at h
  simp only [W20.mk.injEq]
  exact h
def W20.at (s : W20) (k : Nat) : Bool := s.l[k]?.getD false
def W20.set (s : W20) (i : Nat) (x : Bool) : W20 := .ofFn fun k => if k = i then x else s.at k
theorem W20.ofFn_at (f : Nat → Bool) {k : Nat} (hk : k < 20) : (W20.ofFn f).at k = f k := by
  rcases twenty hk with rfl | rfl | rfl | rfl | rfl | rfl | rfl | rfl | rfl | rfl | rfl | rfl | rfl | rfl | rfl | rfl | rfl | rfl | rfl | rfl <;> rfl
theorem W20.at_out (s : W20) {k : Nat} (hk : ¬ k < 20) : s.at k = false := by
  unfold W20.at
  rw [List.getElem?_eq_none (by show 20 ≤ k; omega)]; rfl
theorem W20.ext_at {s t : W20} (h : ∀ k, k < 20 → s.at k = t.at k) : s = t := by
  refine W20.l_inj (List.ext_getElem? fun k => ?_)
  by_cases hk : k < 20
  · have := h k hk
    unfold W20.at at this
    rw [List.getElem?_eq_getElem (show k < s.l.length from hk), List.getElem?_eq_getElem (show k < t.l.length from hk)] at this ⊢
    exact congrArg some this
  · rw [List.getElem?_eq_none (show s.l.length ≤ k by show 20 ≤ k; omega), List.getElem?_eq_none (show t.l.length ≤ k by show 20 ≤ k; omega)]
theorem W20.at_set (s : W20) {i : Nat} (hi : i < 20) (x : Bool) (k : Nat) : (s.set i x).at k = if k = i then x else s.at k := by
  by_cases hk : k < 20
  · exact W20.ofFn_at _ hk
  · rw [W20.at_out _ hk, W20.at_out _ hk, if_neg (by omega)]
theorem W20.cells_at (s : W20) (k : Nat) (hk : k < 20) : s.cells[k]? = some (.bool (s.at k)) := by
  rcases twenty hk with rfl | rfl | rfl | rfl | rfl | rfl | rfl | rfl | rfl | rfl | rfl | rfl | rfl | rfl | rfl | rfl | rfl | rfl | rfl | rfl <;> rfl
theorem W20.cells_set (s : W20) (k : Nat) (hk : k < 20) (x : Bool) : s.cells.setIfInBounds k (.bool x) = (s.set k x).cells := by
  rcases twenty hk with rfl | rfl | rfl | rfl | rfl | rfl | rfl | rfl | rfl | rfl | rfl | rfl | rfl | rfl | rfl | rfl | rfl | rfl | rfl | rfl <;> rfl
def bb (x : Bool) : UInt8 := if x then 1 else 0
theorem bb_inj {x y : Bool} (h : bb x = bb y) : x = y := by cases x <;> cases y <;> first | rfl | (simp [bb] at h)
def W20.key (s : W20) : Lit := .string (s.l.map bb)
theorem W20.key_inj {s t : W20} (h : s.key = t.key) : s = t := by
  have h1 : s.l.map bb = t.l.map bb := Lit.string.inj h
  exact W20.l_inj ((List.map_inj_right fun _ _ e => bb_inj e).1 h1)
theorem W20.keyLit (s : W20) : WideAt.IsKeyLit s.key := by unfold W20.key; trivial
def bitsNum : List Bool → Nat
  | [] => 0
  | x :: r => x.toNat + 2 * bitsNum r
theorem bitsNum_lt : ∀ l : List Bool, bitsNum l < 2 ^ l.length
  | [] => by simp [bitsNum]
  | x :: r => by
    have := bitsNum_lt r
    have h : x.toNat ≤ 1 := by cases x <;> decide
    rw [bitsNum, List.length_cons, Nat.pow_succ]; omega
theorem bitsNum_inj : ∀ {l m : List Bool}, l.length = m.length → bitsNum l = bitsNum m → l = m
  | [], [], _, _ => rfl
  | [], _ :: _, h, _ => by simp at h
  | _ :: _, [], h, _ => by simp at h
  | x :: r, y :: q, h, e => by
    rw [bitsNum, bitsNum] at e
    have hx : x.toNat ≤ 1 := by cases x <;> decide
    have hy : y.toNat ≤ 1 := by cases y <;> decide
    have e1 : x = y := by cases x <;> cases y <;> simp at * <;> omega
    subst e1
    have e2 : r = q := bitsNum_inj (by simpa using h) (by omega)
    rw [e2]
def W20.num (s : W20) : Nat := bitsNum s.l
theorem W20.num_lt (s : W20) : s.num < 1048576 := by
  have h := bitsNum_lt s.l
  have e : s.l.length = 20 := rfl
  rw [e] at h
  exact Nat.lt_of_lt_of_le h (by decide)
theorem W20.num_inj {s t : W20} (h : s.num = t.num) : s = t := by
  have e : s.l.length = t.l.length := rfl
  exact W20.l_inj (bitsNum_inj e h)
theorem key_of (s : W20) : keyOf Tryd.prog 47 s.v = some s.key := by
  obtain ⟨b0, b1, b2, b3, b4, b5, b6, b7, b8, b9, b10, b11, b12, b13, b14, b15, b16, b17, b18, b19⟩ := s
  kernel_rfl
theorem waits_wide : (match Tryd.prog.underlying 47 with | some (.array _ _) | some (.struct _) => true | _ => false) = true := by kernel_rfl
theorem waits_laid : laidOutB Tryd.prog = true := by kernel_rfl
theorem waits_keyed : Keyed Tryd.prog 47 := Keyed.of_law (deep_law_gate waits_laid (of_decide_eq_true (by kernel_rfl)) (of_decide_eq_true (by kernel_rfl)) (by kernel_rfl) waits_wide)
theorem bool_lits {D : Nat} {c : Value} {L : List Lit} (h : Tryd.prog.keyLits D 4 [c] = some L) : ∃ x, c = .bool x := by
  cases D with
  | zero => simp [Program.keyLits] at h
  | succ D =>
    unfold Program.keyLits at h
    rw [Tryd.underlying4] at h
    cases c <;> simp at h
    exact ⟨_, rfl⟩
theorem waits_cells : Tryd.prog.cellsOf 47 = 20 := by kernel_rfl
theorem bool_cells : Tryd.prog.cellsOf 4 = 1 := by kernel_rfl
theorem mapM_mem {α β : Type} {f : α → Option β} : ∀ {l : List α} {ys : List β}, l.mapM f = some ys → ∀ x, x ∈ l → ∃ y, f x = some y
  | [], _, _, x, hx => by cases hx
  | a :: r, ys, h, x, hx => by
    rw [List.mapM_cons] at h
    cases ha : f a with
    | none => rw [ha] at h; cases h
    | some y =>
      rw [ha] at h
      cases hr : r.mapM f with
      | none => rw [hr] at h; cases h
      | some q =>
        rcases List.mem_cons.1 hx with rfl | hx
        · exact ⟨y, ha⟩
        · exact mapM_mem hr x hx
theorem key_inv {v : Value} {l : Lit} (h : keyOf Tryd.prog 47 v = some l) : ∃ s : W20, v = s.v ∧ l = s.key := by
  obtain ⟨xs, L, rfl, hL, _⟩ := keyOf_top waits_wide h
  generalize Tryd.prog.types.size = D at hL
  unfold Program.keyLits at hL
  rw [Tryd.underlying47] at hL
  simp only [waits_cells, bool_cells] at hL
  split at hL
  · rename_i hlen
    obtain ⟨xs⟩ := xs
    match xs, hlen with
    | [c0, c1, c2, c3, c4, c5, c6, c7, c8, c9, c10, c11, c12, c13, c14, c15, c16, c17, c18, c19], _ =>
      have hb : ∀ i, i < 20 → ∃ L', Tryd.prog.keyLits D 4 (([c0, c1, c2, c3, c4, c5, c6, c7, c8, c9, c10, c11, c12, c13, c14, c15, c16, c17, c18, c19].drop (i * 1)).take 1) = some L' := by
        intro i hi
        obtain ⟨Ls, hm, _⟩ := Option.map_eq_some_iff.1 hL
        obtain ⟨_, hL'⟩ := mapM_mem hm i (List.mem_range.2 hi)
        exact ⟨_, hL'⟩
      obtain ⟨x0, rfl⟩ := bool_lits (hb 0 (by omega)).choose_spec
      obtain ⟨x1, rfl⟩ := bool_lits (hb 1 (by omega)).choose_spec
      obtain ⟨x2, rfl⟩ := bool_lits (hb 2 (by omega)).choose_spec
      obtain ⟨x3, rfl⟩ := bool_lits (hb 3 (by omega)).choose_spec
      obtain ⟨x4, rfl⟩ := bool_lits (hb 4 (by omega)).choose_spec
      obtain ⟨x5, rfl⟩ := bool_lits (hb 5 (by omega)).choose_spec
      obtain ⟨x6, rfl⟩ := bool_lits (hb 6 (by omega)).choose_spec
      obtain ⟨x7, rfl⟩ := bool_lits (hb 7 (by omega)).choose_spec
      obtain ⟨x8, rfl⟩ := bool_lits (hb 8 (by omega)).choose_spec
      obtain ⟨x9, rfl⟩ := bool_lits (hb 9 (by omega)).choose_spec
      obtain ⟨x10, rfl⟩ := bool_lits (hb 10 (by omega)).choose_spec
      obtain ⟨x11, rfl⟩ := bool_lits (hb 11 (by omega)).choose_spec
      obtain ⟨x12, rfl⟩ := bool_lits (hb 12 (by omega)).choose_spec
      obtain ⟨x13, rfl⟩ := bool_lits (hb 13 (by omega)).choose_spec
      obtain ⟨x14, rfl⟩ := bool_lits (hb 14 (by omega)).choose_spec
      obtain ⟨x15, rfl⟩ := bool_lits (hb 15 (by omega)).choose_spec
      obtain ⟨x16, rfl⟩ := bool_lits (hb 16 (by omega)).choose_spec
      obtain ⟨x17, rfl⟩ := bool_lits (hb 17 (by omega)).choose_spec
      obtain ⟨x18, rfl⟩ := bool_lits (hb 18 (by omega)).choose_spec
      obtain ⟨x19, rfl⟩ := bool_lits (hb 19 (by omega)).choose_spec
      have e := key_of ⟨x0, x1, x2, x3, x4, x5, x6, x7, x8, x9, x10, x11, x12, x13, x14, x15, x16, x17, x18, x19⟩
      exact ⟨⟨x0, x1, x2, x3, x4, x5, x6, x7, x8, x9, x10, x11, x12, x13, x14, x15, x16, x17, x18, x19⟩, rfl, Option.some.inj (h.symm.trans e)⟩
  · cases hL

/-! A table in the world: a map of one's own, which tells T. -/
def Tell {H : Type} (D : DataW H) (s : W20) : Option Nat → Prop
  | none => has D s.key = false
  | some x => has D s.key = true ∧ ∀ z, D.atKey s.key z = .lit (.int .i64 x)
def IsTab (H : Type) (W : World) (b : Nat) (T : W20 → Option Nat) : Prop :=
  ∃ D : DataW H, W.ownsMap Tryd.prog 47 (plainElem Tryd.prog 3) b 1048576 D ∧ ∀ s, Tell D s (T s)
theorem IsTab.lt {H : Type} {W : World} {b : Nat} {T : W20 → Option Nat} (h : IsTab H W b T) : b < W.heap.size := by obtain ⟨D, h, _⟩ := h; exact h.lt
theorem IsTab.kept {H : Type} {W W' : World} {b : Nat} {T : W20 → Option Nat} {row : Option Nat} (h : IsTab H W b T) (hg : W.grownBy W' row) (hne : some b ≠ row) : IsTab H W' b T := by
  obtain ⟨D, h1, h2⟩ := h; exact ⟨D, h1.kept hg hne, h2⟩
theorem IsTab.obj {H : Type} {W : World} {b : Nat} {T : W20 → Option Nat} (h : IsTab H W b T) : ∃ es ck, W.heap[b]? = some (.map es ck) := by
  obtain ⟨D, ⟨es, ck, hh, _⟩, _⟩ := h; exact ⟨es, ck, hh⟩
theorem IsTab.same {H : Type} {W W' : World} {b : Nat} {T : W20 → Option Nat} (h : IsTab H W b T) (he : W'.heap[b]? = W.heap[b]?) : IsTab H W' b T := by
  obtain ⟨D, ⟨es, ck, hh, r⟩, h2⟩ := h; exact ⟨D, ⟨es, ck, he.trans hh, r⟩, h2⟩

theorem nd_few : ∀ (n : Nat) (l : List Nat), l.Nodup → (∀ x, x ∈ l → x < n) → l.length ≤ n
  | 0, l, _, h => by cases l with | nil => simp | cons x r => exact absurd (h x List.mem_cons_self) (Nat.not_lt_zero _)
  | n + 1, l, hn, h => by
    have h1 : (l.erase n).length ≤ n := nd_few n _ (hn.erase _) fun x hx => by
      have := h x (List.mem_of_mem_erase hx)
      have hne : x ≠ n := fun e => by subst e; exact (List.Nodup.not_mem_erase hn) hx
      omega
    by_cases hm : n ∈ l
    · rw [List.length_erase_of_mem hm] at h1; omega
    · rw [List.erase_of_not_mem hm] at h1; omega
end Go.Proofs.YtbdkpgjbcjmoiaaDoor
