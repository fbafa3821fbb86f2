/- Several texts in one. -/
import Derived.Test.YtnjfmlojbaigjabBase
import Derived.Maps.OwnIn
import Derived.Maps.OwnSet
import Derived.DeepKeys5
import Derived.RangeFuncNested
import Derived.RangeFuncBound
import Derived.RangeFuncCalls
import Derived.RangeFuncLeaves
import Derived.RangeFuncBox
import Derived.Sort.MapsRangeIn
import Derived.Shelf.Abstract
import Derived.Shelf.RegionOpen
import Derived.OwnWalkIn
import Derived.TacticsInMore
import Derived.LoopNIn
import Derived.LoopIn
import Derived.Deep.RegionLaw
import Derived.WideMake
import Derived.Deep.AppendLies
/- Places of three servers, as arrays of ints, and tables from these to numbers: keys, and maps of one's own; the walks of a table's offer and All. -/
namespace Go.Proofs.Ytnjfmlojbaigjab
namespace Pl
set_option maxRecDepth 100000
open Go.RowKit Go.Maps
open Go.WideElems (Fit rd rg)

/-- Three numbers, as a key has them. -/
structure G3 where
  (a b c : Int)
  wf : (Lit.int .i64 a).wf = true ∧ (Lit.int .i64 b).wf = true ∧ (Lit.int .i64 c).wf = true
abbrev G3.v (s : G3) : Value := .agg #[.int .i64 s.a, .int .i64 s.b, .int .i64 s.c]
def G3.key (s : G3) : Lit := .string (keyBytes [.int .i64 s.a, .int .i64 s.b, .int .i64 s.c])
theorem G3.keyLit (s : G3) : WideAt.IsKeyLit s.key := by unfold G3.key; trivial
theorem places_cells : Try.prog.cellsOf 73 = 3 := by kernel_rfl
theorem int_cells : Try.prog.cellsOf 3 = 1 := by kernel_rfl
theorem places_wide : (match Try.prog.underlying 73 with | some (.array _ _) | some (.struct _) => true | _ => false) = true := by kernel_rfl
theorem places_laid : laidOutB Try.prog = true := by kernel_rfl
theorem places_keyed : Keyed Try.prog 73 := Keyed.of_law (deep_law_gate places_laid (of_decide_eq_true (by kernel_rfl)) (of_decide_eq_true (by kernel_rfl)) (by kernel_rfl) places_wide)
theorem int_lits {D : Nat} {n : Int} (h : (Lit.int .i64 n).wf = true) : Try.prog.keyLits (D + 1) 3 [.int .i64 n] = some [.int .i64 n] := by
  unfold Program.keyLits
  rw [Try.underlying3]
  simp [h]
theorem int_lits_inv {D : Nat} {c : Value} {L : List Lit} (h : Try.prog.keyLits D 3 [c] = some L) : ∃ n, c = .int .i64 n ∧ (Lit.int .i64 n).wf = true ∧ L = [.int .i64 n] := by
  cases D with
  | zero => simp [Program.keyLits] at h
  | succ D =>
    unfold Program.keyLits at h
    rw [Try.underlying3] at h
    cases c <;> simp at h
    obtain ⟨⟨rfl, h1⟩, h2⟩ := h
    exact ⟨_, rfl, h1, h2.symm⟩
theorem places_lits (D : Nat) (s : G3) : Try.prog.keyLits (D + 1 + 1) 73 [.int .i64 s.a, .int .i64 s.b, .int .i64 s.c] = some [.int .i64 s.a, .int .i64 s.b, .int .i64 s.c] := by
  obtain ⟨a, b, c, h0, h1, h2⟩ := s
  unfold Program.keyLits
  rw [Try.underlying73]
  simp only [places_cells, int_cells]
  simp [List.range, List.range.loop, List.mapM_cons, int_lits h0, int_lits h1, int_lits h2]
theorem types_some : ∃ D, Try.prog.types.size = D + 1 := ⟨Try.prog.types.size - 1, by have : (0 < Try.prog.types.size) := of_decide_eq_true (by kernel_rfl); omega⟩
theorem gkey_of (s : G3) : keyOf Try.prog 73 s.v = some s.key := by
  have hk : Try.prog.keyType 73 = true := by kernel_rfl
  have hf : s.v.formed Try.prog 73 = true := by
    unfold Value.formed
    rw [Try.underlying73]
    simp [places_cells]
  obtain ⟨D, hD⟩ := types_some
  unfold keyOf
  rw [Try.underlying73, hD]
  simp only [hk, hf, Bool.and_self, if_true]
  have := places_lits D s
  simp only [Value.cells]
  rw [this]; rfl
theorem gkey_inv {v : Value} {l : Lit} (h : keyOf Try.prog 73 v = some l) : ∃ s : G3, v = s.v ∧ l = s.key := by
  obtain ⟨xs, L, rfl, hL, _⟩ := keyOf_top places_wide h
  obtain ⟨D, hD⟩ := types_some
  rw [hD] at hL
  unfold Program.keyLits at hL
  rw [Try.underlying73] at hL
  simp only [places_cells, int_cells] at hL
  split at hL
  · rename_i hlen
    obtain ⟨xs⟩ := xs
    match xs, hlen with
    | [c0, c1, c2], _ =>
      have hb : ∀ i, i < 3 → ∃ L', Try.prog.keyLits (D + 1) 3 (([c0, c1, c2].drop (i * 1)).take 1) = some L' := by
        intro i hi
        obtain ⟨Ls, hm, _⟩ := Option.map_eq_some_iff.1 hL
        cases hk : Try.prog.keyLits (D + 1) 3 (([c0, c1, c2].drop (i * 1)).take 1) with
        | some L' => exact ⟨L', rfl⟩
        | none =>
          exfalso
          have : i = 0 ∨ i = 1 ∨ i = 2 := by omega
          rcases this with rfl | rfl | rfl <;> simp [List.range, List.range.loop, List.mapM_cons] at hm hk <;> simp [hk] at hm
      obtain ⟨x0, rfl, w0, _⟩ := int_lits_inv (hb 0 (by omega)).choose_spec
      obtain ⟨x1, rfl, w1, _⟩ := int_lits_inv (hb 1 (by omega)).choose_spec
      obtain ⟨x2, rfl, w2, _⟩ := int_lits_inv (hb 2 (by omega)).choose_spec
      have e := gkey_of ⟨x0, x1, x2, w0, w1, w2⟩
      exact ⟨⟨x0, x1, x2, w0, w1, w2⟩, rfl, Option.some.inj (h.symm.trans e)⟩
  · cases hL
theorem G3.key_inj {s t : G3} (h : s.key = t.key) : s = t := by
  have e := places_keyed.inj (gkey_of s) (h ▸ gkey_of t)
  obtain ⟨a, b, c, _⟩ := s
  obtain ⟨a', b', c', _⟩ := t
  simp [G3.v] at e
  obtain ⟨rfl, rfl, rfl⟩ := e
  rfl

/-- Where three servers are. -/
structure P3 where
  (a b c : Fin 13)
  deriving DecidableEq
abbrev P3.v (s : P3) : Value := .agg #[.int .i64 (s.a.val : Nat), .int .i64 (s.b.val : Nat), .int .i64 (s.c.val : Nat)]
abbrev P3.cells (s : P3) : Array Value := #[.int .i64 (s.a.val : Nat), .int .i64 (s.b.val : Nat), .int .i64 (s.c.val : Nat)]
theorem wf_tiny (x : Fin 13) : (Lit.int .i64 ((x.val : Nat) : Int)).wf = true := WalkArith.wf_i64 (by have := x.isLt; omega)
def P3.g (s : P3) : G3 := ⟨s.a.val, s.b.val, s.c.val, wf_tiny _, wf_tiny _, wf_tiny _⟩
theorem P3.g_inj {s t : P3} (h : s.g = t.g) : s = t := by
  obtain ⟨a, b, c⟩ := s
  obtain ⟨a', b', c'⟩ := t
  simp [P3.g] at h
  obtain ⟨h0, h1, h2⟩ := h
  have e0 : a = a' := Fin.ext (by omega)
  have e1 : b = b' := Fin.ext (by omega)
  have e2 : c = c' := Fin.ext (by omega)
  rw [e0, e1, e2]
abbrev P3.key (s : P3) : Lit := s.g.key
theorem P3.key_inj {s t : P3} (h : s.key = t.key) : s = t := P3.g_inj (G3.key_inj h)
theorem P3.keyLit (s : P3) : WideAt.IsKeyLit s.key := G3.keyLit _
theorem key_of (s : P3) : keyOf Try.prog 73 s.v = some s.key := gkey_of s.g
def P3.num (s : P3) : Nat := s.a.val + 13 * s.b.val + 169 * s.c.val
theorem P3.num_lt (s : P3) : s.num < 2197 := by
  have := s.a.isLt; have := s.b.isLt; have := s.c.isLt
  unfold P3.num; omega
theorem P3.num_inj {s t : P3} (h : s.num = t.num) : s = t := by
  obtain ⟨a, b, c⟩ := s
  obtain ⟨a', b', c'⟩ := t
  unfold P3.num at h
  simp only [] at h
  have := a.isLt; have := b.isLt; have := c.isLt
  have := a'.isLt; have := b'.isLt; have := c'.isLt
  have e0 : a = a' := Fin.ext (by omega)
  have e1 : b = b' := Fin.ext (by omega)
  have e2 : c = c' := Fin.ext (by omega)
  rw [e0, e1, e2]

/-! A table in the world: a map of one's own, which tells T. -/
def Tell {H : Type} (D : DataW H) (s : P3) : Option Nat → Prop
  | none => has D s.key = false
  | some x => has D s.key = true ∧ ∀ z, D.atKey s.key z = .lit (.int .i64 x)
def Few {H : Type} (D : DataW H) : Prop := ∀ g : G3, has D g.key = true → ∃ s : P3, g = s.g
def IsTab (H : Type) (W : World) (b : Nat) (T : P3 → Option Nat) : Prop :=
  ∃ D : DataW H, W.ownsMap Try.prog 73 (plainElem Try.prog 3) b 2197 D ∧ (∀ s, Tell D s (T s)) ∧ Few D
theorem IsTab.lt {H : Type} {W : World} {b : Nat} {T : P3 → Option Nat} (h : IsTab H W b T) : b < W.heap.size := by obtain ⟨D, h, _⟩ := h; exact h.lt
theorem IsTab.kept {H : Type} {W W' : World} {b : Nat} {T : P3 → Option Nat} {row : Option Nat} (h : IsTab H W b T) (hg : W.grownBy W' row) (hne : some b ≠ row) : IsTab H W' b T := by
  obtain ⟨D, h1, h2⟩ := h; exact ⟨D, h1.kept hg hne, h2⟩
theorem IsTab.obj {H : Type} {W : World} {b : Nat} {T : P3 → Option Nat} (h : IsTab H W b T) : ∃ es ck, W.heap[b]? = some (.map es ck) := by
  obtain ⟨D, ⟨es, ck, hh, _⟩, _⟩ := h; exact ⟨es, ck, hh⟩
theorem IsTab.same {H : Type} {W W' : World} {b : Nat} {T : P3 → Option Nat} (h : IsTab H W b T) (he : W'.heap[b]? = W.heap[b]?) : IsTab H W' b T := by
  obtain ⟨D, ⟨es, ck, hh, r⟩, h2⟩ := h; exact ⟨D, ⟨es, ck, he.trans hh, r⟩, h2⟩
theorem nd_few : ∀ (n : Nat) (l : List Nat), l.Nodup → (∀ x, x ∈ l → x < n) → l.length ≤ n
  | 0, l, _, h => by cases l with | nil => simp | cons x r => exact absurd (h x List.mem_cons_self) (Nat.not_lt_zero _)
  | n + 1, l, hn, h => by
    have h1 : (l.erase n).length ≤ n := nd_few n _ (hn.erase _) fun x hx => by
      have := h x (List.mem_of_mem_erase hx)
      have hne : x ≠ n := fun e => by subst e; exact (List.Nodup.not_mem_erase hn) hx
      omega
    by_cases hm : n ∈ l
    · rw [List.length_erase_of_mem hm] at h1; omega
    · rw [List.erase_of_not_mem hm] at h1; omega
def P3.at (s : P3) (k : Nat) : Fin 13 := if k = 0 then s.a else if k = 1 then s.b else s.c
def P3.set (s : P3) (k : Nat) (x : Fin 13) : P3 := if k = 0 then ⟨x, s.b, s.c⟩ else if k = 1 then ⟨s.a, x, s.c⟩ else ⟨s.a, s.b, x⟩
theorem P3.cells_at (s : P3) (k : Nat) (hk : k < 3) : s.cells[k]? = some (.int .i64 ((s.at k).val : Nat)) := by
  have : k = 0 ∨ k = 1 ∨ k = 2 := by omega
  rcases this with rfl | rfl | rfl <;> rfl
theorem P3.cells_set (s : P3) (k : Nat) (hk : k < 3) (x : Fin 13) : s.cells.setIfInBounds k (.int .i64 (x.val : Nat)) = (s.set k x).cells := by
  have : k = 0 ∨ k = 1 ∨ k = 2 := by omega
  rcases this with rfl | rfl | rfl <;> rfl
end Pl
end Go.Proofs.Ytnjfmlojbaigjab

/- Tables of places in the world: what is put in; the walks of a table's offer, and All. Written by wip/tools/gen_places.py. -/
namespace Go.Proofs.Ytnjfmlojbaigjab
namespace Pl
open Go.RowKit Go.Maps
open Go.WideElems (Fit rd rg)

theorem tight {H : Type} {W : World} {b n : Nat} {D : DataW H} (hf : Few D) (h : W.ownsMap Try.prog 73 (plainElem Try.prog 3) b n D) : W.ownsMap Try.prog 73 (plainElem Try.prog 3) b 2197 D := by
  obtain ⟨es, ck, hh, F, _, hD⟩ := h
  refine ⟨es, ck, hh, F, ?_, hD⟩
  have hk : ∀ x, x ∈ es.toList → ∃ s : P3, x.key = s.v := fun x hx => by
    obtain ⟨y, hy⟩ := F.reads x hx
    obtain ⟨g, hg, hl⟩ := gkey_inv (WideElems.rd_key hy)
    have hm : has D g.key = true := by
      rw [hD, has_eq, List.any_eq_true]
      refine ⟨y, mem_sorted.2 (List.mem_map.2 ⟨x, hx, ?_⟩), ?_⟩
      · unfold rg; rw [hy]; rfl
      · rw [hl]; exact WideAt.sameKey_self (G3.keyLit g)
    obtain ⟨s, rfl⟩ := hf g hm
    exact ⟨s, hg⟩
  have hp : es.toList.Pairwise (fun x y => x.key ≠ y.key) := ((MapKept.stamped_iff es ck).1 F.stamped).2.2
  classical
  let f : MapEntry → Nat := fun x => if h : ∃ s : P3, x.key = s.v then h.choose.num else 0
  have hf2 : ∀ x, x ∈ es.toList → ∃ s : P3, x.key = s.v ∧ f x = s.num := fun x hx => ⟨(hk x hx).choose, (hk x hx).choose_spec, by show (if h : ∃ s : P3, x.key = s.v then h.choose.num else 0) = _; rw [dif_pos (hk x hx)]⟩
  have hn : (es.toList.map f).Nodup := by
    unfold List.Nodup
    rw [List.pairwise_map]
    refine List.Pairwise.imp_of_mem ?_ hp
    intro x y hx hy hne e
    obtain ⟨s, hs, e1⟩ := hf2 x hx
    obtain ⟨t, ht, e2⟩ := hf2 y hy
    have : s = t := P3.num_inj (by rw [← e1, ← e2]; exact e)
    exact hne (by rw [hs, ht, this])
  have := nd_few 2197 _ hn (fun i hi => by
    obtain ⟨x, hx, rfl⟩ := List.mem_map.1 hi
    obtain ⟨s, _, e⟩ := hf2 x hx
    rw [e]; exact s.num_lt)
  simpa using this

def offerT (T : P3 → Option Nat) (s : P3) (x : Nat) : P3 → Option Nat := fun t => if t = s then (match T s with | none => some x | some y => if x < y then some x else some y) else T t
theorem few_put {H : Type} {D : DataW H} (h : Few D) (s : P3) (d : DataW H) : Few (D.put s.key d) := fun g hg => by
  by_cases e : g.key = s.key
  · exact ⟨s, G3.key_inj e⟩
  · rw [has_put_other e] at hg
    exact h g hg
theorem put_tab {H : Type} {W : World} {b n : Nat} {D : DataW H} {T T' : P3 → Option Nat} {s : P3} {x : Nat} (hD : IsMap D) (hf : Few D) (h : W.ownsMap Try.prog 73 (plainElem Try.prog 3) b n (D.put s.key (.lit (.int .i64 x)))) (ht : ∀ t, Tell D t (T t)) (h1 : T' s = some x) (h2 : ∀ t, t ≠ s → T' t = T t) : IsTab H W b T' := by
  refine ⟨_, tight (few_put hf s _) h, fun t => ?_, few_put hf s _⟩
  by_cases e : t = s
  · subst e
    rw [h1]
    exact ⟨has_put_same hD (P3.keyLit _) _, fun z => atKey_put_same hD (P3.keyLit _) _ z⟩
  · have hne : t.key ≠ s.key := fun e2 => e (P3.key_inj e2)
    rw [h2 t e]
    have := ht t
    cases hT : T t with
    | none => rw [hT] at this; exact (has_put_other hne _).trans this
    | some y => rw [hT] at this; exact ⟨(has_put_other hne _).trans this.1, fun z => (atKey_put_other hne _ z).trans (this.2 z)⟩
theorem grown_two (w : World) (b : Nat) (o o' : Obj) : w.grownBy ((w.alloc o).alloc o') (some b) :=
  ⟨rfl, rfl, rfl, by simp; omega, fun i hi _ => (Below.heap_alloc _ _ _ (by simp; omega)).trans (Below.heap_alloc _ _ _ hi)⟩
theorem grownTr {w w1 w2 : World} {g : Option Nat} (h1 : w.grownBy w1 g) (h2 : w1.grownBy w2 g) : w.grownBy w2 g :=
  ⟨h2.os.trans h1.os, h2.tape.trans h1.tape, h2.output.trans h1.output, Nat.le_trans h1.size h2.size, fun k hk hr => (h2.block k (Nat.lt_of_lt_of_le hk h1.size) hr).trans (h1.block k hk hr)⟩
theorem wf_small {x : Nat} (h : x < 4096) : (Lit.int .i64 (x : Int)).wf = true := WalkArith.wf_i64 (by omega)

set_option maxHeartbeats 1000000 in
theorem offer_any (H : Type) (b : Nat) (T : P3 → Option Nat) (s : P3) (x : Nat) (hx : x < 4096) (w : World) (hT : IsTab H w b T) :
    Calls Try.prog 63 #[.agg #[.map (some b)], s.v, .int .i64 x] w fun e w' => (∃ v, e = .returned v) ∧ IsTab H w' b (offerT T s x) ∧ w.grownBy w' (some b) := by
  obtain ⟨D, hown, htell, hfew⟩ := hT
  have HK : Hid (keyOf Try.prog 73 s.v = some s.key) := key_of s
  have ht := htell s
  have HT : Hid (∀ s, Tell D s (T s)) := htell
  have HOW : Hid (((w.alloc (.cells #[.map (some b)] 76)).alloc (.cells s.cells 73)).ownsMap Try.prog 73 (plainElem Try.prog 3) b 2197 D) := (hown.alloc _).alloc _
  clear htell hown
  cases hs : T s with
  | none =>
    rw [hs] at ht
    have HH : Hid (has D s.key = false) := ht
    go_enter Try.func63, Try.ntmps63
    go_wp2_with (first | (at_lookup; refine wpList_lookup_own_ok_int _ rfl _ _ 74 rfl 73 3 .i64 places_keyed Try.underlying74 Try.underlying3 (Try.zeroValue3 _) b 2197 D rfl HOW.out _ _ rfl HK.out ?_; intro c hat hwc; rw [HH.out]) | (at_mapUpdate; refine wpList_mapUpdate_own _ rfl _ _ _ 74 rfl 73 3 places_keyed Try.underlying74 _ b 2197 D rfl HOW.out (by unfold maxLen; omega) _ _ _ rfl rfl HK.out _ [] (plainElem_int Try.underlying3 (wf_small hx)) ?_; intro w1 hown1 hgrow1))
    all_goals go_end0
    refine ⟨⟨_, rfl⟩, put_tab HOW.out.isMap hfew hown1 HT.out (by simp [offerT, hs]) (fun t e => by simp [offerT, e]), ?_⟩
    exact grownTr (grown_two w b _ _) hgrow1
  | some y =>
    rw [hs] at ht
    have HH : Hid (has D s.key = true) := ht.1
    have HA : Hid (D.atKey s.key (.lit (.int .i64 0)) = .lit (.int .i64 (y : Int))) := ht.2 _
    clear ht
    by_cases hlt : x < y
    · go_enter Try.func63, Try.ntmps63
      go_wp2_with (first | (at_lookup; refine wpList_lookup_own_ok_int _ rfl _ _ 74 rfl 73 3 .i64 places_keyed Try.underlying74 Try.underlying3 (Try.zeroValue3 _) b 2197 D rfl HOW.out _ _ rfl HK.out ?_; intro c hat hwc; rw [HH.out]; have hcy : c = (y : Int) := by { rw [HA.out] at hat; simpa using hat.symm }; clear hat hwc; subst hcy) | (at_mapUpdate; refine wpList_mapUpdate_own _ rfl _ _ _ 74 rfl 73 3 places_keyed Try.underlying74 _ b 2197 D rfl HOW.out (by unfold maxLen; omega) _ _ _ rfl rfl HK.out _ [] (plainElem_int Try.underlying3 (wf_small hx)) ?_; intro w1 hown1 hgrow1))
      all_goals go_end0
      refine ⟨⟨_, rfl⟩, put_tab HOW.out.isMap hfew hown1 HT.out (by simp [offerT, hs, hlt]) (fun t e => by simp [offerT, e]), ?_⟩
      exact grownTr (grown_two w b _ _) hgrow1
    · have HOF : Hid (offerT T s x = T) := by
        unfold Hid; funext t; unfold offerT
        by_cases e : t = s
        · subst e; simp [hs, hlt]
        · simp [e]
      go_enter Try.func63, Try.ntmps63
      go_wp2_with (first | (at_lookup; refine wpList_lookup_own_ok_int _ rfl _ _ 74 rfl 73 3 .i64 places_keyed Try.underlying74 Try.underlying3 (Try.zeroValue3 _) b 2197 D rfl HOW.out _ _ rfl HK.out ?_; intro c hat hwc; rw [HH.out]; have hcy : c = (y : Int) := by { rw [HA.out] at hat; simpa using hat.symm }; clear hat hwc; subst hcy))
      all_goals go_end0
      exact ⟨⟨_, rfl⟩, by rw [HOF.out]; exact ⟨D, HOW.out, HT.out, hfew⟩, grown_two w b _ _⟩
set_option maxHeartbeats 1000000 in
theorem tall_any (b : Nat) (w : World) :
    Calls Try.prog 62 #[.agg #[.map (some b)]] w fun e w' => e = .returned (.func (.func 76) #[] #[.pointer (some ⟨w.heap.size, 0, none⟩)]) ∧ w' = w.alloc (.cells #[.map (some b)] 76) := by
  go_enter Try.func62, Try.ntmps62
  go_wp2
  go_ret
  exact ⟨rfl, rfl⟩
end Pl
end Go.Proofs.Ytnjfmlojbaigjab

/- A table's All, as an iterator: each state with its number comes, whatever is done meanwhile, as long as that keeps the table. -/
namespace Go.Proofs.Ytnjfmlojbaigjab
namespace Pl
set_option maxRecDepth 100000
open Go.RowKit Go.Maps Go.Shelf

attribute [local go_sem] Oper.semAt_some

abbrev Ent := P3 × Fin 1024
abbrev encE (x : Ent) : Array Value := #[x.1.v, .int .i64 (x.2.val : Nat)]
/-- All cells and all walks stay, but the map in block bn. -/
structure KeepB (bn : Nat) (W W' : World) : Prop where
  size : W.heap.size ≤ W'.heap.size
  same : ∀ (k : Nat) (o : Obj), W.heap[k]? = some o → (o.isCells = true ∨ o.isWalk = true) → k ≠ bn → W'.heap[k]? = some o
theorem KeepB.refl (bn : Nat) (W : World) : KeepB bn W W := ⟨Nat.le_refl _, fun _ _ h _ _ => h⟩
theorem KeepB.trans {bn : Nat} {A B C : World} (h : KeepB bn A B) (k : KeepB bn B C) : KeepB bn A C := ⟨Nat.le_trans h.size k.size, fun i o hi ho hn => k.same i o (h.same i o hi ho hn) ho hn⟩
theorem KeepB.alloc (bn : Nat) (W : World) (o : Obj) : KeepB bn W (W.alloc o) := ⟨by simp, fun k _ hk _ _ => (Below.heap_alloc W o k (Array.getElem?_eq_some_iff.1 hk).1).trans hk⟩
theorem KeepB.grown {bn : Nat} {W W' : World} (h : W.grownBy W' (some bn)) : KeepB bn W W' := ⟨h.size, fun k _ hk _ hn => (h.block k (Array.getElem?_eq_some_iff.1 hk).1 (by simp [hn])).trans hk⟩
theorem KeepB.later {bn : Nat} {W W' : World} (h : Below W.heap.size W W') : KeepB bn W W' := ⟨h.size, fun k _ hk _ _ => (h.block k (Array.getElem?_eq_some_iff.1 hk).1).trans hk⟩
theorem keepB_b {bn : Nat} {w : World} (W : World) (l : Nat) (o o' : Obj) (_ : w.heap.size ≤ l) (h : W.heap[l]? = some o) (hc : o.isCells = false) (hw : o.isWalk = false) : KeepB bn W (W.putObj l o') :=
  ⟨by simp, fun k o'' hk ho _ => by
    by_cases e : k = l
    · subst e; rw [h] at hk; cases hk; rw [hc, hw] at ho; simp at ho
    · exact (World.putObj_heap_other e).trans hk⟩
theorem KeepB.cell {bn : Nat} {W W' : World} (h : KeepB bn W W') {b j : Nat} {u : Value} (hc : W.cell? ⟨b, j, none⟩ = some u) (hn : b ≠ bn) : W'.cell? ⟨b, j, none⟩ = some u := by
  cases ho : W.heap[b]? with
  | none => simp [World.cell?, ho] at hc
  | some o =>
    have hcell : o.isCells = true := by cases o <;> simp [World.cell?, ho] at hc <;> rfl
    have := h.same b o ho (.inl hcell) hn
    unfold World.cell? at hc ⊢
    simp only [this, ho] at hc ⊢
    exact hc
theorem KeepB.tab {H : Type} {bn : Nat} {W W' : World} (h : KeepB bn W W') {b : Nat} {T : P3 → Option Nat} (hT : IsTab H W b T) (hn : b ≠ bn) : IsTab H W' b T := by
  obtain ⟨es, ck, hh⟩ := hT.obj
  exact hT.same ((h.same b _ hh (.inr rfl) hn).trans hh.symm)
/-- All walks stay, but the map in block bn. -/
structure KeepW (bn : Nat) (W W' : World) : Prop where
  size : W.heap.size ≤ W'.heap.size
  same : ∀ (k : Nat) (o : Obj), W.heap[k]? = some o → o.isWalk = true → k ≠ bn → W'.heap[k]? = some o
theorem KeepB.walks {bn : Nat} {W W' : World} (h : KeepB bn W W') : KeepW bn W W' := ⟨h.size, fun k o hk ho hn => h.same k o hk (.inr ho) hn⟩
theorem KeepW.trans {bn : Nat} {A B C : World} (h : KeepW bn A B) (k : KeepW bn B C) : KeepW bn A C := ⟨Nat.le_trans h.size k.size, fun i o hi ho hn => k.same i o (h.same i o hi ho hn) ho hn⟩
theorem keepW_b {bn : Nat} {w : World} (W : World) (l : Nat) (o o' : Obj) (_ : w.heap.size ≤ l) (h : W.heap[l]? = some o) (_ : o.isCells = false) (hw : o.isWalk = false) : KeepW bn W (W.putObj l o') :=
  ⟨by simp, fun k o'' hk ho _ => by
    by_cases e : k = l
    · subst e; rw [h] at hk; cases hk; rw [hw] at ho; cases ho
    · exact (World.putObj_heap_other e).trans hk⟩
theorem ranges_keep {H : Type} {P : Program} {k : TypeId} {R : Value → Option (DataW H × List MemPlace)} {w w' : World} {b r n bn : Nat} {D : DataW H} {left : Lit → Bool} {cnt : Nat}
    (h : w.ranges P k R b r n D left cnt) (hk : KeepW bn w w') (hb : b ≠ bn) (hr : r ≠ bn) : w'.ranges P k R b r n D left cnt := by
  obtain ⟨es, clock, since, seen, c0, h1, F, hs, hD, h2, rest⟩ := h
  exact ⟨es, clock, since, seen, c0, hk.same b _ h1 rfl hb, F, hs, hD, hk.same r _ h2 rfl hr, rest⟩

/-- What has come of a table. -/
def AllOf (T : P3 → Option Nat) (ps : List Ent) : Prop := ∀ (s : P3) (x : Fin 1024), (s, x) ∈ ps ↔ T s = some x.val
def Col (T : P3 → Option Nat) (left : Lit → Bool) (ps : List Ent) : Prop := ∀ s, (∀ x : Fin 1024, (s, x) ∈ ps → T s = some x.val) ∧ (left s.key = false → ∀ x : Fin 1024, T s = some x.val → (s, x) ∈ ps)
theorem col_start {H : Type} {D : DataW H} {T : P3 → Option Nat} (h : ∀ s, Tell D s (T s)) : Col T (has D) [] := fun s => ⟨fun _ hx => (by cases hx), fun hl x hx => by
  have := h s
  rw [hx] at this
  rw [this.1] at hl; cases hl⟩
theorem tell_at {H : Type} {D : DataW H} {T : P3 → Option Nat} (h : ∀ s, Tell D s (T s)) {s : P3} {c : Int} (hat : ∀ z, D.atKey s.key z = .lit (.int .i64 c)) : ∃ x : Nat, T s = some x ∧ c = x := by
  have := h s
  cases hT : T s with
  | none =>
    rw [hT] at this
    have hh : has D s.key = true := has_true_of_atKey hat
    rw [show has D s.key = false from this] at hh; cases hh
  | some x =>
    rw [hT] at this
    have e := this.2 (.lit (.int .i64 0))
    rw [hat] at e
    exact ⟨x, rfl, by simpa using e⟩
theorem col_step {T : P3 → Option Nat} {left : Lit → Bool} {ps : List Ent} (h : Col T left ps) {s0 : P3} {x0 : Fin 1024} (hT : T s0 = some x0.val) : Col T (fun z => left z && !z.sameKey s0.key) (ps ++ [(s0, x0)]) := fun s => by
  refine ⟨fun x hx => ?_, fun hl x hx => ?_⟩
  · rcases List.mem_append.1 hx with hx | hx
    · exact (h s).1 x hx
    · simp at hx; obtain ⟨rfl, rfl⟩ := hx; exact hT
  · by_cases e : s = s0
    · subst e
      have : x = x0 := Fin.ext (Option.some.inj (hx.symm.trans hT))
      subst this
      exact List.mem_append.2 (.inr (by simp))
    · refine List.mem_append.2 (.inl ((h s).2 ?_ x hx))
      have hne : s.key.sameKey s0.key = false := sameKey_ne fun e2 => e (P3.key_inj e2)
      dsimp only at hl
      rw [hne] at hl
      simpa using hl

set_option maxRecDepth 100000 in
set_option maxHeartbeats 2000000 in
theorem all1_in {H : Type} (F : Fence) (n : Nat) (hF : F.fn 76) (hro : F.round = none) (hn : 1 ≤ n) (l Bm b bn : Nat) (T : P3 → Option Nat) (hT1 : ∀ s x, T s = some x → x < 1024) (J Jx : List Ent → World → Prop)
    (hY : ∀ pre x W, J pre W → pre.length < 2198 → YieldAt F (n - 1) Try.prog l (encE x) W fun e W' =>
      (e = .returned (.bool true) ∧ J (pre ++ [x]) W' ∧ KeepW bn W W') ∨ (e = .returned (.bool false) ∧ Jx (pre ++ [x]) W'))
    (W : World) (hJ : AbidesFrom W.heap.size J) (hbn : bn < W.heap.size) (hne : b ≠ bn) (hm : W.cell? ⟨Bm, 0, none⟩ = some (.map (some b))) (hT : IsTab H W b T) (h0 : J [] W) :
    CallsIn F n Try.prog 76 #[.func (.yield l) #[] #[], .pointer (some ⟨Bm, 0, none⟩)] W fun e W' => (∃ v, e = .returned v) ∧
      ((∃ ps, AllOf T ps ∧ J ps W') ∨ (∃ pre, True ∧ Jx pre W')) := by
  obtain ⟨D, hown, htell, hfew⟩ := hT
  have hsz : Maps.size D ≤ 2197 := hown.size_le
  refine callsIn_of_wp Try.func76 rfl hF ?_ hro
  simp only [Try.ntmps76, List.size_toArray, List.length_cons, List.length_nil, Nat.reduceAdd, Nat.reduceSub, Array.replicate_succ, Array.replicate_zero, List.push_toArray, List.append_toArray, List.nil_append, List.cons_append]
  gi_wp2_with (first
    | (gi_at_range; refine wpListIn_range_own _ rfl _ 74 rfl 73 3 places_keyed Try.underlying74 _ b 2197 _ rfl hown ?_; intro w0 hrg0 hg0 hs0)
    | gi_in)
  go_frame
  gi_loopw [3, 4] (fun _ _ wr => ∃ (left : Lit → Bool) (cnt : Nat) (ps : List Ent), wr.ranges Try.prog 73 (plainElem Try.prog 3) b W.heap.size 2197 D left cnt ∧ ps.length + cnt ≤ Maps.size D ∧ Col T left ps ∧ J ps wr)
    (fun _ _ wr => wr.rangeLeft b W.heap.size)
  case atStart =>
    exact ⟨_, _, [], hrg0, by simp, col_start htell, hJ [] W w0 none h0 hg0 (fun r e => by cases e)⟩
  case round =>
    obtain ⟨left, cnt, ps, hrg, hcs, hC, hJs⟩ := hrel
    gi_wp2_with (first
      | (gi_at_next; refine wpListIn_next_ranges _ rfl _ rfl 73 places_keyed (plainElem Try.prog 3) G3.v (Value.int .i64) (fun key kl hk => by obtain ⟨x, hx, _⟩ := gkey_inv hk; exact ⟨x, hx⟩) (fun v y hv => by obtain ⟨c, rfl, _⟩ := plainElem_int_inv Try.underlying3 hv; exact ⟨c, rfl⟩) b W.heap.size 2197 _ _ _ rfl hrg ?_ ?_)
      | gi_in)
    · intro hc0 hl0
      gi_wp2
      go_end0
      exact ⟨⟨_, rfl⟩, .inl ⟨ps, fun s x => ⟨(hC s).1 x, (hC s).2 (hl0 _) x⟩, hJs⟩⟩
    · intro g c kl yd yp w2 cnt2 hkey hlk hv hat hrg2 hlt hg2 hs2 hen
      obtain rfl : kl = g.key := Option.some.inj (hkey.symm.trans (gkey_of g))
      obtain ⟨s, rfl⟩ := hfew g (has_true_of_atKey hat)
      have ga : s.g.a = ((s.a.val : Nat) : Int) := rfl
      have gb : s.g.b = ((s.b.val : Nat) : Int) := rfl
      have gc : s.g.c = ((s.c.val : Nat) : Int) := rfl
      obtain ⟨c', ec, ez, _⟩ := plainElem_int_inv Try.underlying3 hv
      obtain rfl : c = c' := by simpa using ec
      obtain rfl : yd = .lit (.int .i64 c) := (Prod.mk.inj ez).1
      obtain ⟨x, hTx, rfl⟩ := tell_at htell (s := s) (c := c) hat
      have hx : x < 1024 := hT1 s x hTx
      have hJ2 : J ps w2 := hJ ps wr w2 (some W.heap.size) hJs hg2 (fun r e => by cases e; exact ⟨Nat.le_refl _, hrg.iter_walk⟩)
      have hJ3 : J ps (w2.alloc (.cells s.cells 73)) := hJ ps w2 _ none hJ2 (World.grownBy_alloc _ _ none) (fun r e => by cases e)
      obtain ⟨fn, tmps, assign, body, hy, hR⟩ := hY ps (s, ⟨x, hx⟩) _ hJ3 (by omega)
      dsimp only [encE] at hy
      clear hs2 hkey hv ez ec hat
      gi_wp2
      refine hR.mono ?_
      have hC2 := col_step hC (s0 := s) (x0 := ⟨x, hx⟩) hTx
      rintro e W3 (⟨rfl, hJ4, hk3⟩ | ⟨rfl, hJx3⟩)
      · gi_wp2
        have hrg3 := ranges_keep hrg2 ((KeepB.alloc bn w2 _).walks.trans hk3) hne (by omega)
        go_roundw
        case rel => exact ⟨_, cnt2, ps ++ [(s, ⟨x, hx⟩)], hrg3, by simp; omega, hC2, hJ4⟩
        case measure => rw [hrg3.left_eq, hrg.left_eq]; exact hlt
      · gi_wp2
        refine bodyPost_ret (results_none rfl _ _ _) rfl ?_
        exact ⟨⟨_, rfl⟩, .inr ⟨ps ++ [(s, ⟨x, hx⟩)], trivial, hJx3⟩⟩

theorem all_stopsW {H : Type} (F : Fence) (n : Nat) (hF : F.fn 76) (hro : F.round = none) (hn : 1 ≤ n) (Bm b bn : Nat) (T : P3 → Option Nat) (hT1 : ∀ s x, T s = some x → x < 1024) (w : World)
    (hbn : bn < w.heap.size) (hne : b ≠ bn) (hm : w.cell? ⟨Bm, 0, none⟩ = some (.map (some b))) (hT : IsTab H w b T) :
    SeqStopsK F n Try.prog 76 #[.pointer (some ⟨Bm, 0, none⟩)] encE (KeepW bn) (AllOf T) (fun _ => True) 2198 w := fun l J Jx W hW hJ _ hY h0 =>
  all1_in F n hF hro hn l Bm b bn T hT1 J Jx hY W hJ (Nat.lt_of_lt_of_le hbn hW.size) hne ((hW.cell (p := ⟨Bm, 0, none⟩) (World.block_lt_of_cell? w _ hm)).trans hm) (hT.same (hW.block b hT.lt)) h0
theorem all_stops {H : Type} (F : Fence) (n : Nat) (hF : F.fn 76) (hro : F.round = none) (hn : 1 ≤ n) (Bm b bn : Nat) (T : P3 → Option Nat) (hT1 : ∀ s x, T s = some x → x < 1024) (w : World)
    (hbn : bn < w.heap.size) (hne : b ≠ bn) (hm : w.cell? ⟨Bm, 0, none⟩ = some (.map (some b))) (hT : IsTab H w b T) :
    SeqStopsK F n Try.prog 76 #[.pointer (some ⟨Bm, 0, none⟩)] encE (KeepB bn) (AllOf T) (fun _ => True) 2198 w := fun l J Jx W hW hJ hJx hY h0 =>
  all_stopsW (H := H) F n hF hro hn Bm b bn T hT1 w hbn hne hm hT l J Jx W hW hJ hJx (fun pre x W1 h1 h2 => by
    obtain ⟨fn, tmps, assign, body, hy, hR⟩ := hY pre x W1 h1 h2
    exact ⟨fn, tmps, assign, body, hy, hR.mono fun e W' h => h.imp (fun h => ⟨h.1, h.2.1, h.2.2.walks⟩) id⟩) h0
theorem KeepB.drew (bn : Nat) (W : World) : KeepB bn W W.drew := ⟨Nat.le_refl _, fun _ _ h _ _ => h⟩
end Pl
end Go.Proofs.Ytnjfmlojbaigjab

/- Offers to a table, one after another: what the table tells behind them; what a step of a table is, in numbers. -/
namespace Go.Proofs.Ytnjfmlojbaigjab
namespace Pl
set_option maxRecDepth 100000

/-- T tells of each state the least that was offered. -/
def Made (os : List (P3 × Nat)) (T : P3 → Option Nat) : Prop := (∀ t z, T t = some z → (t, z) ∈ os) ∧ ∀ t z, (t, z) ∈ os → ∃ y, T t = some y ∧ y ≤ z
theorem made_none : Made [] (fun _ => none) := ⟨fun _ _ h => (by cases h), fun _ _ h => (by cases h)⟩
theorem made_offer {os : List (P3 × Nat)} {T : P3 → Option Nat} (h : Made os T) (s : P3) (x : Nat) : Made (os ++ [(s, x)]) (offerT T s x) := by
  refine ⟨fun t z e => ?_, fun t z e => ?_⟩
  · unfold offerT at e
    by_cases ht : t = s
    · subst ht
      rw [if_pos rfl] at e
      cases hT : T t with
      | none => rw [hT] at e; simp at e; subst e; simp
      | some y =>
        rw [hT] at e
        simp only [] at e
        split at e
        · simp at e; subst e; simp
        · simp at e; subst e; exact List.mem_append.2 (.inl (h.1 t _ hT))
    · rw [if_neg ht] at e
      exact List.mem_append.2 (.inl (h.1 t z e))
  · unfold offerT
    rcases List.mem_append.1 e with e | e
    · obtain ⟨y, hy, hle⟩ := h.2 t z e
      by_cases ht : t = s
      · subst ht
        rw [if_pos rfl, hy]
        simp only []
        split
        · exact ⟨x, rfl, by omega⟩
        · exact ⟨y, rfl, hle⟩
      · rw [if_neg ht]; exact ⟨y, hy, hle⟩
    · simp at e
      obtain ⟨rfl, rfl⟩ := e
      rw [if_pos rfl]
      cases hT : T t with
      | none => exact ⟨z, rfl, Nat.le_refl _⟩
      | some y =>
        simp only []
        split
        · exact ⟨z, rfl, Nat.le_refl _⟩
        · exact ⟨y, rfl, by omega⟩
/-- What is offered from one state on. -/
def off1 (y : Nat) (l : List Ent) : List (P3 × Nat) := l.map fun e => (e.1, y + e.2.val)
theorem off1_snoc (y : Nat) (l : List Ent) (e : Ent) : off1 y (l ++ [e]) = off1 y l ++ [(e.1, y + e.2.val)] := by simp [off1]
/-- What is offered from all states that came. -/
def offs (nx : P3 → List Ent) : List Ent → List (P3 × Nat)
  | [] => []
  | e :: l => off1 e.2.val (nx e.1) ++ offs nx l
theorem offs_snoc (nx : P3 → List Ent) (e : Ent) : ∀ l, offs nx (l ++ [e]) = offs nx l ++ off1 e.2.val (nx e.1)
  | [] => by simp [offs]
  | x :: l => by rw [List.cons_append, offs, offs, offs_snoc nx e l, List.append_assoc]
theorem offs_mem {nx : P3 → List Ent} {t : P3} {z : Nat} : ∀ {l : List Ent}, (t, z) ∈ offs nx l ↔ ∃ e, e ∈ l ∧ ∃ f, f ∈ nx e.1 ∧ f.1 = t ∧ z = e.2.val + f.2.val
  | [] => by simp [offs]
  | x :: l => by
    rw [offs, List.mem_append, offs_mem (l := l)]
    constructor
    · rintro (h | ⟨e, he, r⟩)
      · obtain ⟨f, hf, e⟩ := List.mem_map.1 h
        obtain ⟨rfl, rfl⟩ := Prod.mk.inj e
        exact ⟨x, List.mem_cons_self, f, hf, rfl, rfl⟩
      · exact ⟨e, List.mem_cons_of_mem _ he, r⟩
    · rintro ⟨e, he, f, hf, rfl, rfl⟩
      rcases List.mem_cons.1 he with rfl | he
      · exact .inl (List.mem_map.2 ⟨f, hf, rfl⟩)
      · exact .inr ⟨e, he, f, hf, rfl, rfl⟩
/-- T' is T one step on. -/
structure Onto (nx : P3 → List Ent) (T T' : P3 → Option Nat) : Prop where
  from_ : ∀ t z, T' t = some z → ∃ s y f, T s = some y ∧ f ∈ nx s ∧ f.1 = t ∧ z = y + f.2.val
  all : ∀ s y f, T s = some y → f ∈ nx s → ∃ z, T' f.1 = some z ∧ z ≤ y + f.2.val
theorem onto_of {nx : P3 → List Ent} {T T' : P3 → Option Nat} {ps : List Ent} (hT1 : ∀ s x, T s = some x → x < 1024) (ha : AllOf T ps) (hm : Made (offs nx ps) T') : Onto nx T T' := by
  refine ⟨fun t z h => ?_, fun s y f hs hf => ?_⟩
  · obtain ⟨e, he, f, hf, e1, e2⟩ := offs_mem.1 (hm.1 t z h)
    exact ⟨e.1, e.2.val, f, (ha e.1 e.2).1 he, hf, e1, e2⟩
  · have hy := hT1 s y hs
    exact hm.2 f.1 _ (offs_mem.2 ⟨(s, ⟨y, hy⟩), (ha s ⟨y, hy⟩).2 hs, f, hf, rfl, rfl⟩)
end Pl
end Go.Proofs.Ytnjfmlojbaigjab

/- The walk of least.Start: a table of one state. -/
namespace Go.Proofs.Ytnjfmlojbaigjab
namespace Pl
set_option maxRecDepth 100000
open Go.RowKit Go.Maps

theorem wpList_insert_own {H : Type} {P : Program} (w : World) {ops : Array Oper} {rest : List Oper} {o : Oper} {a : Act} {Q : Exit → Act → World → Prop}
    (hg : o.guard = none) (m x v : Operand) (t : TypeId) (hop : o.op = Op.insert t m x v)
    (k e : TypeId) (K : Keyed P k) (ht : P.underlying t = some (.map k e)) (R : Value → Option (DataW H × List MemPlace)) (b n : Nat) (D : DataW H)
    (hm : a.eval m = .map (some b)) (hown : w.ownsMap P k R b n D) (hn : n < maxLen) (key val : Value) (kl : Lit) (hx : a.eval x = key) (hv : a.eval v = val) (hkey : keyOf P k key = some kl)
    (d : DataW H) (ps : List MemPlace) (hval : R val = some (d, ps))
    (hK : ∀ w', w'.ownsMap P k R b (n + 1) (D.put kl d) → w.grownBy w' (some b) → wpList P ops Q rest (a.put o.dst undef) w') :
    wpList P ops Q (o :: rest) a w := by
  refine wpList_plain hg fun K' hK' => ?_
  obtain ⟨w', hrun, r1, r2⟩ := hown.update K ht hn hkey hval
  unfold Oper.wp
  simp [execOp, hop, hm, hx, hv, hrun, Result.andThen]
  exact hK' _ _ (hK w' r1 r2)

def oneT (s0 : P3) : P3 → Option Nat := fun s => if s = s0 then some 0 else none
theorem tell_nothing {H : Type} (s : P3) : Tell (.map [] : DataW H) s none := rfl
theorem tab_new (H : Type) (w : World) : IsTab H (w.alloc (.map #[] 0)) w.heap.size (fun _ => none) :=
  ⟨_, (World.ownsMap_made w Try.prog 73 (plainElem Try.prog 3)).mono (by omega), fun s => tell_nothing s, fun _ h => (by cases h)⟩
theorem ins_box {w w1 : World} {A : Array Value} {ta tb : TypeId} (hg : (((w.alloc (.cells A ta)).alloc (.cells #[.map none] tb)).alloc (.map #[] 0)).grownBy w1 (some (w.heap.size + 1 + 1))) : Boxed w1 (w.heap.size + 1) tb (.map none) := by
  have h := (Boxed.new (w.alloc (.cells A ta)) tb (.map none)).alloc (.map #[] 0)
  rw [World.size_alloc] at h
  exact h.kept hg (by simp)
theorem IsTab.setCell {H : Type} {W : World} {b : Nat} {T : P3 → Option Nat} (h : IsTab H W b T) {a : Addr} (ha : b ≠ a.block) (u : Value) : IsTab H (W.setCell a u) b T := by
  obtain ⟨D, h1, h2⟩ := h; exact ⟨D, h1.setCell ha u, h2⟩
set_option maxHeartbeats 1000000 in
theorem tstart_any (H : Type) (s : P3) (w : World) :
    Calls Try.prog 37 #[s.v] w fun e w' => (∃ b, e = .returned (.agg #[.map (some b)]) ∧ IsTab H w' b (oneT s)) ∧ Below w.heap.size w w' := by
  have HK : Hid (keyOf Try.prog 73 s.v = some s.key) := key_of s
  have hmk : ∀ w, (Instr.makeMap 74 none).run Try.prog w = .ok (.map (some w.heap.size)) (w.alloc (.map #[] 0)) := fun w => run_makeMap_plain (w := w) _
  have HOW : Hid ((((w.alloc (.cells s.cells 73)).alloc (.cells #[.map none] 76)).alloc (.map #[] 0)).ownsMap Try.prog 73 (plainElem (H := H) Try.prog 3) (w.heap.size + 1 + 1) 0 (.map [])) := by
    have := World.ownsMap_made (H := H) ((w.alloc (.cells s.cells 73)).alloc (.cells #[.map none] 76)) Try.prog 73 (plainElem Try.prog 3)
    simp at this
    exact this
  go_enter Try.func37, Try.ntmps37
  go_wp2_with (first | (refine wpList_insert_own (H := H) _ rfl _ _ _ 74 rfl 73 3 places_keyed Try.underlying74 (plainElem Try.prog 3) (w.heap.size + 1 + 1) 0 (.map []) rfl HOW.out (by unfold maxLen; omega) _ _ _ rfl rfl HK.out _ [] (plainElem_int Try.underlying3 (wf_small (x := 0) (by omega))) ?_; intro w1 hown1 hgrow1; have hB1 := ins_box hgrow1; have hc1 := hB1.cell; have hf1 := hB1.frozen))
  have hB2 := hB1.set (.map (some (w.heap.size + 1 + 1)))
  have hc2 := hB2.cell
  refine bodyPost_ret (v := .agg #[.map (some (w.heap.size + 1 + 1))]) (by simp [results, Try.results37, go_sem, hc2, Result.andThen]) rfl ⟨⟨_, rfl, ?_⟩, ?_⟩
  · exact (put_tab (T := fun _ => none) (T' := oneT s) HOW.out.isMap (fun _ h => (by cases h)) hown1 (fun t => tell_nothing t) (by simp [oneT]) (fun t e => by simp [oneT, e])).setCell (by simp) _
  · refine Below.setCell (p := ⟨w.heap.size + 1, 0, none⟩) (Below.grown ((((Below.refl _ w).alloc (Nat.le_refl _) _).alloc (by simp) _).alloc (by simp; omega) _) hgrow1 (by simp; omega) ?_) (by simp) _
    intro k hk
    cases hk
    omega
end Pl
end Go.Proofs.Ytnjfmlojbaigjab

/- The walk of a table's Step. -/
namespace Go.Proofs.Ytnjfmlojbaigjab
namespace Pl
set_option maxRecDepth 100000
open Go.RowKit Go.Maps Go.Shelf
attribute [local go_sem] Oper.semAt_some

/-- What is handed to Step: a function that gives an iterator of each state. -/
def LeadsTo (w : World) (gf : Nat) (lb : Array Value) (g2 : Nat) (nx : P3 → List Ent) (N : Nat) : Prop :=
  ∀ (bn : Nat) (s : P3) (W : World), w.heap.size ≤ bn → bn < W.heap.size → Below w.heap.size w W → Calls Try.prog gf (#[s.v] ++ lb) W fun e W' => ∃ lb2, e = .returned (.func (.func g2) #[] lb2) ∧ Below W.heap.size W W' ∧
    ∀ n, 1 ≤ n → SeqStopsK Fence.wide n Try.prog g2 lb2 encE (KeepB bn) (fun ys => ys = nx s) (fun _ => True) N W'
theorem tall_in (n : Nat) (b : Nat) (w : World) : CallsIn Fence.wide n Try.prog 62 #[.agg #[.map (some b)]] w fun e w' => e = .returned (.func (.func 76) #[] #[.pointer (some ⟨w.heap.size, 0, none⟩)]) ∧ w' = w.alloc (.cells #[.map (some b)] 76) := callsIn_wide.2 (tall_any b w)

/-- A block of cells, as it was laid. -/
def Lies (W : World) (B : Nat) (cs : Array Value) (t : TypeId) : Prop := W.heap[B]? = some (.cells cs t (0, 0))
theorem Lies.new (W : World) (cs : Array Value) (t : TypeId) : Lies (W.alloc (.cells cs t)) W.heap.size cs t := World.alloc_heap_new W _
theorem Lies.kept {W W' : World} {row : Option Nat} {B : Nat} {cs : Array Value} {t : TypeId} (h : Lies W B cs t) (hg : W.grownBy W' row) (hne : some B ≠ row) : Lies W' B cs t := (hg.block B (Array.getElem?_eq_some_iff.1 h).1 hne).trans h
theorem Lies.alloc {W : World} {B : Nat} {cs : Array Value} {t : TypeId} (h : Lies W B cs t) (o : Obj) : Lies (W.alloc o) B cs t := h.kept (World.grownBy_alloc W o none) (by simp)
theorem Lies.cell {W : World} {B : Nat} {cs : Array Value} {t : TypeId} (h : Lies W B cs t) {j : Nat} {v : Value} (hj : cs[j]? = some v) : W.cell? ⟨B, j, none⟩ = some v := by simp [World.cell?, show W.heap[B]? = _ from h, hj]
theorem Lies.lt {W : World} {B : Nat} {cs : Array Value} {t : TypeId} (h : Lies W B cs t) : B < W.heap.size := (Array.getElem?_eq_some_iff.1 h).1
theorem lies_own {β : Type} (B : Nat) (t : TypeId) (f : β → Array Value) : Own (fun s W => Lies W B (f s) t) := fun s X Y row hs hg hrow =>
  hs.kept hg (fun e' => by obtain ⟨o, ho, hc⟩ := hrow B e'.symm; rw [show X.heap[B]? = _ from hs] at ho; cases ho; cases hc)
theorem ownFrom_keepB {β : Type} {B' bn : Nat} {w₀ : World} (hB : w₀.heap.size ≤ B') : OwnFrom B' (fun (_ : β) W => KeepB bn w₀ W) :=
  fun _ X Y row hs hg hr => ⟨Nat.le_trans hs.size hg.size, fun k o h0 ho hk => by
    have hX := hs.same k o h0 ho hk
    refine (hg.block k (Array.getElem?_eq_some_iff.1 hX).1 (fun e => ?_)).trans hX
    have h1 := (hr k e.symm).1
    have h2 := (Array.getElem?_eq_some_iff.1 h0).1
    omega⟩
theorem ownFrom_tab {β : Type} {H : Type} {B bn : Nat} (hB : bn < B) (q : β → (P3 → Option Nat) → Prop) : OwnFrom B (fun (s : β) W => ∃ T', IsTab H W bn T' ∧ q s T') :=
  fun _ X Y row hs hg hr => by
    obtain ⟨T', h1, h2⟩ := hs
    refine ⟨T', h1.kept hg (fun e => ?_), h2⟩
    have := (hr bn e.symm).1
    omega
theorem keepsFrom_grown {B bn : Nat} {W W' : World} (hB : bn < B) (h : W.grownBy W' (some bn)) : KeepsFrom B W W' := ⟨h.size, fun k _ hk h0 _ => (h.block k (Array.getElem?_eq_some_iff.1 h0).1 (by simp; omega)).trans h0⟩
theorem keepsFrom_later {B : Nat} {W W' : World} (h : Below W.heap.size W W') : KeepsFrom B W W' := ⟨h.size, fun k _ _ h0 _ => (h.block k (Array.getElem?_eq_some_iff.1 h0).1).trans h0⟩
theorem Lies.later {W W' : World} {B : Nat} {cs : Array Value} {t : TypeId} (h : Lies W B cs t) (hb : Below W.heap.size W W') : Lies W' B cs t := (hb.block B h.lt).trans h
theorem box_later {W W' : World} {B : Nat} {t : TypeId} {v : Value} (h : Boxed W B t v) (hb : Below W.heap.size W W') : Boxed W' B t v := (hb.block B h.lt).trans h

set_option maxRecDepth 100000 in
set_option maxHeartbeats 4000000 in
theorem tstep_in (H : Type) (n : Nat) (hn : 6 ≤ n) (b : Nat) (T : P3 → Option Nat) (hT1 : ∀ s x, T s = some x → x < 1024) (lb : Array Value) (nx : P3 → List Ent) (N : Nat) (w : World) (hT : IsTab H w b T)
    (hL : LeadsTo w 39 lb 64 nx N) :
    CallsIn Fence.wide n Try.prog 38 #[.agg #[.map (some b)], .func (.func 39) #[] lb] w fun e W' => (∃ b' T', e = .returned (.agg #[.map (some b')]) ∧ IsTab H W' b' T' ∧ Onto nx T T') ∧ Below w.heap.size w W' := by
  have hro : Fence.wide.round = none := rfl
  have h1 : 1 ≤ n := by omega
  have mixed : Try.prog.follows Departure.mixedOrders = true := by kernel_rfl
  have hmk : ∀ w, (Instr.makeMap 74 none).run Try.prog w = .ok (.map (some w.heap.size)) (w.alloc (.map #[] 0)) := fun w => run_makeMap_plain (w := w) _
  refine callsIn_of_wp_marks Try.func38 rfl trivial ?_ hro
  simp only [Try.ntmps38, List.size_toArray, List.length_cons, List.length_nil, Nat.reduceAdd, Nat.reduceSub, Array.replicate_succ, Array.replicate_zero, List.push_toArray, List.append_toArray, List.nil_append, List.cons_append]
  gi_wp2_with (refine ⟨trivial, ?_⟩; gi_at_call 62; refine (tall_in (n - 1) b _).mono ?_; rintro e w' ⟨rfl, rfl⟩)
  have bL := ((((Boxed.new (w.alloc (.cells #[.map (some b)] 76)) 82 (.func (.func 39) #[] lb)).alloc (.cells #[.map none] 76)).alloc (.map #[] 0)).alloc (.cells #[.map (some (w.heap.size + 1 + 1 + 1))] 76)).alloc (.cells #[.map (some b)] 76)
  have bR := (((Boxed.new ((w.alloc (.cells #[.map (some b)] 76)).alloc (.cells #[.func (.func 39) #[] lb] 82)) 76 (.map none)).alloc (.map #[] 0)).alloc (.cells #[.map (some (w.heap.size + 1 + 1 + 1))] 76)).alloc (.cells #[.map (some b)] 76)
  have bT := ((tab_new H (((w.alloc (.cells #[.map (some b)] 76)).alloc (.cells #[.func (.func 39) #[] lb] 82)).alloc (.cells #[.map none] 76))).kept (World.grownBy_alloc _ (.cells #[.map (some (w.heap.size + 1 + 1 + 1))] 76) none) (by simp)).kept (World.grownBy_alloc _ (.cells #[.map (some b)] 76) none) (by simp)
  have bN := (Boxed.new ((((w.alloc (.cells #[.map (some b)] 76)).alloc (.cells #[.func (.func 39) #[] lb] 82)).alloc (.cells #[.map none] 76)).alloc (.map #[] 0)) 76 (.map (some (w.heap.size + 1 + 1 + 1)))).alloc (.cells #[.map (some b)] 76)
  have bA := Boxed.new (((((w.alloc (.cells #[.map (some b)] 76)).alloc (.cells #[.func (.func 39) #[] lb] 82)).alloc (.cells #[.map none] 76)).alloc (.map #[] 0)).alloc (.cells #[.map (some (w.heap.size + 1 + 1 + 1))] 76)) 76 (.map (some b))
  simp only [World.size_alloc] at bL bR bT bN bA
  have hB0 : Below w.heap.size w ((((((w.alloc (.cells #[.map (some b)] 76)).alloc (.cells #[.func (.func 39) #[] lb] 82)).alloc (.cells #[.map none] 76)).alloc (.map #[] 0)).alloc (.cells #[.map (some (w.heap.size + 1 + 1 + 1))] 76)).alloc (.cells #[.map (some b)] 76)) := ((((((Below.refl _ w).alloc (Nat.le_refl _) _).alloc (by simp) _).alloc (by simp; omega) _).alloc (by simp; omega) _).alloc (by simp; omega) _).alloc (by simp; omega) _
  have hsz : ((((((w.alloc (.cells #[.map (some b)] 76)).alloc (.cells #[.func (.func 39) #[] lb] 82)).alloc (.cells #[.map none] 76)).alloc (.map #[] 0)).alloc (.cells #[.map (some (w.heap.size + 1 + 1 + 1))] 76)).alloc (.cells #[.map (some b)] 76)).heap.size = w.heap.size + 6 := by simp
  obtain ⟨W0, hW0⟩ : ∃ W0, (((((w.alloc (.cells #[.map (some b)] 76)).alloc (.cells #[.func (.func 39) #[] lb] 82)).alloc (.cells #[.map none] 76)).alloc (.map #[] 0)).alloc (.cells #[.map (some (w.heap.size + 1 + 1 + 1))] 76)).alloc (.cells #[.map (some b)] 76) = W0 := ⟨_, rfl⟩
  rw [hW0] at bL bR bT bN bA hB0 hsz ⊢
  clear hW0
  have hbw : b < w.heap.size := hT.lt
  have hT0 : IsTab H W0 b T := hT.same (hB0.block b hbw)
  refine wpIn_rangeFunc_ownH hro h1 (gf := 76) (lb := #[.pointer (some ⟨w.heap.size + 1 + 1 + 1 + 1 + 1, 0, none⟩)]) rfl trivial (enters_of Try.func76 (by kernel_rfl) rfl)
    (all_stops (H := H) Fence.wide (n - 1) trivial hro (by omega) (w.heap.size + 1 + 1 + 1 + 1 + 1) b (w.heap.size + 1 + 1 + 1) T hT1 W0 (by omega) (by omega) bA.cell hT0) (fun h k => KeepB.trans h k) keepB_b (Below.refl _ _) (fun _ => rfl)
    (fun pre W => ((Boxed W (w.heap.size + 1) 82 (.func (.func 39) #[] lb) ∧ Boxed W (w.heap.size + 1 + 1) 76 (.map none)) ∧ Boxed W (w.heap.size + 1 + 1 + 1 + 1) 76 (.map (some (w.heap.size + 1 + 1 + 1)))) ∧ ((∃ T', IsTab H W (w.heap.size + 1 + 1 + 1) T' ∧ Made (offs nx pre) T') ∧ Below w.heap.size w W))
    (fun _ _ _ => False)
    (OwnFrom.and (OwnFrom.and (OwnFrom.and (Own.from (boxed_own _ _ _) _) (Own.from (boxed_own _ _ _) _)) (Own.from (boxed_own _ _ _) _)) (OwnFrom.and (ownFrom_tab (by omega) (fun pre T' => Made (offs nx pre) T')) (ownFrom_below (Nat.le_refl _) (by omega))))
    (fun _ _ _ _ _ hs _ _ => hs)
    ⟨⟨⟨bL, bR⟩, bN⟩, ⟨_, bT, made_none⟩, hB0⟩
    (fun x a' W => ∃ Bf Bx, w.heap.size + 4 < Bf ∧ w.heap.size + 4 < Bx ∧ Lies W Bf x.1.cells 73 ∧ Boxed W Bx 3 (.int .i64 (x.2.val : Nat)) ∧ a' = { tmps := #[.agg #[.map (some b)], .func (.func 39) #[] lb, .pointer (some ⟨w.heap.size, 0, none⟩), .pointer (some ⟨w.heap.size + 1, 0, none⟩), .pointer (some ⟨w.heap.size + 1 + 1, 0, none⟩), .pointer (some ⟨w.heap.size + 1 + 1 + 1 + 1, 0, none⟩), .pointer (some ⟨Bf, 0, none⟩), .pointer (some ⟨Bx, 0, none⟩), undef, undef, .map (some (w.heap.size + 1 + 1 + 1)), .agg #[.map (some (w.heap.size + 1 + 1 + 1))], .agg #[.map (some b)], .func (.func 76) #[] #[.pointer (some ⟨w.heap.size + 1 + 1 + 1 + 1 + 1, 0, none⟩)], x.1.v, .int .i64 (x.2.val : Nat), undef, undef, undef, undef, undef, undef, undef, undef, undef, undef, undef, undef], defers := [] })
    (fun x a' _ X Y row hs hg hr => by obtain ⟨Bf, Bx, h1, h2, h3, h4, h5⟩ := hs; exact ⟨Bf, Bx, h1, h2, lies_own Bf 73 (fun (_ : Unit) => x.1.cells) () X Y row h3 hg (fun r e => (hr r e).2), boxed_own Bx 3 (fun (_ : Unit) => Value.int .i64 (x.2.val : Nat)) () X Y row h4 hg (fun r e => (hr r e).2), h5⟩)
    ?assign ?body ?done ?stop
  case assign =>
    rintro l pre x W K ⟨⟨⟨bL1, bR1⟩, bN1⟩, ⟨T1, hT2, hM1⟩, hB1⟩ hK
    have hsW := bN1.lt
    gi_wp2
    exact hK _ _ (((KeepsOthers.alloc _ _).from _).trans ((KeepsOthers.alloc _ _).from _)) ((KeepB.alloc _ W _).trans (KeepB.alloc _ _ _)) ⟨⟨⟨(bL1.alloc _).alloc _, (bR1.alloc _).alloc _⟩, (bN1.alloc _).alloc _⟩, ⟨T1, (hT2.kept (World.grownBy_alloc _ _ none) (by simp)).kept (World.grownBy_alloc _ _ none) (by simp), hM1⟩, (hB1.alloc (by omega) _).alloc (by simp; omega) _⟩ ⟨W.heap.size, W.heap.size + 1, by omega, by omega, (Lies.new W _ _).alloc _, by have := Boxed.new (W.alloc (.cells x.1.cells 73)) 3 (.int .i64 (x.2.val : Nat)); rwa [World.size_alloc] at this, rfl⟩
  case body =>
    rintro l pre x a' W hl ⟨r, hr⟩ ⟨⟨⟨bL1, bR1⟩, bN1⟩, ⟨T1, hT2, hM1⟩, hB1⟩ ⟨Bf, Bx, hBf, hBx, lF, bX, rfl⟩ hlt
    obtain ⟨⟨sa, sb, sc⟩, y⟩ := x
    have cL := bL1.cell
    have c0 := lF.cell (j := 0) (v := .int .i64 (sa.val : Nat)) rfl
    have c1 := lF.cell (j := 1) (v := .int .i64 (sb.val : Nat)) rfl
    have c2 := lF.cell (j := 2) (v := .int .i64 (sc.val : Nat)) rfl
    have hbnW : w.heap.size + 1 + 1 + 1 < W.heap.size := hT2.lt
    have HL : Hid (∀ n2, CallsIn (Fence.wide.inRound l) n2 Try.prog 39 (#[.agg #[.int .i64 (sa.val : Nat), .int .i64 (sb.val : Nat), .int .i64 (sc.val : Nat)]] ++ lb) W fun e W' => ∃ lb2, e = .returned (.func (.func 64) #[] lb2) ∧ Hid (Below W.heap.size W W') ∧
      Hid (∀ n, 1 ≤ n → SeqStopsK Fence.wide n Try.prog 64 lb2 encE (KeepB (w.heap.size + 1 + 1 + 1)) (fun ys => ys = nx ⟨sa, sb, sc⟩) (fun _ => True) N W')) := fun n2 => CallsIn.inRound l (callsIn_wide.2 (hL (w.heap.size + 1 + 1 + 1) ⟨sa, sb, sc⟩ W (by omega) hbnW hB1))
    gi_wp2_with (refine ⟨trivial, fun _ => by omega, ?_⟩; gi_at_call 39; refine (HL.out _).mono ?_; rintro e W2 ⟨lb2, rfl, HB2, HS2⟩)
    have HB2' := HB2.out
    have hsW : w.heap.size ≤ W.heap.size := hB1.size
    have hsW2 : W.heap.size ≤ W2.heap.size := HB2'.size
    have h1' : 1 ≤ n - 1 - 1 := by omega
    have hlW : l < W.heap.size := (Array.getElem?_eq_some_iff.1 hr).1
    have hr' : W2.heap[l]? = some (.loop r) := (HB2'.block l hlW).trans hr
    have hy := y.isLt
    clear cL c0 c1 c2 HL
    refine wpIn_rangeFunc_ownN (l₀ := l) (r₀ := r) rfl hr' h1' (gf := 64) (lb := lb2) rfl trivial (enters_of Try.func64 (by kernel_rfl) rfl)
      ((HS2.out (n - 1 - 1 - 1) (by omega)).inRound l) (fun h k => KeepB.trans h k) keepB_b (Below.refl _ _) (fun _ => rfl)
      (fun pre' W' => ((Boxed W' (w.heap.size + 1 + 1 + 1 + 1) 76 (.map (some (w.heap.size + 1 + 1 + 1))) ∧ Boxed W' Bx 3 (.int .i64 (y.val : Nat))) ∧ (Boxed W' (w.heap.size + 1) 82 (.func (.func 39) #[] lb) ∧ Boxed W' (w.heap.size + 1 + 1) 76 (.map none))) ∧ ((∃ T', IsTab H W' (w.heap.size + 1 + 1 + 1) T' ∧ Made (offs nx pre ++ off1 y.val pre') T') ∧ (Below w.heap.size w W' ∧ (KeepB (w.heap.size + 1 + 1 + 1) W W' ∧ KeepsFrom W0.heap.size W W'))))
      (fun _ _ _ => False)
      (OwnFrom.and (OwnFrom.and (OwnFrom.and (Own.from (boxed_own _ _ _) _) (Own.from (boxed_own _ _ _) _)) (OwnFrom.and (Own.from (boxed_own _ _ _) _) (Own.from (boxed_own _ _ _) _))) (OwnFrom.and (ownFrom_tab (by omega) (fun pre' T' => Made (offs nx pre ++ off1 y.val pre') T')) (OwnFrom.and (ownFrom_below (Nat.le_refl _) (by omega)) (OwnFrom.and (ownFrom_keepB (by omega)) (ownFrom_keepsFrom (by omega))))))
      (fun _ _ _ _ _ hs _ _ => hs)
      ⟨⟨⟨box_later bN1 HB2', box_later bX HB2'⟩, box_later bL1 HB2', box_later bR1 HB2'⟩, ⟨T1, hT2.same (HB2'.block _ hbnW), by simpa [off1] using hM1⟩, hB1.trans (HB2'.mono hsW), KeepB.later HB2', keepsFrom_later HB2'⟩
      (fun e a'' W' => ∃ Bt, Lies W' Bt e.1.cells 73 ∧ a'' = { tmps := #[.agg #[.map (some b)], .func (.func 39) #[] lb, .pointer (some ⟨w.heap.size, 0, none⟩), .pointer (some ⟨w.heap.size + 1, 0, none⟩), .pointer (some ⟨w.heap.size + 1 + 1, 0, none⟩), .pointer (some ⟨w.heap.size + 1 + 1 + 1 + 1, 0, none⟩), .pointer (some ⟨Bf, 0, none⟩), .pointer (some ⟨Bx, 0, none⟩), .pointer (some ⟨Bt, 0, none⟩), .int .i64 (e.2.val : Nat), .map (some (w.heap.size + 1 + 1 + 1)), .agg #[.map (some (w.heap.size + 1 + 1 + 1))], .agg #[.map (some b)], .func (.func 76) #[] #[.pointer (some ⟨w.heap.size + 1 + 1 + 1 + 1 + 1, 0, none⟩)], .agg #[.int .i64 (sa.val : Nat), .int .i64 (sb.val : Nat), .int .i64 (sc.val : Nat)], .int .i64 (y.val : Nat), .func (.func 39) #[] lb, .agg #[.int .i64 (sa.val : Nat), .int .i64 (sb.val : Nat), .int .i64 (sc.val : Nat)], .func (.func 64) #[] lb2, e.1.v, .int .i64 (e.2.val : Nat), undef, undef, undef, undef, undef, undef, undef], defers := [] })
      (fun e a' _ X Y row hs hg hr => by obtain ⟨Bt, h3, h5⟩ := hs; exact ⟨Bt, lies_own Bt 73 (fun (_ : Unit) => e.1.cells) () X Y row h3 hg (fun r e => (hr r e).2), h5⟩)
      ?assign2 ?body2 ?done2 ?stop2
    case assign2 =>
      rintro l2 pre' e W' K ⟨⟨⟨bN2, bX2⟩, bL2, bR2⟩, ⟨T2, hT3, hM2⟩, hB3, hKB, hKF⟩ hK
      have hsW' : w.heap.size ≤ W'.heap.size := hB3.size
      gi_wp2
      exact hK _ _ ((KeepsOthers.alloc _ _).from _) (KeepB.alloc _ W' _) ⟨⟨⟨bN2.alloc _, bX2.alloc _⟩, bL2.alloc _, bR2.alloc _⟩, ⟨T2, hT3.kept (World.grownBy_alloc _ _ none) (by simp), hM2⟩, hB3.alloc hsW' _, hKB.trans (KeepB.alloc _ W' _), hKF.trans ((KeepsOthers.alloc _ _).from _)⟩ ⟨W'.heap.size, Lies.new W' _ _, rfl⟩
    case body2 =>
      rintro l2 pre' e a'' W' _ _ ⟨⟨⟨bN2, bX2⟩, bL2, bR2⟩, ⟨T2, hT3, hM2⟩, hB3, hKB, hKF⟩ ⟨Bt, lT, rfl⟩ _
      obtain ⟨⟨ta, tb, tc⟩, z⟩ := e
      have cN := bN2.cell
      have cX := bX2.cell
      have c0 := lT.cell (j := 0) (v := .int .i64 (ta.val : Nat)) rfl
      have c1 := lT.cell (j := 1) (v := .int .i64 (tb.val : Nat)) rfl
      have c2 := lT.cell (j := 2) (v := .int .i64 (tc.val : Nat)) rfl
      have hz := z.isLt
      have HO : Hid (∀ n2, CallsIn ((Fence.wide.inRound l).inRound l2) n2 Try.prog 63 #[.agg #[.map (some (w.heap.size + 1 + 1 + 1))], .agg #[.int .i64 (ta.val : Nat), .int .i64 (tb.val : Nat), .int .i64 (tc.val : Nat)], .int .i64 ((y.val : Nat) + (z.val : Nat))] W' fun e w' => (∃ v, e = .returned v) ∧ Hid (IsTab H w' (w.heap.size + 1 + 1 + 1) (offerT T2 ⟨ta, tb, tc⟩ (y.val + z.val))) ∧ Hid (W'.grownBy w' (some (w.heap.size + 1 + 1 + 1)))) := fun n2 => CallsIn.inRound l2 (CallsIn.inRound l (callsIn_wide.2 (by have := offer_any H (w.heap.size + 1 + 1 + 1) T2 ⟨ta, tb, tc⟩ (y.val + z.val) (by omega) W' hT3; rw [Int.natCast_add] at this; exact this)))
      gi_wp2_with (refine ⟨trivial, fun _ => by omega, ?_⟩; gi_at_call 63; refine (HO.out _).mono ?_; rintro e W3 ⟨⟨v, rfl⟩, HT4, HG3⟩)
      have HG := HG3.out
      exact ⟨keepsFrom_grown (by omega) HG, KeepB.grown HG, ⟨⟨bN2.kept HG (by simp), bX2.kept HG (by simp; omega)⟩, bL2.kept HG (by simp), bR2.kept HG (by simp)⟩, ⟨_, HT4.out, by rw [off1_snoc, ← List.append_assoc]; exact made_offer hM2 _ _⟩, hB3.grown HG hB3.size (fun k hk => by cases hk; omega), hKB.trans (KeepB.grown HG), hKF.trans (keepsFrom_grown (by omega) HG)⟩
    case done2 =>
      rintro ys' W' rfl ⟨⟨⟨bN2, bX2⟩, bL2, bR2⟩, ⟨T2, hT3, hM2⟩, hB3, hKB, hKF⟩
      gi_wp2
      exact ⟨hKF, hKB, ⟨⟨bL2, bR2⟩, bN2⟩, ⟨T2, hT3, by rw [offs_snoc]; exact hM2⟩, hB3⟩
    case stop2 =>
      rintro c pre' W' _ h
      exact h.elim
  case done =>
    rintro D zs W hD hzs ⟨⟨⟨bL1, bR1⟩, bN1⟩, ⟨T1, hT2, hM1⟩, hB1⟩ hK
    have cN := bN1.cell
    have cR := bR1.cell
    have fR := bR1.frozen
    gi_wp2
    have hK2 : (W.setCell ⟨w.heap.size + 1 + 1, 0, none⟩ (.map (some (w.heap.size + 1 + 1 + 1)))).heap[D]? = some (.deferred (some [])) := (Below.heap_setCell _ _ _ _ (by show D ≠ w.heap.size + 1 + 1; omega)).trans hK
    refine ⟨by simp, .inl ⟨_, _, rfl, run_takeDeferred hK2, ?_⟩⟩
    have bR2 : Boxed ((W.setCell ⟨w.heap.size + 1 + 1, 0, none⟩ (.map (some (w.heap.size + 1 + 1 + 1)))).putObj D (.deferred none)) (w.heap.size + 1 + 1) 76 (.map (some (w.heap.size + 1 + 1 + 1))) := (World.putObj_heap_other (by omega)).trans (bR1.set _)
    have cR2 := bR2.cell
    have hT4 : IsTab H ((W.setCell ⟨w.heap.size + 1 + 1, 0, none⟩ (.map (some (w.heap.size + 1 + 1 + 1)))).putObj D (.deferred none)) (w.heap.size + 1 + 1 + 1) T1 := (hT2.setCell (a := ⟨w.heap.size + 1 + 1, 0, none⟩) (by simp) _).same (World.putObj_heap_other (by omega))
    refine ⟨.agg #[.map (some (w.heap.size + 1 + 1 + 1))], (by simp [results, Try.results38, go_sem, cR2, Result.andThen]), ⟨_, T1, rfl, hT4, onto_of hT1 hzs hM1⟩, ?_⟩
    exact (hB1.setCell (p := ⟨w.heap.size + 1 + 1, 0, none⟩) (by simp; omega) _).trans (belowK_b (w := w) (Nat.le_refl _) _ D _ _ (by omega) hK2 rfl rfl)
  case stop =>
    rintro D c pre W _ _ h _
    exact h.elim
theorem tstep_any (H : Type) (b : Nat) (T : P3 → Option Nat) (hT1 : ∀ s x, T s = some x → x < 1024) (lb : Array Value) (nx : P3 → List Ent) (N : Nat) (w : World) (hT : IsTab H w b T)
    (hL : LeadsTo w 39 lb 64 nx N) :
    Calls Try.prog 38 #[.agg #[.map (some b)], .func (.func 39) #[] lb] w fun e W' => (∃ b' T', e = .returned (.agg #[.map (some b')]) ∧ IsTab H W' b' T' ∧ Onto nx T T') ∧ Below w.heap.size w W' :=
  callsIn_wide.1 (tstep_in H 6 (Nat.le_refl _) b T hT1 lb nx N w hT hL)
end Pl
end Go.Proofs.Ytnjfmlojbaigjab

/- The walk of a table's Least: the least that it tells. -/
namespace Go.Proofs.Ytnjfmlojbaigjab
namespace Pl
set_option maxRecDepth 100000
open Go.RowKit Go.Maps Go.Shelf
attribute [local go_sem] Oper.semAt_some

/-- The least of what came, and whether nothing came yet. -/
def lstOf : List Ent → Nat × Bool → Nat × Bool
  | [], st => st
  | x :: l, st => lstOf l (if st.2 || decide (x.2.val < st.1) then (x.2.val, false) else st)
theorem lstOf_snoc (x : Ent) : ∀ (l : List Ent) (st : Nat × Bool), lstOf (l ++ [x]) st = (if (lstOf l st).2 || decide (x.2.val < (lstOf l st).1) then (x.2.val, false) else lstOf l st)
  | [], _ => rfl
  | y :: l, st => by rw [List.cons_append, lstOf, lstOf, lstOf_snoc x l]
theorem lstOf_lt : ∀ (l : List Ent) (st : Nat × Bool), st.1 < 1024 → (lstOf l st).1 < 1024
  | [], _, h => h
  | x :: l, st, h => by
    rw [lstOf]
    refine lstOf_lt l _ ?_
    split
    · exact x.2.isLt
    · exact h
theorem lstOf_some : ∀ (l : List Ent) (st : Nat × Bool), st.2 = false → (lstOf l st).2 = false ∧ ((lstOf l st).1 = st.1 ∨ ∃ x, x ∈ l ∧ x.2.val = (lstOf l st).1) ∧ (lstOf l st).1 ≤ st.1 ∧ ∀ x, x ∈ l → (lstOf l st).1 ≤ x.2.val
  | [], st, h => ⟨h, .inl rfl, Nat.le_refl _, fun _ hx => (by cases hx)⟩
  | x :: l, st, h => by
    rw [lstOf, h, Bool.false_or]
    by_cases hx : x.2.val < st.1
    · rw [if_pos (decide_eq_true hx)]
      obtain ⟨a, b, c, d⟩ := lstOf_some l (x.2.val, false) rfl
      refine ⟨a, .inr ?_, by simp only [] at c; omega, fun z hz => ?_⟩
      · rcases b with b | ⟨z, hz, e⟩
        · exact ⟨x, List.mem_cons_self, b.symm⟩
        · exact ⟨z, List.mem_cons_of_mem _ hz, e⟩
      · rcases List.mem_cons.1 hz with rfl | hz
        · exact c
        · exact d z hz
    · rw [if_neg (by simpa using hx)]
      obtain ⟨a, b, c, d⟩ := lstOf_some l st h
      refine ⟨a, ?_, c, fun z hz => ?_⟩
      · rcases b with b | ⟨z, hz, e⟩
        · exact .inl b
        · exact .inr ⟨z, List.mem_cons_of_mem _ hz, e⟩
      · rcases List.mem_cons.1 hz with rfl | hz
        · omega
        · exact d z hz
/-- x is the least that T tells. -/
structure LeastT (T : P3 → Option Nat) (x : Nat) : Prop where
  got : ∃ s, T s = some x
  all : ∀ s y, T s = some y → x ≤ y
theorem lst_least {T : P3 → Option Nat} (hT1 : ∀ s x, T s = some x → x < 1024) {ps : List Ent} (ha : AllOf T ps) (h0 : ∃ s x, T s = some x) : LeastT T (lstOf ps (0, true)).1 := by
  obtain ⟨s, x, hs⟩ := h0
  have hm := (ha s ⟨x, hT1 s x hs⟩).2 hs
  cases ps with
  | nil => cases hm
  | cons e l =>
    rw [lstOf, Bool.true_or, if_pos rfl]
    obtain ⟨_, b, c, d⟩ := lstOf_some l (e.2.val, false) rfl
    refine ⟨?_, fun t y ht => ?_⟩
    · rcases b with b | ⟨z, hz, ez⟩
      · exact ⟨e.1, by rw [b]; exact (ha e.1 e.2).1 List.mem_cons_self⟩
      · exact ⟨z.1, by rw [← ez]; exact (ha z.1 z.2).1 (List.mem_cons_of_mem _ hz)⟩
    · have hy := hT1 t y ht
      have := (ha t ⟨y, hy⟩).2 ht
      rcases List.mem_cons.1 this with h1 | h1
      · rw [← h1]; rw [← h1] at c; exact c
      · exact d _ h1
set_option maxRecDepth 100000 in
set_option maxHeartbeats 4000000 in
theorem tleast_in (H : Type) (n : Nat) (hn : 6 ≤ n) (b : Nat) (T : P3 → Option Nat) (hT1 : ∀ s x, T s = some x → x < 1024) (h0 : ∃ s x, T s = some x) (w : World) (hT : IsTab H w b T) :
    CallsIn Fence.wide n Try.prog 41 #[.agg #[.map (some b)]] w fun e W' => (∃ x : Nat, e = .returned (.int .i64 x) ∧ LeastT T x) ∧ Below w.heap.size w W' := by
  have hro : Fence.wide.round = none := rfl
  have h1 : 1 ≤ n := by omega
  have mixed : Try.prog.follows Departure.mixedOrders = true := by kernel_rfl
  refine callsIn_of_wp_marks Try.func41 rfl trivial ?_ hro
  simp only [Try.ntmps41, List.size_toArray, List.length_cons, List.length_nil, Nat.reduceAdd, Nat.reduceSub, Array.replicate_succ, Array.replicate_zero, List.push_toArray, List.append_toArray, List.nil_append, List.cons_append]
  gi_wp2_with (refine ⟨trivial, ?_⟩; gi_at_call 62; refine (tall_in (n - 1) b _).mono ?_; rintro e w' ⟨rfl, rfl⟩)
  have bF := ((Boxed.new (w.alloc (.cells #[.map (some b)] 76)) 3 (.int .i64 0)).alloc (.cells #[.bool true] 4)).alloc (.cells #[.map (some b)] 76)
  have bE := (Boxed.new ((w.alloc (.cells #[.map (some b)] 76)).alloc (.cells #[.int .i64 0] 3)) 4 (.bool true)).alloc (.cells #[.map (some b)] 76)
  have bA := Boxed.new (((w.alloc (.cells #[.map (some b)] 76)).alloc (.cells #[.int .i64 0] 3)).alloc (.cells #[.bool true] 4)) 76 (.map (some b))
  simp only [World.size_alloc] at bF bE bA
  have hB0 : Below w.heap.size w ((((w.alloc (.cells #[.map (some b)] 76)).alloc (.cells #[.int .i64 0] 3)).alloc (.cells #[.bool true] 4)).alloc (.cells #[.map (some b)] 76)) := ((((Below.refl _ w).alloc (Nat.le_refl _) _).alloc (by simp) _).alloc (by simp; omega) _).alloc (by simp; omega) _
  have hsz : ((((w.alloc (.cells #[.map (some b)] 76)).alloc (.cells #[.int .i64 0] 3)).alloc (.cells #[.bool true] 4)).alloc (.cells #[.map (some b)] 76)).heap.size = w.heap.size + 4 := by simp
  obtain ⟨W0, hW0⟩ : ∃ W0, (((w.alloc (.cells #[.map (some b)] 76)).alloc (.cells #[.int .i64 0] 3)).alloc (.cells #[.bool true] 4)).alloc (.cells #[.map (some b)] 76) = W0 := ⟨_, rfl⟩
  rw [hW0] at bF bE bA hB0 hsz ⊢
  clear hW0
  have hbw : b < w.heap.size := hT.lt
  have hT0 : IsTab H W0 b T := hT.same (hB0.block b hbw)
  refine wpIn_rangeFunc_ownH hro h1 (gf := 76) (lb := #[.pointer (some ⟨w.heap.size + 1 + 1 + 1, 0, none⟩)]) rfl trivial (enters_of Try.func76 (by kernel_rfl) rfl)
    (all_stopsW (H := H) Fence.wide (n - 1) trivial hro (by omega) (w.heap.size + 1 + 1 + 1) b w.heap.size T hT1 W0 (by omega) (by omega) bA.cell hT0) (fun h k => KeepW.trans h k) keepW_b (Below.refl _ _) (fun _ => rfl)
    (fun pre W => (Boxed W (w.heap.size + 1) 3 (.int .i64 ((lstOf pre (0, true)).1 : Nat)) ∧ Boxed W (w.heap.size + 1 + 1) 4 (.bool (lstOf pre (0, true)).2)) ∧ Below w.heap.size w W)
    (fun _ _ _ => False)
    (OwnFrom.and (OwnFrom.and (Own.from (boxed_own _ _ _) _) (Own.from (boxed_own _ _ _) _)) (ownFrom_below (Nat.le_refl _) (by omega)))
    (fun _ _ _ _ _ hs _ _ => hs)
    ⟨⟨bF, bE⟩, hB0⟩
    (fun x a' _ => a' = { tmps := #[.agg #[.map (some b)], .pointer (some ⟨w.heap.size, 0, none⟩), .int .i64 0, .pointer (some ⟨w.heap.size + 1, 0, none⟩), .pointer (some ⟨w.heap.size + 1 + 1, 0, none⟩), undef, .int .i64 (x.2.val : Nat), .agg #[.map (some b)], .func (.func 76) #[] #[.pointer (some ⟨w.heap.size + 1 + 1 + 1, 0, none⟩)], x.1.v, .int .i64 (x.2.val : Nat), undef, undef, undef, undef, undef, undef, undef, undef], defers := [] })
    (fun _ _ _ _ _ _ hs _ _ => hs)
    ?assign ?body ?done ?stop
  case assign =>
    rintro l pre x W K hi hK
    gi_wp2
    exact hK _ _ (KeepsFrom.refl _ _) (KeepB.refl _ _).walks hi rfl
  case body =>
    rintro l pre x a' W hl _ ⟨⟨bF1, bE1⟩, hB1⟩ rfl hlt
    have hx := x.2.isLt
    have hq := lstOf_lt pre (0, true) (by simp)
    have HS : Hid (lstOf (pre ++ [x]) (0, true) = _) := lstOf_snoc x pre (0, true)
    generalize lstOf pre (0, true) = q at *
    obtain ⟨q, e⟩ := q
    simp only [] at bF1 bE1 hq HS
    have cF := bF1.cell
    have cE := bE1.cell
    have fF := bF1.frozen
    have fE := bE1.frozen
    have bF2 := bF1.set (.int .i64 (x.2.val : Nat))
    have bE2 : Boxed (W.setCell ⟨w.heap.size + 1, 0, none⟩ (.int .i64 (x.2.val : Nat))) (w.heap.size + 1 + 1) 4 (.bool e) := bE1.other (by omega) _
    have cE2 := bE2.cell
    have fE2 := bE2.frozen
    have hput : ∀ (a0 : Act) (b0 : Bool), b0 = true → lstOf (pre ++ [x]) (0, true) = (if b0 then (x.2.val, false) else (q, e)) → ownPostG W0.heap.size (KeepW w.heap.size) (fun pre W => (Boxed W (w.heap.size + 1) 3 (.int .i64 ((lstOf pre (0, true)).1 : Nat)) ∧ Boxed W (w.heap.size + 1 + 1) 4 (.bool (lstOf pre (0, true)).2)) ∧ Below w.heap.size w W) (fun _ _ _ => False) (pre ++ [x]) W Exit.normal a0 ((W.setCell ⟨w.heap.size + 1, 0, none⟩ (.int .i64 (x.2.val : Nat))).setCell ⟨w.heap.size + 1 + 1, 0, none⟩ (.bool false)) := by
      intro a0 b0 hb he
      rw [hb, if_pos rfl] at he
      have k1 := (KeepsOthers.setCell W ⟨w.heap.size + 1, 0, none⟩ (.int .i64 (x.2.val : Nat))).trans (KeepsOthers.setCell _ ⟨w.heap.size + 1 + 1, 0, none⟩ (.bool false))
      refine ⟨k1.from _, ⟨k1.size, fun k o hk ho _ => k1.same k o hk (Obj.not_cells_of_walk ho)⟩, ?_⟩
      dsimp only []
      rw [he]
      exact ⟨⟨bF2.other (by omega) _, bE2.set _⟩, (hB1.setCell (p := ⟨w.heap.size + 1, 0, none⟩) (by simp) _).setCell (p := ⟨w.heap.size + 1 + 1, 0, none⟩) (by simp; omega) _⟩
    have HP : Hid (∀ (a0 : Act) (b0 : Bool), b0 = true → lstOf (pre ++ [x]) (0, true) = (if b0 then (x.2.val, false) else (q, e)) → ownPostG W0.heap.size (KeepW w.heap.size) (fun pre W => (Boxed W (w.heap.size + 1) 3 (.int .i64 ((lstOf pre (0, true)).1 : Nat)) ∧ Boxed W (w.heap.size + 1 + 1) 4 (.bool (lstOf pre (0, true)).2)) ∧ Below w.heap.size w W) (fun _ _ _ => False) (pre ++ [x]) W Exit.normal a0 ((W.setCell ⟨w.heap.size + 1, 0, none⟩ (.int .i64 (x.2.val : Nat))).setCell ⟨w.heap.size + 1 + 1, 0, none⟩ (.bool false))) := hput
    clear hput
    cases e with
    | true =>
      gi_wp2
      exact HP.out _ true rfl (by rw [HS.out]; rfl)
    | false =>
      by_cases hlt2 : x.2.val < q
      · have hltI : ((x.2.val : Nat) : Int) < (q : Int) := by omega
        gi_wp2
        exact HP.out _ true rfl (by rw [HS.out]; simp [hlt2])
      · have hltI : ¬ ((x.2.val : Nat) : Int) < (q : Int) := by omega
        gi_wp2
        refine ⟨KeepsFrom.refl _ _, (KeepB.refl _ _).walks, ?_⟩
        dsimp only []
        rw [show lstOf (pre ++ [x]) (0, true) = (q, false) by rw [HS.out]; simp [hlt2]]
        exact ⟨⟨bF1, bE1⟩, hB1⟩
  case done =>
    rintro D zs W hD hzs ⟨⟨bF1, bE1⟩, hB1⟩ hK
    have cF := bF1.cell
    gi_wp2
    refine ⟨by simp, .inl ⟨_, _, rfl, run_takeDeferred hK, ?_⟩⟩
    exact ⟨_, results_tmp rfl _ _ _, ⟨_, rfl, lst_least hT1 hzs h0⟩, hB1.trans (belowK_b (w := w) (Nat.le_refl _) W D _ _ (by omega) hK rfl rfl)⟩
  case stop =>
    rintro D c pre W _ _ h _
    exact h.elim
theorem tleast_any (H : Type) (b : Nat) (T : P3 → Option Nat) (hT1 : ∀ s x, T s = some x → x < 1024) (h0 : ∃ s x, T s = some x) (w : World) (hT : IsTab H w b T) :
    Calls Try.prog 41 #[.agg #[.map (some b)]] w fun e W' => (∃ x : Nat, e = .returned (.int .i64 x) ∧ LeastT T x) ∧ Below w.heap.size w W' := callsIn_wide.1 (tleast_in H 6 (Nat.le_refl _) b T hT1 h0 w hT)
end Pl
end Go.Proofs.Ytnjfmlojbaigjab
