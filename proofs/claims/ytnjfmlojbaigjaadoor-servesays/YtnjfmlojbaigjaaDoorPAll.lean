/- A table's All, as an iterator: each state with its number comes, whatever is done meanwhile, as long as that keeps the table. -/
import Derived.Test.YtnjfmlojbaigjaaDoorPOffer
namespace Go.Proofs.YtnjfmlojbaigjaaDoor
namespace Pl
set_option maxRecDepth 100000
open Go.RowKit Go.Maps Go.Shelf

attribute [local go_sem] Oper.semAt_some

abbrev Ent := P3 × Fin 1024
abbrev encE (x : Ent) : Array Value := #[x.1.v, .int .i64 (x.2.val : Nat)]
/-- All cells and all walks stay, but the map in block bn. -/
structure KeepB (bn : Nat) (W W' : World) : Prop where
  size : W.heap.size ≤ W'.heap.size
  same : ∀ (k : Nat) (o : Obj), W.heap[k]? = some o → (o.isCells = true ∨ o.isWalk = true) → k ≠ bn → W'.heap[k]? = some o
theorem KeepB.refl (bn : Nat) (W : World) : KeepB bn W W := ⟨Nat.le_refl _, fun _ _ h _ _ => h⟩
theorem KeepB.trans {bn : Nat} {A B C : World} (h : KeepB bn A B) (k : KeepB bn B C) : KeepB bn A C := ⟨Nat.le_trans h.size k.size, fun i o hi ho hn => k.same i o (h.same i o hi ho hn) ho hn⟩
theorem KeepB.alloc (bn : Nat) (W : World) (o : Obj) : KeepB bn W (W.alloc o) := ⟨by simp, fun k _ hk _ _ => (Below.heap_alloc W o k (Array.getElem?_eq_some_iff.1 hk).1).trans hk⟩
theorem KeepB.grown {bn : Nat} {W W' : World} (h : W.grownBy W' (some bn)) : KeepB bn W W' := ⟨h.size, fun k _ hk _ hn => (h.block k (Array.getElem?_eq_some_iff.1 hk).1 (by simp [hn])).trans hk⟩
theorem KeepB.later {bn : Nat} {W W' : World} (h : Below W.heap.size W W') : KeepB bn W W' := ⟨h.size, fun k _ hk _ _ => (h.block k (Array.getElem?_eq_some_iff.1 hk).1).trans hk⟩
theorem keepB_b {bn : Nat} {w : World} (W : World) (l : Nat) (o o' : Obj) (_ : w.heap.size ≤ l) (h : W.heap[l]? = some o) (hc : o.isCells = false) (hw : o.isWalk = false) : KeepB bn W (W.putObj l o') :=
  ⟨by simp, fun k o'' hk ho _ => by
    by_cases e : k = l
    · subst e; rw [h] at hk; cases hk; rw [hc, hw] at ho; simp at ho
    · exact (World.putObj_heap_other e).trans hk⟩
theorem KeepB.cell {bn : Nat} {W W' : World} (h : KeepB bn W W') {b j : Nat} {u : Value} (hc : W.cell? ⟨b, j, none⟩ = some u) (hn : b ≠ bn) : W'.cell? ⟨b, j, none⟩ = some u := by
  cases ho : W.heap[b]? with
  | none => simp [World.cell?, ho] at hc
  | some o =>
    have hcell : o.isCells = true := by cases o <;> simp [World.cell?, ho] at hc <;> rfl
    have := h.same b o ho (.inl hcell) hn
    unfold World.cell? at hc ⊢
    simp only [this, ho] at hc ⊢
    exact hc
theorem KeepB.tab {H : Type} {bn : Nat} {W W' : World} (h : KeepB bn W W') {b : Nat} {T : P3 → Option Nat} (hT : IsTab H W b T) (hn : b ≠ bn) : IsTab H W' b T := by
  obtain ⟨es, ck, hh⟩ := hT.obj
  exact hT.same ((h.same b _ hh (.inr rfl) hn).trans hh.symm)
/-- All walks stay, but the map in block bn. -/
structure KeepW (bn : Nat) (W W' : World) : Prop where
  size : W.heap.size ≤ W'.heap.size
  same : ∀ (k : Nat) (o : Obj), W.heap[k]? = some o → o.isWalk = true → k ≠ bn → W'.heap[k]? = some o
theorem KeepB.walks {bn : Nat} {W W' : World} (h : KeepB bn W W') : KeepW bn W W' := ⟨h.size, fun k o hk ho hn => h.same k o hk (.inr ho) hn⟩
theorem KeepW.trans {bn : Nat} {A B C : World} (h : KeepW bn A B) (k : KeepW bn B C) : KeepW bn A C := ⟨Nat.le_trans h.size k.size, fun i o hi ho hn => k.same i o (h.same i o hi ho hn) ho hn⟩
theorem keepW_b {bn : Nat} {w : World} (W : World) (l : Nat) (o o' : Obj) (_ : w.heap.size ≤ l) (h : W.heap[l]? = some o) (_ : o.isCells = false) (hw : o.isWalk = false) : KeepW bn W (W.putObj l o') :=
  ⟨by simp, fun k o'' hk ho _ => by
    by_cases e : k = l
    · subst e; rw [h] at hk; cases hk; rw [hw] at ho; cases ho
    · exact (World.putObj_heap_other e).trans hk⟩
theorem ranges_keep {H : Type} {P : Program} {k : TypeId} {R : Value → Option (DataW H × List MemPlace)} {w w' : World} {b r n bn : Nat} {D : DataW H} {left : Lit → Bool} {cnt : Nat}
    (h : w.ranges P k R b r n D left cnt) (hk : KeepW bn w w') (hb : b ≠ bn) (hr : r ≠ bn) : w'.ranges P k R b r n D left cnt := by
  obtain ⟨es, clock, since, seen, c0, h1, F, hs, hD, h2, rest⟩ := h
  exact ⟨es, clock, since, seen, c0, hk.same b _ h1 rfl hb, F, hs, hD, hk.same r _ h2 rfl hr, rest⟩

/-- What has come of a table. -/
def AllOf (T : P3 → Option Nat) (ps : List Ent) : Prop := ∀ (s : P3) (x : Fin 1024), (s, x) ∈ ps ↔ T s = some x.val
def Col (T : P3 → Option Nat) (left : Lit → Bool) (ps : List Ent) : Prop := ∀ s, (∀ x : Fin 1024, (s, x) ∈ ps → T s = some x.val) ∧ (left s.key = false → ∀ x : Fin 1024, T s = some x.val → (s, x) ∈ ps)
theorem col_start {H : Type} {D : DataW H} {T : P3 → Option Nat} (h : ∀ s, Tell D s (T s)) : Col T (has D) [] := fun s => ⟨fun _ hx => (by cases hx), fun hl x hx => by
  have := h s
  rw [hx] at this
  rw [this.1] at hl; cases hl⟩
theorem tell_at {H : Type} {D : DataW H} {T : P3 → Option Nat} (h : ∀ s, Tell D s (T s)) {s : P3} {c : Int} (hat : ∀ z, D.atKey s.key z = .lit (.int .i64 c)) : ∃ x : Nat, T s = some x ∧ c = x := by
  have := h s
  cases hT : T s with
  | none =>
    rw [hT] at this
    have hh : has D s.key = true := has_true_of_atKey hat
    rw [show has D s.key = false from this] at hh; cases hh
  | some x =>
    rw [hT] at this
    have e := this.2 (.lit (.int .i64 0))
    rw [hat] at e
    exact ⟨x, rfl, by simpa using e⟩
theorem col_step {T : P3 → Option Nat} {left : Lit → Bool} {ps : List Ent} (h : Col T left ps) {s0 : P3} {x0 : Fin 1024} (hT : T s0 = some x0.val) : Col T (fun z => left z && !z.sameKey s0.key) (ps ++ [(s0, x0)]) := fun s => by
  refine ⟨fun x hx => ?_, fun hl x hx => ?_⟩
  · rcases List.mem_append.1 hx with hx | hx
    · exact (h s).1 x hx
    · simp at hx; obtain ⟨rfl, rfl⟩ := hx; exact hT
  · by_cases e : s = s0
    · subst e
      have : x = x0 := Fin.ext (Option.some.inj (hx.symm.trans hT))
      subst this
      exact List.mem_append.2 (.inr (by simp))
    · refine List.mem_append.2 (.inl ((h s).2 ?_ x hx))
      have hne : s.key.sameKey s0.key = false := sameKey_ne fun e2 => e (P3.key_inj e2)
      dsimp only at hl
      rw [hne] at hl
      simpa using hl

set_option maxRecDepth 100000 in
set_option maxHeartbeats 2000000 in
theorem all1_in {H : Type} (F : Fence) (n : Nat) (hF : F.fn 50) (hro : F.round = none) (hn : 1 ≤ n) (l Bm b bn : Nat) (T : P3 → Option Nat) (hT1 : ∀ s x, T s = some x → x < 1024) (J Jx : List Ent → World → Prop)
    (hY : ∀ pre x W, J pre W → pre.length < 2198 → YieldAt F (n - 1) Tryd.prog l (encE x) W fun e W' =>
      (e = .returned (.bool true) ∧ J (pre ++ [x]) W' ∧ KeepW bn W W') ∨ (e = .returned (.bool false) ∧ Jx (pre ++ [x]) W'))
    (W : World) (hJ : AbidesFrom W.heap.size J) (hbn : bn < W.heap.size) (hne : b ≠ bn) (hm : W.cell? ⟨Bm, 0, none⟩ = some (.map (some b))) (hT : IsTab H W b T) (h0 : J [] W) :
    CallsIn F n Tryd.prog 50 #[.func (.yield l) #[] #[], .pointer (some ⟨Bm, 0, none⟩)] W fun e W' => (∃ v, e = .returned v) ∧
      ((∃ ps, AllOf T ps ∧ J ps W') ∨ (∃ pre, True ∧ Jx pre W')) := by
  obtain ⟨D, hown, htell, hfew⟩ := hT
  have hsz : Maps.size D ≤ 2197 := hown.size_le
  refine callsIn_of_wp Tryd.func50 rfl hF ?_ hro
  simp only [Tryd.ntmps50, List.size_toArray, List.length_cons, List.length_nil, Nat.reduceAdd, Nat.reduceSub, Array.replicate_succ, Array.replicate_zero, List.push_toArray, List.append_toArray, List.nil_append, List.cons_append]
  gi_wp2_with (first
    | (gi_at_range; refine wpListIn_range_own _ rfl _ 48 rfl 47 3 places_keyed Tryd.underlying48 _ b 2197 _ rfl hown ?_; intro w0 hrg0 hg0 hs0)
    | gi_in)
  go_frame
  gi_loopw [3, 4] (fun _ _ wr => ∃ (left : Lit → Bool) (cnt : Nat) (ps : List Ent), wr.ranges Tryd.prog 47 (plainElem Tryd.prog 3) b W.heap.size 2197 D left cnt ∧ ps.length + cnt ≤ Maps.size D ∧ Col T left ps ∧ J ps wr)
    (fun _ _ wr => wr.rangeLeft b W.heap.size)
  case atStart =>
    exact ⟨_, _, [], hrg0, by simp, col_start htell, hJ [] W w0 none h0 hg0 (fun r e => by cases e)⟩
  case round =>
    obtain ⟨left, cnt, ps, hrg, hcs, hC, hJs⟩ := hrel
    gi_wp2_with (first
      | (gi_at_next; refine wpListIn_next_ranges _ rfl _ rfl 47 places_keyed (plainElem Tryd.prog 3) G3.v (Value.int .i64) (fun key kl hk => by obtain ⟨x, hx, _⟩ := gkey_inv hk; exact ⟨x, hx⟩) (fun v y hv => by obtain ⟨c, rfl, _⟩ := plainElem_int_inv Tryd.underlying3 hv; exact ⟨c, rfl⟩) b W.heap.size 2197 _ _ _ rfl hrg ?_ ?_)
      | gi_in)
    · intro hc0 hl0
      gi_wp2
      go_end0
      exact ⟨⟨_, rfl⟩, .inl ⟨ps, fun s x => ⟨(hC s).1 x, (hC s).2 (hl0 _) x⟩, hJs⟩⟩
    · intro g c kl yd yp w2 cnt2 hkey hlk hv hat hrg2 hlt hg2 hs2 hen
      obtain rfl : kl = g.key := Option.some.inj (hkey.symm.trans (gkey_of g))
      obtain ⟨s, rfl⟩ := hfew g (has_true_of_atKey hat)
      have ga : s.g.a = ((s.a.val : Nat) : Int) := rfl
      have gb : s.g.b = ((s.b.val : Nat) : Int) := rfl
      have gc : s.g.c = ((s.c.val : Nat) : Int) := rfl
      obtain ⟨c', ec, ez, _⟩ := plainElem_int_inv Tryd.underlying3 hv
      obtain rfl : c = c' := by simpa using ec
      obtain rfl : yd = .lit (.int .i64 c) := (Prod.mk.inj ez).1
      obtain ⟨x, hTx, rfl⟩ := tell_at htell (s := s) (c := c) hat
      have hx : x < 1024 := hT1 s x hTx
      have hJ2 : J ps w2 := hJ ps wr w2 (some W.heap.size) hJs hg2 (fun r e => by cases e; exact ⟨Nat.le_refl _, hrg.iter_walk⟩)
      have hJ3 : J ps (w2.alloc (.cells s.cells 47)) := hJ ps w2 _ none hJ2 (World.grownBy_alloc _ _ none) (fun r e => by cases e)
      obtain ⟨fn, tmps, assign, body, hy, hR⟩ := hY ps (s, ⟨x, hx⟩) _ hJ3 (by omega)
      dsimp only [encE] at hy
      clear hs2 hkey hv ez ec hat
      gi_wp2
      refine hR.mono ?_
      have hC2 := col_step hC (s0 := s) (x0 := ⟨x, hx⟩) hTx
      rintro e W3 (⟨rfl, hJ4, hk3⟩ | ⟨rfl, hJx3⟩)
      · gi_wp2
        have hrg3 := ranges_keep hrg2 ((KeepB.alloc bn w2 _).walks.trans hk3) hne (by omega)
        go_roundw
        case rel => exact ⟨_, cnt2, ps ++ [(s, ⟨x, hx⟩)], hrg3, by simp; omega, hC2, hJ4⟩
        case measure => rw [hrg3.left_eq, hrg.left_eq]; exact hlt
      · gi_wp2
        refine bodyPost_ret (results_none rfl _ _ _) rfl ?_
        exact ⟨⟨_, rfl⟩, .inr ⟨ps ++ [(s, ⟨x, hx⟩)], trivial, hJx3⟩⟩

theorem all_stopsW {H : Type} (F : Fence) (n : Nat) (hF : F.fn 50) (hro : F.round = none) (hn : 1 ≤ n) (Bm b bn : Nat) (T : P3 → Option Nat) (hT1 : ∀ s x, T s = some x → x < 1024) (w : World)
    (hbn : bn < w.heap.size) (hne : b ≠ bn) (hm : w.cell? ⟨Bm, 0, none⟩ = some (.map (some b))) (hT : IsTab H w b T) :
    SeqStopsK F n Tryd.prog 50 #[.pointer (some ⟨Bm, 0, none⟩)] encE (KeepW bn) (AllOf T) (fun _ => True) 2198 w := fun l J Jx W hW hJ _ hY h0 =>
  all1_in F n hF hro hn l Bm b bn T hT1 J Jx hY W hJ (Nat.lt_of_lt_of_le hbn hW.size) hne ((hW.cell (p := ⟨Bm, 0, none⟩) (World.block_lt_of_cell? w _ hm)).trans hm) (hT.same (hW.block b hT.lt)) h0
theorem all_stops {H : Type} (F : Fence) (n : Nat) (hF : F.fn 50) (hro : F.round = none) (hn : 1 ≤ n) (Bm b bn : Nat) (T : P3 → Option Nat) (hT1 : ∀ s x, T s = some x → x < 1024) (w : World)
    (hbn : bn < w.heap.size) (hne : b ≠ bn) (hm : w.cell? ⟨Bm, 0, none⟩ = some (.map (some b))) (hT : IsTab H w b T) :
    SeqStopsK F n Tryd.prog 50 #[.pointer (some ⟨Bm, 0, none⟩)] encE (KeepB bn) (AllOf T) (fun _ => True) 2198 w := fun l J Jx W hW hJ hJx hY h0 =>
  all_stopsW (H := H) F n hF hro hn Bm b bn T hT1 w hbn hne hm hT l J Jx W hW hJ hJx (fun pre x W1 h1 h2 => by
    obtain ⟨fn, tmps, assign, body, hy, hR⟩ := hY pre x W1 h1 h2
    exact ⟨fn, tmps, assign, body, hy, hR.mono fun e W' h => h.imp (fun h => ⟨h.1, h.2.1, h.2.2.walks⟩) id⟩) h0
theorem KeepB.drew (bn : Nat) (W : World) : KeepB bn W W.drew := ⟨Nat.le_refl _, fun _ _ h _ _ => h⟩
end Pl
end Go.Proofs.YtnjfmlojbaigjaaDoor
