/- The walks of lists.order's forward, find, of price, and of start. -/
import Derived.Test.YtnjfmlojbaigjabOrders
import Derived.Test.YtnjfmlojbaigjabIndex
import Derived.Test.YtnjfmlojbaigjabBools
import Derived.Laws.CopyOwn
import Derived.Deep.RegionLaw
namespace Go.Proofs.Ytnjfmlojbaigjab
open Go.RowKit Go.Sort

/-- What stands at one place is moved to another one, not behind it. -/
def O4.fw (s : O4) : Nat → Nat → O4
  | 1, 0 => ⟨s.b, s.a, s.c, s.d⟩
  | 2, 0 => ⟨s.c, s.a, s.b, s.d⟩
  | 2, 1 => ⟨s.a, s.c, s.b, s.d⟩
  | 3, 0 => ⟨s.d, s.a, s.b, s.c⟩
  | 3, 1 => ⟨s.a, s.d, s.b, s.c⟩
  | 3, 2 => ⟨s.a, s.b, s.d, s.c⟩
  | _, _ => s
theorem Lies.frozen {W : World} {B : Nat} {cs : Array Value} {t : TypeId} (h : Lies W B cs t) {j : Nat} : W.frozen? ⟨B, j, none⟩ = false := by simp [World.frozen?, show W.heap[B]? = _ from h]
theorem Lies.set {W : World} {B j : Nat} {cs : Array Value} {t : TypeId} (h : Lies W B cs t) (v : Value) : Lies (W.setCell ⟨B, j, none⟩ v) B (cs.setIfInBounds j v) t := by
  unfold Lies at *
  simp [World.setCell, Array.getElem?_modify, h]
theorem Lies.other {W : World} {B B' j : Nat} {cs : Array Value} {t : TypeId} (h : Lies W B cs t) (hne : B ≠ B') (v : Value) : Lies (W.setCell ⟨B', j, none⟩ v) B cs t := by
  unfold Lies at *
  simp [World.setCell, Array.getElem?_modify, h, Ne.symm hne]
/-- A copy as one step of a region that draws, from what its run leaves. -/
theorem step_copy_of {P : Program} {ops : Array Oper} {o : Oper} {a : Act} {w : World} {K : Act → World → Prop} {Q : Exit → Act → World → Prop} {E : Prop} {vd vs u : Value} {R : World → Prop} (hgd : o.guard = none) (d s : Operand) (T : TypeId)
    (ho : o.op = .call { callee := .builtin .copy, args := #[d, s], argTypes := #[T, T] }) (hd : a.eval d = vd) (hs : a.eval s = vs)
    (hrun : ∃ w', (Builtin.copy_ #[T, T] o.type #[vd, vs]).run P w = .ok u w' ∧ R w') (h : ∀ w', R w' → K (a.put o.dst u) w') : if Region.wanted o (yielded ops a.tmps) = true then Oper.wp P o a w K Q else E := by
  obtain ⟨w', hr, hR⟩ := hrun
  rw [if_pos (show Region.wanted o (yielded ops a.tmps) = true by simp [Region.wanted, hgd])]
  unfold Oper.wp
  simp [execOp, ho, resolve, invoke, builtin, hd, hs, hr, Result.andThen]
  exact h w' hR

theorem fwd_copy {P : Program} {w : World} {g : Nat} {t : TypeId} {L : List Value} (T ty : TypeId) (hu : P.underlying T = some (.slice 3)) (hsz : (P.info? 3).map (·.size) = some 1) (hg : w.heap[g]? = some (.cells L.toArray t (0, 0))) (h1 : ∀ v ∈ L, v.oneCell' = true)
    (ad : Option Addr) (o d n c1 c2 : Nat) (had : 0 < n → ad = some ⟨g, d, none⟩) (ho : o + n ≤ L.length) (hd : d + n ≤ L.length) :
    ∃ w', (Builtin.copy_ #[T, T] ty #[.slice ad n c1, .slice (some ⟨g, o, none⟩) n c2]).run P w = .ok (goInt n) w' ∧ Hid (w'.heap[g]? = some (.cells (splice L d ((L.drop o).take n)).toArray t (0, 0))) ∧ w.grownBy w' (some g) := by
  have hX : ((L.drop o).take n).length = n := by rw [List.length_take, List.length_drop]; omega
  cases n with
  | zero =>
    have hs0 : splice L d ((L.drop o).take 0) = L := by simp [splice]
    exact ⟨w, run_copy_none (P := P) (w := w) T T ty 3 _ _ 0 _ 0 _ hu hsz rfl, show _ = _ by rw [hg, hs0], World.grownBy.refl _ _⟩
  | succ n =>
    have ead := had (by omega)
    subst ead
    have hsrc : ∀ j v, ((L.drop o).take (n+1))[j]? = some v → w.cell? (Addr.add ⟨g, o, none⟩ j) = some v := by
      intro j v hj
      have hji : j < n + 1 := by have := (List.getElem?_eq_some_iff.1 hj).1; rwa [hX] at this
      rw [List.getElem?_take_of_lt hji, List.getElem?_drop] at hj
      have ea : Addr.add ⟨g, o, none⟩ j = ⟨g, o + j, none⟩ := by unfold Addr.add; cases j <;> rfl
      rw [ea]
      simp [World.cell?, hg]
      simpa using hj
    have hr := run_copy_row (P := P) (w := w) T T ty 3 g d (n + 1) c1 ⟨g, o, none⟩ (n + 1) c2 L.toArray t ((L.drop o).take (n+1)) hu hsz hg (by rw [hX]; exact (Nat.min_self _).symm) hsrc (by rw [hX]; simpa using hd) (fun v hv => h1 v (List.mem_of_mem_drop (List.mem_of_mem_take hv)))
    rw [hX] at hr
    refine ⟨_, hr, ?_, rfl, rfl, rfl, by simp [World.setRow], fun k _ hk => setRow_other w g k _ (by simpa using hk)⟩
    show _ = _
    rw [setRow_heap w g _ _ t _ hg]
    simp [splice]
    omega
theorem int_one (s : O4) : ∀ v ∈ [Value.int .i64 (s.a.val : Nat), .int .i64 (s.b.val : Nat), .int .i64 (s.c.val : Nat), .int .i64 (s.d.val : Nat)], v.oneCell' = true := by
  intro v hv
  simp at hv
  rcases hv with rfl | rfl | rfl | rfl <;> rfl

abbrev fw0 (w : World) (s : O4) : World := (w.alloc (.cells s.cells 46)).alloc (.cells #[.int .i64 0, .int .i64 0, .int .i64 0, .int .i64 0] 46)
theorem fwd_run (w : World) (s : O4) (i j : Nat) (hj : j ≤ i) (hi : i < 4) (ad : Option Addr) (c1 c2 : Nat) (had : j < i → ad = some ⟨w.heap.size, j + 1, none⟩) :
    ∃ w', (Builtin.copy_ #[22, 22] 3 #[.slice ad (i - j) c1, .slice (some ⟨w.heap.size, j, none⟩) (i - j) c2]).run Try.prog (fw0 w s).drew = .ok (goInt ((i - j : Nat) : Int)) w' ∧ Hid (Lies w' w.heap.size (splice [.int .i64 (s.a.val : Nat), .int .i64 (s.b.val : Nat), .int .i64 (s.c.val : Nat), .int .i64 (s.d.val : Nat)] (j + 1) (([.int .i64 (s.a.val : Nat), .int .i64 (s.b.val : Nat), .int .i64 (s.c.val : Nat), .int .i64 (s.d.val : Nat)].drop j).take (i - j))).toArray 46) ∧ (fw0 w s).grownBy w' (some w.heap.size) := by
  have hG : (fw0 w s).drew.heap[w.heap.size]? = some (.cells s.cells 46 (0, 0)) := (Below.heap_alloc (w.alloc (.cells s.cells 46)) _ _ (by simp)).trans (World.alloc_heap_new w _)
  obtain ⟨w', h1, h2, h3⟩ := fwd_copy (P := Try.prog) (w := (fw0 w s).drew) (L := [.int .i64 (s.a.val : Nat), .int .i64 (s.b.val : Nat), .int .i64 (s.c.val : Nat), .int .i64 (s.d.val : Nat)]) 22 3 Try.underlying22 (by kernel_rfl) hG (int_one s) ad j (j + 1) (i - j) c1 c2 (fun h => had (by omega)) (by simp; omega) (by simp; omega)
  exact ⟨w', h1, h2.out, h3.os, h3.tape, h3.output, h3.size, h3.block⟩

theorem zero_block {w w2 : World} {s : O4} (hg : (fw0 w s).grownBy w2 (some w.heap.size)) : Lies w2 (w.heap.size + 1) #[.int .i64 0, .int .i64 0, .int .i64 0, .int .i64 0] 46 := by
  have := Lies.new (w.alloc (.cells s.cells 46)) #[.int .i64 0, .int .i64 0, .int .i64 0, .int .i64 0] 46
  rw [World.size_alloc] at this
  exact this.kept hg (by simp)
theorem fwd_below {w w2 : World} {s : O4} (hg : (fw0 w s).grownBy w2 (some w.heap.size)) (j : Nat) (u v0 v1 v2 v3 : Value) (b : Nat) (hb : w.heap.size ≤ b := by omega) : Below w.heap.size w (((((w2.setCell ⟨w.heap.size, j, none⟩ u).setCell ⟨b, 0, none⟩ v0).setCell ⟨b, 1, none⟩ v1).setCell ⟨b, 2, none⟩ v2).setCell ⟨b, 3, none⟩ v3) := by
  have h0 : Below w.heap.size w (fw0 w s) := ((Below.refl _ w).alloc (Nat.le_refl _) _).alloc (by simp) _
  have h1 : Below w.heap.size w w2 := h0.grown hg h0.size (fun k hk => by cases hk; exact Nat.le_refl _)
  exact ((((h1.setCell (p := ⟨w.heap.size, j, none⟩) (Nat.le_refl _) u).setCell (p := ⟨b, 0, none⟩) hb v0).setCell (p := ⟨b, 1, none⟩) hb v1).setCell (p := ⟨b, 2, none⟩) hb v2).setCell (p := ⟨b, 3, none⟩) hb v3

set_option maxHeartbeats 1000000 in
theorem forward00 (s : O4) (w : World) :
    Calls Try.prog 44 #[s.v, .int .i64 0, .int .i64 0] w fun e w' => e = .returned (s.fw 0 0).v ∧ Below w.heap.size w w' := by
  have hw1 : IntKind.i64.wrap 1 = 1 := by decide
  have hw2 : IntKind.i64.wrap 2 = 2 := by decide
  have hw3 : IntKind.i64.wrap 3 = 3 := by decide
  have hw4 : IntKind.i64.wrap 4 = 4 := by decide
  have HC : Hid _ := fwd_run w s 0 0 (by omega) (by omega) (some ⟨w.heap.size, 1, none⟩) 3 4 (fun h => by first | rfl | omega)
  go_enter Try.func44, Try.ntmps44
  go_wp2_with fail
  go_region_law (refine step_copy_of rfl (.tmp 15) (.tmp 18) 22 rfl (by simp [Act.eval, Act.put]) (by simp [Act.eval, Act.put]) HC.out ?_; rintro w2 ⟨HG2, hgr2⟩)
  all_goals
    have l0 : Lies w2 w.heap.size #[.int .i64 (s.a.val : Nat), .int .i64 (s.b.val : Nat), .int .i64 (s.c.val : Nat), .int .i64 (s.d.val : Nat)] 46 := HG2.out
    have z0 : Lies w2 (w.heap.size + 1) #[.int .i64 0, .int .i64 0, .int .i64 0, .int .i64 0] 46 := zero_block hgr2
    have HL : Hid (Lies w2 w.heap.size #[.int .i64 (s.a.val : Nat), .int .i64 (s.b.val : Nat), .int .i64 (s.c.val : Nat), .int .i64 (s.d.val : Nat)] 46) := l0
    have HZ : Hid (Lies w2 (w.heap.size + 1) #[.int .i64 0, .int .i64 0, .int .i64 0, .int .i64 0] 46) := z0
    have c0 := l0.cell (j := 0) rfl
    have c1 := l0.cell (j := 1) rfl
    have c2 := l0.cell (j := 2) rfl
    have c3 := l0.cell (j := 3) rfl
    have f0 := l0.frozen (j := 0)
    have d0 := z0.cell (j := 0) rfl
    have d1 := z0.cell (j := 1) rfl
    have d2 := z0.cell (j := 2) rfl
    have d3 := z0.cell (j := 3) rfl
    have g0 := z0.frozen (j := 0)
    have g1 := z0.frozen (j := 1)
    have g2 := z0.frozen (j := 2)
    have g3 := z0.frozen (j := 3)
    clear l0 z0
    go_wp2
  all_goals exact bodyPost_ret (v := (s.fw 0 0).v) (by simp [results, Try.results44, go_sem, d0, d1, d2, d3, Result.andThen, O4.fw]) rfl ⟨rfl, fwd_below hgr2 _ _ _ _ _ _ _⟩
set_option maxHeartbeats 1000000 in
theorem forward10 (s : O4) (w : World) :
    Calls Try.prog 44 #[s.v, .int .i64 1, .int .i64 0] w fun e w' => e = .returned (s.fw 1 0).v ∧ Below w.heap.size w w' := by
  have hw1 : IntKind.i64.wrap 1 = 1 := by decide
  have hw2 : IntKind.i64.wrap 2 = 2 := by decide
  have hw3 : IntKind.i64.wrap 3 = 3 := by decide
  have hw4 : IntKind.i64.wrap 4 = 4 := by decide
  have HC : Hid _ := fwd_run w s 1 0 (by omega) (by omega) (some ⟨w.heap.size, 1, none⟩) 3 4 (fun h => by first | rfl | omega)
  go_enter Try.func44, Try.ntmps44
  go_wp2_with fail
  go_region_law (refine step_copy_of rfl (.tmp 15) (.tmp 18) 22 rfl (by simp [Act.eval, Act.put]) (by simp [Act.eval, Act.put]) HC.out ?_; rintro w2 ⟨HG2, hgr2⟩)
  all_goals
    have l0 : Lies w2 w.heap.size #[.int .i64 (s.a.val : Nat), .int .i64 (s.a.val : Nat), .int .i64 (s.c.val : Nat), .int .i64 (s.d.val : Nat)] 46 := HG2.out
    have z0 : Lies w2 (w.heap.size + 1) #[.int .i64 0, .int .i64 0, .int .i64 0, .int .i64 0] 46 := zero_block hgr2
    have HL : Hid (Lies w2 w.heap.size #[.int .i64 (s.a.val : Nat), .int .i64 (s.a.val : Nat), .int .i64 (s.c.val : Nat), .int .i64 (s.d.val : Nat)] 46) := l0
    have HZ : Hid (Lies w2 (w.heap.size + 1) #[.int .i64 0, .int .i64 0, .int .i64 0, .int .i64 0] 46) := z0
    have c0 := l0.cell (j := 0) rfl
    have c1 := l0.cell (j := 1) rfl
    have c2 := l0.cell (j := 2) rfl
    have c3 := l0.cell (j := 3) rfl
    have f0 := l0.frozen (j := 0)
    have d0 := z0.cell (j := 0) rfl
    have d1 := z0.cell (j := 1) rfl
    have d2 := z0.cell (j := 2) rfl
    have d3 := z0.cell (j := 3) rfl
    have g0 := z0.frozen (j := 0)
    have g1 := z0.frozen (j := 1)
    have g2 := z0.frozen (j := 2)
    have g3 := z0.frozen (j := 3)
    clear l0 z0
    go_wp2
  all_goals exact bodyPost_ret (v := (s.fw 1 0).v) (by simp [results, Try.results44, go_sem, d0, d1, d2, d3, Result.andThen, O4.fw]) rfl ⟨rfl, fwd_below hgr2 _ _ _ _ _ _ _⟩
set_option maxHeartbeats 1000000 in
theorem forward11 (s : O4) (w : World) :
    Calls Try.prog 44 #[s.v, .int .i64 1, .int .i64 1] w fun e w' => e = .returned (s.fw 1 1).v ∧ Below w.heap.size w w' := by
  have hw1 : IntKind.i64.wrap 1 = 1 := by decide
  have hw2 : IntKind.i64.wrap 2 = 2 := by decide
  have hw3 : IntKind.i64.wrap 3 = 3 := by decide
  have hw4 : IntKind.i64.wrap 4 = 4 := by decide
  have HC : Hid _ := fwd_run w s 1 1 (by omega) (by omega) (some ⟨w.heap.size, 2, none⟩) 2 3 (fun h => by first | rfl | omega)
  go_enter Try.func44, Try.ntmps44
  go_wp2_with fail
  go_region_law (refine step_copy_of rfl (.tmp 15) (.tmp 18) 22 rfl (by simp [Act.eval, Act.put]) (by simp [Act.eval, Act.put]) HC.out ?_; rintro w2 ⟨HG2, hgr2⟩)
  all_goals
    have l0 : Lies w2 w.heap.size #[.int .i64 (s.a.val : Nat), .int .i64 (s.b.val : Nat), .int .i64 (s.c.val : Nat), .int .i64 (s.d.val : Nat)] 46 := HG2.out
    have z0 : Lies w2 (w.heap.size + 1) #[.int .i64 0, .int .i64 0, .int .i64 0, .int .i64 0] 46 := zero_block hgr2
    have HL : Hid (Lies w2 w.heap.size #[.int .i64 (s.a.val : Nat), .int .i64 (s.b.val : Nat), .int .i64 (s.c.val : Nat), .int .i64 (s.d.val : Nat)] 46) := l0
    have HZ : Hid (Lies w2 (w.heap.size + 1) #[.int .i64 0, .int .i64 0, .int .i64 0, .int .i64 0] 46) := z0
    have c0 := l0.cell (j := 0) rfl
    have c1 := l0.cell (j := 1) rfl
    have c2 := l0.cell (j := 2) rfl
    have c3 := l0.cell (j := 3) rfl
    have f0 := l0.frozen (j := 1)
    have d0 := z0.cell (j := 0) rfl
    have d1 := z0.cell (j := 1) rfl
    have d2 := z0.cell (j := 2) rfl
    have d3 := z0.cell (j := 3) rfl
    have g0 := z0.frozen (j := 0)
    have g1 := z0.frozen (j := 1)
    have g2 := z0.frozen (j := 2)
    have g3 := z0.frozen (j := 3)
    clear l0 z0
    go_wp2
  all_goals exact bodyPost_ret (v := (s.fw 1 1).v) (by simp [results, Try.results44, go_sem, d0, d1, d2, d3, Result.andThen, O4.fw]) rfl ⟨rfl, fwd_below hgr2 _ _ _ _ _ _ _⟩
set_option maxHeartbeats 1000000 in
theorem forward20 (s : O4) (w : World) :
    Calls Try.prog 44 #[s.v, .int .i64 2, .int .i64 0] w fun e w' => e = .returned (s.fw 2 0).v ∧ Below w.heap.size w w' := by
  have hw1 : IntKind.i64.wrap 1 = 1 := by decide
  have hw2 : IntKind.i64.wrap 2 = 2 := by decide
  have hw3 : IntKind.i64.wrap 3 = 3 := by decide
  have hw4 : IntKind.i64.wrap 4 = 4 := by decide
  have HC : Hid _ := fwd_run w s 2 0 (by omega) (by omega) (some ⟨w.heap.size, 1, none⟩) 3 4 (fun h => by first | rfl | omega)
  go_enter Try.func44, Try.ntmps44
  go_wp2_with fail
  go_region_law (refine step_copy_of rfl (.tmp 15) (.tmp 18) 22 rfl (by simp [Act.eval, Act.put]) (by simp [Act.eval, Act.put]) HC.out ?_; rintro w2 ⟨HG2, hgr2⟩)
  all_goals
    have l0 : Lies w2 w.heap.size #[.int .i64 (s.a.val : Nat), .int .i64 (s.a.val : Nat), .int .i64 (s.b.val : Nat), .int .i64 (s.d.val : Nat)] 46 := HG2.out
    have z0 : Lies w2 (w.heap.size + 1) #[.int .i64 0, .int .i64 0, .int .i64 0, .int .i64 0] 46 := zero_block hgr2
    have HL : Hid (Lies w2 w.heap.size #[.int .i64 (s.a.val : Nat), .int .i64 (s.a.val : Nat), .int .i64 (s.b.val : Nat), .int .i64 (s.d.val : Nat)] 46) := l0
    have HZ : Hid (Lies w2 (w.heap.size + 1) #[.int .i64 0, .int .i64 0, .int .i64 0, .int .i64 0] 46) := z0
    have c0 := l0.cell (j := 0) rfl
    have c1 := l0.cell (j := 1) rfl
    have c2 := l0.cell (j := 2) rfl
    have c3 := l0.cell (j := 3) rfl
    have f0 := l0.frozen (j := 0)
    have d0 := z0.cell (j := 0) rfl
    have d1 := z0.cell (j := 1) rfl
    have d2 := z0.cell (j := 2) rfl
    have d3 := z0.cell (j := 3) rfl
    have g0 := z0.frozen (j := 0)
    have g1 := z0.frozen (j := 1)
    have g2 := z0.frozen (j := 2)
    have g3 := z0.frozen (j := 3)
    clear l0 z0
    go_wp2
  all_goals exact bodyPost_ret (v := (s.fw 2 0).v) (by simp [results, Try.results44, go_sem, d0, d1, d2, d3, Result.andThen, O4.fw]) rfl ⟨rfl, fwd_below hgr2 _ _ _ _ _ _ _⟩
set_option maxHeartbeats 1000000 in
theorem forward21 (s : O4) (w : World) :
    Calls Try.prog 44 #[s.v, .int .i64 2, .int .i64 1] w fun e w' => e = .returned (s.fw 2 1).v ∧ Below w.heap.size w w' := by
  have hw1 : IntKind.i64.wrap 1 = 1 := by decide
  have hw2 : IntKind.i64.wrap 2 = 2 := by decide
  have hw3 : IntKind.i64.wrap 3 = 3 := by decide
  have hw4 : IntKind.i64.wrap 4 = 4 := by decide
  have HC : Hid _ := fwd_run w s 2 1 (by omega) (by omega) (some ⟨w.heap.size, 2, none⟩) 2 3 (fun h => by first | rfl | omega)
  go_enter Try.func44, Try.ntmps44
  go_wp2_with fail
  go_region_law (refine step_copy_of rfl (.tmp 15) (.tmp 18) 22 rfl (by simp [Act.eval, Act.put]) (by simp [Act.eval, Act.put]) HC.out ?_; rintro w2 ⟨HG2, hgr2⟩)
  all_goals
    have l0 : Lies w2 w.heap.size #[.int .i64 (s.a.val : Nat), .int .i64 (s.b.val : Nat), .int .i64 (s.b.val : Nat), .int .i64 (s.d.val : Nat)] 46 := HG2.out
    have z0 : Lies w2 (w.heap.size + 1) #[.int .i64 0, .int .i64 0, .int .i64 0, .int .i64 0] 46 := zero_block hgr2
    have HL : Hid (Lies w2 w.heap.size #[.int .i64 (s.a.val : Nat), .int .i64 (s.b.val : Nat), .int .i64 (s.b.val : Nat), .int .i64 (s.d.val : Nat)] 46) := l0
    have HZ : Hid (Lies w2 (w.heap.size + 1) #[.int .i64 0, .int .i64 0, .int .i64 0, .int .i64 0] 46) := z0
    have c0 := l0.cell (j := 0) rfl
    have c1 := l0.cell (j := 1) rfl
    have c2 := l0.cell (j := 2) rfl
    have c3 := l0.cell (j := 3) rfl
    have f0 := l0.frozen (j := 1)
    have d0 := z0.cell (j := 0) rfl
    have d1 := z0.cell (j := 1) rfl
    have d2 := z0.cell (j := 2) rfl
    have d3 := z0.cell (j := 3) rfl
    have g0 := z0.frozen (j := 0)
    have g1 := z0.frozen (j := 1)
    have g2 := z0.frozen (j := 2)
    have g3 := z0.frozen (j := 3)
    clear l0 z0
    go_wp2
  all_goals exact bodyPost_ret (v := (s.fw 2 1).v) (by simp [results, Try.results44, go_sem, d0, d1, d2, d3, Result.andThen, O4.fw]) rfl ⟨rfl, fwd_below hgr2 _ _ _ _ _ _ _⟩
set_option maxHeartbeats 1000000 in
theorem forward22 (s : O4) (w : World) :
    Calls Try.prog 44 #[s.v, .int .i64 2, .int .i64 2] w fun e w' => e = .returned (s.fw 2 2).v ∧ Below w.heap.size w w' := by
  have hw1 : IntKind.i64.wrap 1 = 1 := by decide
  have hw2 : IntKind.i64.wrap 2 = 2 := by decide
  have hw3 : IntKind.i64.wrap 3 = 3 := by decide
  have hw4 : IntKind.i64.wrap 4 = 4 := by decide
  have HC : Hid _ := fwd_run w s 2 2 (by omega) (by omega) (some ⟨w.heap.size, 3, none⟩) 1 2 (fun h => by first | rfl | omega)
  go_enter Try.func44, Try.ntmps44
  go_wp2_with fail
  go_region_law (refine step_copy_of rfl (.tmp 15) (.tmp 18) 22 rfl (by simp [Act.eval, Act.put]) (by simp [Act.eval, Act.put]) HC.out ?_; rintro w2 ⟨HG2, hgr2⟩)
  all_goals
    have l0 : Lies w2 w.heap.size #[.int .i64 (s.a.val : Nat), .int .i64 (s.b.val : Nat), .int .i64 (s.c.val : Nat), .int .i64 (s.d.val : Nat)] 46 := HG2.out
    have z0 : Lies w2 (w.heap.size + 1) #[.int .i64 0, .int .i64 0, .int .i64 0, .int .i64 0] 46 := zero_block hgr2
    have HL : Hid (Lies w2 w.heap.size #[.int .i64 (s.a.val : Nat), .int .i64 (s.b.val : Nat), .int .i64 (s.c.val : Nat), .int .i64 (s.d.val : Nat)] 46) := l0
    have HZ : Hid (Lies w2 (w.heap.size + 1) #[.int .i64 0, .int .i64 0, .int .i64 0, .int .i64 0] 46) := z0
    have c0 := l0.cell (j := 0) rfl
    have c1 := l0.cell (j := 1) rfl
    have c2 := l0.cell (j := 2) rfl
    have c3 := l0.cell (j := 3) rfl
    have f0 := l0.frozen (j := 2)
    have d0 := z0.cell (j := 0) rfl
    have d1 := z0.cell (j := 1) rfl
    have d2 := z0.cell (j := 2) rfl
    have d3 := z0.cell (j := 3) rfl
    have g0 := z0.frozen (j := 0)
    have g1 := z0.frozen (j := 1)
    have g2 := z0.frozen (j := 2)
    have g3 := z0.frozen (j := 3)
    clear l0 z0
    go_wp2
  all_goals exact bodyPost_ret (v := (s.fw 2 2).v) (by simp [results, Try.results44, go_sem, d0, d1, d2, d3, Result.andThen, O4.fw]) rfl ⟨rfl, fwd_below hgr2 _ _ _ _ _ _ _⟩
set_option maxHeartbeats 1000000 in
theorem forward30 (s : O4) (w : World) :
    Calls Try.prog 44 #[s.v, .int .i64 3, .int .i64 0] w fun e w' => e = .returned (s.fw 3 0).v ∧ Below w.heap.size w w' := by
  have hw1 : IntKind.i64.wrap 1 = 1 := by decide
  have hw2 : IntKind.i64.wrap 2 = 2 := by decide
  have hw3 : IntKind.i64.wrap 3 = 3 := by decide
  have hw4 : IntKind.i64.wrap 4 = 4 := by decide
  have HC : Hid _ := fwd_run w s 3 0 (by omega) (by omega) (some ⟨w.heap.size, 1, none⟩) 3 4 (fun h => by first | rfl | omega)
  go_enter Try.func44, Try.ntmps44
  go_wp2_with fail
  go_region_law (refine step_copy_of rfl (.tmp 15) (.tmp 18) 22 rfl (by simp [Act.eval, Act.put]) (by simp [Act.eval, Act.put]) HC.out ?_; rintro w2 ⟨HG2, hgr2⟩)
  all_goals
    have l0 : Lies w2 w.heap.size #[.int .i64 (s.a.val : Nat), .int .i64 (s.a.val : Nat), .int .i64 (s.b.val : Nat), .int .i64 (s.c.val : Nat)] 46 := HG2.out
    have z0 : Lies w2 (w.heap.size + 1) #[.int .i64 0, .int .i64 0, .int .i64 0, .int .i64 0] 46 := zero_block hgr2
    have HL : Hid (Lies w2 w.heap.size #[.int .i64 (s.a.val : Nat), .int .i64 (s.a.val : Nat), .int .i64 (s.b.val : Nat), .int .i64 (s.c.val : Nat)] 46) := l0
    have HZ : Hid (Lies w2 (w.heap.size + 1) #[.int .i64 0, .int .i64 0, .int .i64 0, .int .i64 0] 46) := z0
    have c0 := l0.cell (j := 0) rfl
    have c1 := l0.cell (j := 1) rfl
    have c2 := l0.cell (j := 2) rfl
    have c3 := l0.cell (j := 3) rfl
    have f0 := l0.frozen (j := 0)
    have d0 := z0.cell (j := 0) rfl
    have d1 := z0.cell (j := 1) rfl
    have d2 := z0.cell (j := 2) rfl
    have d3 := z0.cell (j := 3) rfl
    have g0 := z0.frozen (j := 0)
    have g1 := z0.frozen (j := 1)
    have g2 := z0.frozen (j := 2)
    have g3 := z0.frozen (j := 3)
    clear l0 z0
    go_wp2
  all_goals exact bodyPost_ret (v := (s.fw 3 0).v) (by simp [results, Try.results44, go_sem, d0, d1, d2, d3, Result.andThen, O4.fw]) rfl ⟨rfl, fwd_below hgr2 _ _ _ _ _ _ _⟩
set_option maxHeartbeats 1000000 in
theorem forward31 (s : O4) (w : World) :
    Calls Try.prog 44 #[s.v, .int .i64 3, .int .i64 1] w fun e w' => e = .returned (s.fw 3 1).v ∧ Below w.heap.size w w' := by
  have hw1 : IntKind.i64.wrap 1 = 1 := by decide
  have hw2 : IntKind.i64.wrap 2 = 2 := by decide
  have hw3 : IntKind.i64.wrap 3 = 3 := by decide
  have hw4 : IntKind.i64.wrap 4 = 4 := by decide
  have HC : Hid _ := fwd_run w s 3 1 (by omega) (by omega) (some ⟨w.heap.size, 2, none⟩) 2 3 (fun h => by first | rfl | omega)
  go_enter Try.func44, Try.ntmps44
  go_wp2_with fail
  go_region_law (refine step_copy_of rfl (.tmp 15) (.tmp 18) 22 rfl (by simp [Act.eval, Act.put]) (by simp [Act.eval, Act.put]) HC.out ?_; rintro w2 ⟨HG2, hgr2⟩)
  all_goals
    have l0 : Lies w2 w.heap.size #[.int .i64 (s.a.val : Nat), .int .i64 (s.b.val : Nat), .int .i64 (s.b.val : Nat), .int .i64 (s.c.val : Nat)] 46 := HG2.out
    have z0 : Lies w2 (w.heap.size + 1) #[.int .i64 0, .int .i64 0, .int .i64 0, .int .i64 0] 46 := zero_block hgr2
    have HL : Hid (Lies w2 w.heap.size #[.int .i64 (s.a.val : Nat), .int .i64 (s.b.val : Nat), .int .i64 (s.b.val : Nat), .int .i64 (s.c.val : Nat)] 46) := l0
    have HZ : Hid (Lies w2 (w.heap.size + 1) #[.int .i64 0, .int .i64 0, .int .i64 0, .int .i64 0] 46) := z0
    have c0 := l0.cell (j := 0) rfl
    have c1 := l0.cell (j := 1) rfl
    have c2 := l0.cell (j := 2) rfl
    have c3 := l0.cell (j := 3) rfl
    have f0 := l0.frozen (j := 1)
    have d0 := z0.cell (j := 0) rfl
    have d1 := z0.cell (j := 1) rfl
    have d2 := z0.cell (j := 2) rfl
    have d3 := z0.cell (j := 3) rfl
    have g0 := z0.frozen (j := 0)
    have g1 := z0.frozen (j := 1)
    have g2 := z0.frozen (j := 2)
    have g3 := z0.frozen (j := 3)
    clear l0 z0
    go_wp2
  all_goals exact bodyPost_ret (v := (s.fw 3 1).v) (by simp [results, Try.results44, go_sem, d0, d1, d2, d3, Result.andThen, O4.fw]) rfl ⟨rfl, fwd_below hgr2 _ _ _ _ _ _ _⟩
set_option maxHeartbeats 1000000 in
theorem forward32 (s : O4) (w : World) :
    Calls Try.prog 44 #[s.v, .int .i64 3, .int .i64 2] w fun e w' => e = .returned (s.fw 3 2).v ∧ Below w.heap.size w w' := by
  have hw1 : IntKind.i64.wrap 1 = 1 := by decide
  have hw2 : IntKind.i64.wrap 2 = 2 := by decide
  have hw3 : IntKind.i64.wrap 3 = 3 := by decide
  have hw4 : IntKind.i64.wrap 4 = 4 := by decide
  have HC : Hid _ := fwd_run w s 3 2 (by omega) (by omega) (some ⟨w.heap.size, 3, none⟩) 1 2 (fun h => by first | rfl | omega)
  go_enter Try.func44, Try.ntmps44
  go_wp2_with fail
  go_region_law (refine step_copy_of rfl (.tmp 15) (.tmp 18) 22 rfl (by simp [Act.eval, Act.put]) (by simp [Act.eval, Act.put]) HC.out ?_; rintro w2 ⟨HG2, hgr2⟩)
  all_goals
    have l0 : Lies w2 w.heap.size #[.int .i64 (s.a.val : Nat), .int .i64 (s.b.val : Nat), .int .i64 (s.c.val : Nat), .int .i64 (s.c.val : Nat)] 46 := HG2.out
    have z0 : Lies w2 (w.heap.size + 1) #[.int .i64 0, .int .i64 0, .int .i64 0, .int .i64 0] 46 := zero_block hgr2
    have HL : Hid (Lies w2 w.heap.size #[.int .i64 (s.a.val : Nat), .int .i64 (s.b.val : Nat), .int .i64 (s.c.val : Nat), .int .i64 (s.c.val : Nat)] 46) := l0
    have HZ : Hid (Lies w2 (w.heap.size + 1) #[.int .i64 0, .int .i64 0, .int .i64 0, .int .i64 0] 46) := z0
    have c0 := l0.cell (j := 0) rfl
    have c1 := l0.cell (j := 1) rfl
    have c2 := l0.cell (j := 2) rfl
    have c3 := l0.cell (j := 3) rfl
    have f0 := l0.frozen (j := 2)
    have d0 := z0.cell (j := 0) rfl
    have d1 := z0.cell (j := 1) rfl
    have d2 := z0.cell (j := 2) rfl
    have d3 := z0.cell (j := 3) rfl
    have g0 := z0.frozen (j := 0)
    have g1 := z0.frozen (j := 1)
    have g2 := z0.frozen (j := 2)
    have g3 := z0.frozen (j := 3)
    clear l0 z0
    go_wp2
  all_goals exact bodyPost_ret (v := (s.fw 3 2).v) (by simp [results, Try.results44, go_sem, d0, d1, d2, d3, Result.andThen, O4.fw]) rfl ⟨rfl, fwd_below hgr2 _ _ _ _ _ _ _⟩
set_option maxHeartbeats 1000000 in
theorem forward33 (s : O4) (w : World) :
    Calls Try.prog 44 #[s.v, .int .i64 3, .int .i64 3] w fun e w' => e = .returned (s.fw 3 3).v ∧ Below w.heap.size w w' := by
  have hw1 : IntKind.i64.wrap 1 = 1 := by decide
  have hw2 : IntKind.i64.wrap 2 = 2 := by decide
  have hw3 : IntKind.i64.wrap 3 = 3 := by decide
  have hw4 : IntKind.i64.wrap 4 = 4 := by decide
  have HC : Hid _ := fwd_run w s 3 3 (by omega) (by omega) (some ⟨w.heap.size, 0, none⟩) 0 1 (fun h => by first | rfl | omega)
  go_enter Try.func44, Try.ntmps44
  go_wp2_with fail
  go_region_law (refine step_copy_of rfl (.tmp 15) (.tmp 18) 22 rfl (by simp [Act.eval, Act.put]) (by simp [Act.eval, Act.put]) HC.out ?_; rintro w2 ⟨HG2, hgr2⟩)
  all_goals
    have l0 : Lies w2 w.heap.size #[.int .i64 (s.a.val : Nat), .int .i64 (s.b.val : Nat), .int .i64 (s.c.val : Nat), .int .i64 (s.d.val : Nat)] 46 := HG2.out
    have z0 : Lies w2 (w.heap.size + 1) #[.int .i64 0, .int .i64 0, .int .i64 0, .int .i64 0] 46 := zero_block hgr2
    have HL : Hid (Lies w2 w.heap.size #[.int .i64 (s.a.val : Nat), .int .i64 (s.b.val : Nat), .int .i64 (s.c.val : Nat), .int .i64 (s.d.val : Nat)] 46) := l0
    have HZ : Hid (Lies w2 (w.heap.size + 1) #[.int .i64 0, .int .i64 0, .int .i64 0, .int .i64 0] 46) := z0
    have c0 := l0.cell (j := 0) rfl
    have c1 := l0.cell (j := 1) rfl
    have c2 := l0.cell (j := 2) rfl
    have c3 := l0.cell (j := 3) rfl
    have f0 := l0.frozen (j := 3)
    have d0 := z0.cell (j := 0) rfl
    have d1 := z0.cell (j := 1) rfl
    have d2 := z0.cell (j := 2) rfl
    have d3 := z0.cell (j := 3) rfl
    have g0 := z0.frozen (j := 0)
    have g1 := z0.frozen (j := 1)
    have g2 := z0.frozen (j := 2)
    have g3 := z0.frozen (j := 3)
    clear l0 z0
    go_wp2
  all_goals exact bodyPost_ret (v := (s.fw 3 3).v) (by simp [results, Try.results44, go_sem, d0, d1, d2, d3, Result.andThen, O4.fw]) rfl ⟨rfl, fwd_below hgr2 _ _ _ _ _ _ _⟩
end Go.Proofs.Ytnjfmlojbaigjab
