/- The walk of acks.behind$1: where one comes from a state when a message came. -/
import Derived.Test.YtnjfmlojbaigjabWBeh
import Derived.Test.YtnjfmlojbaigjabQuietLastIn
import Derived.Lib.SliceRun
namespace Go.Proofs.Ytnjfmlojbaigjab
namespace Wt
set_option maxRecDepth 100000
open Go.RowKit Go.Maps Go.Shelf
attribute [local go_sem] Oper.semAt_some

/-- What the iterator has taken in. -/
structure WBoxes (W : World) (Bf Bt Ba Bp : Nat) (s : W20) (n k : Nat) (pr : Fin 32768) (g : Fin 1001) : Prop where
  from_ : Lies W Bf s.cells 63
  times : ∃ b off cap x, W.cell? ⟨Bt, 0, none⟩ = some (.slice (some ⟨b, off, none⟩) n cap) ∧ (k + 1 < n → 0 ≤ x ∧ x ≤ 1000 ∧ W.cell? ⟨b, off + k, none⟩ = some (.int .i64 x) ∧ W.cell? ⟨b, off + (k + 1), none⟩ = some (.int .i64 (x + (g.val : Nat))))
  at_ : W.cell? ⟨Ba, 0, none⟩ = some (.int .i64 (k : Nat))
  price : W.cell? ⟨Bp, 0, none⟩ = some (.int .i64 (pr.val : Nat))
theorem KeepB.lies {bn : Nat} {W W' : World} (h : KeepB bn W W') {B : Nat} {cs : Array Value} {t : TypeId} (hl : Lies W B cs t) (hn : B ≠ bn) : Lies W' B cs t := h.same B _ hl (.inl rfl) hn
theorem none_cells : W20.none.cells = #[.bool false, .bool false, .bool false, .bool false, .bool false, .bool false, .bool false, .bool false, .bool false, .bool false, .bool false, .bool false, .bool false, .bool false, .bool false, .bool false, .bool false, .bool false, .bool false, .bool false] := rfl

theorem run_load_waits {o : Oper} {a : Act} {w : World} {x : Operand} {g : Nat} {s : W20} (ho : o.op = .load 63 x) (hx : a.eval x = .pointer (some ⟨g, 0, none⟩)) (hg : Lies w g s.cells 63) :
    (execOp a.eval o).run Try.prog w = .ok (.value (.agg s.cells)) w := by
  simp only [execOp, ho, hx, Instr.loadAt, Instr.sureAddr, Sem.run_bind, Sem.run_pure, Result.andThen_ok, run_loadVar_row w g 63 63 s.cells (0, 0) _ hg Try.underlying63 rfl (waits_size s)]

set_option maxRecDepth 100000 in
set_option maxHeartbeats 4000000 in
theorem wbeh_any (nF : Nat) (hn : 1 ≤ nF) (l Bf Bt Ba Bp bn : Nat) (s : W20) (n k : Nat) (hk : k < n) (hn20 : n ≤ 20) (pr : Fin 32768) (g : Fin 1001) (J Jx : List Ent → World → Prop)
    (hY : ∀ pre x W, J pre W → pre.length < 3 → YieldAt Fence.wide (nF - 1) Try.prog l (encE x) W fun e W' =>
      (e = .returned (.bool true) ∧ J (pre ++ [x]) W' ∧ KeepB bn W W') ∨ (e = .returned (.bool false) ∧ Jx (pre ++ [x]) W'))
    (W : World) (hJ : AbidesFrom W.heap.size J) (hbn : bn < Bf ∧ bn < Bt ∧ bn < Ba ∧ bn < Bp) (hB : WBoxes W Bf Bt Ba Bp s n k pr g) (hbt : ∀ b off cap, W.cell? ⟨Bt, 0, none⟩ = some (.slice (some ⟨b, off, none⟩) n cap) → b ≠ bn) (h0 : J [] W) :
    CallsIn Fence.wide nF Try.prog 55 #[.func (.yield l) #[] #[], .pointer (some ⟨Bp, 0, none⟩), .pointer (some ⟨Ba, 0, none⟩), .pointer (some ⟨Bt, 0, none⟩), .pointer (some ⟨Bf, 0, none⟩)] W fun e' W' => (∃ v, e' = .returned v) ∧
      ((∃ ys, ys = waitsL n k pr g s ∧ J ys W') ∨ (∃ pre, True ∧ Jx pre W')) := by
  have hro : Fence.wide.round = none := rfl
  obtain ⟨lF, ⟨b, off, cap, x, cT, cX⟩, cA, cP⟩ := hB
  have hb := hbt _ _ _ cT
  obtain ⟨fn, tmps, assign, body, hy, hR⟩ := hY [] (W20.none, pr) W h0 (by simp)
  dsimp only [encE, W20.v] at hy
  rw [none_cells] at hy
  have hpr := pr.isLt
  have hw1 : IntKind.i64.wrap ((k : Int) + 1) = ((k + 1 : Nat) : Int) := by rw [IntKind.wrap_i64]; omega
  refine callsIn_of_wp Try.func55 rfl trivial ?_ hro
  simp only [Try.ntmps55, List.size_toArray, List.length_cons, List.length_nil, Nat.reduceAdd, Nat.reduceSub, Array.replicate_succ, Array.replicate_zero, List.push_toArray, List.append_toArray, List.nil_append, List.cons_append]
  gi_wp2
  refine hR.mono ?_
  clear hy hR
  rintro e' W3 (⟨rfl, hJ4, hk3⟩ | ⟨rfl, hJx3⟩)
  · have dT := hk3.cell cT (by omega)
    have dA := hk3.cell cA (by omega)
    have dP := hk3.cell cP (by omega)
    have dF := hk3.lies lF (by omega)
    have hJ5 : Hid (J [(W20.none, pr)] W3) := hJ4
    have HSZ : Hid (W.heap.size ≤ W3.heap.size) := hk3.size
    clear cT cA cP lF hJ4
    by_cases hlast : k + 1 = n
    · have HL : Hid (waitsL n k pr g s = [(W20.none, pr)]) := by unfold Hid waitsL; rw [if_pos hlast]
      have hbe : (((k + 1 : Nat) : Int) == (n : Int)) = true := by rw [hlast]; simp
      clear hlast
      gi_wp2
      refine bodyPost_ret (results_none rfl _ _ _) rfl ?_
      exact ⟨⟨_, rfl⟩, .inl ⟨_, rfl, by rw [HL.out]; exact hJ5.out⟩⟩
    · obtain ⟨hx0, hx1, c0, c1⟩ := cX (by omega)
      have d0 := hk3.cell c0 hb
      have d1 := hk3.cell c1 hb
      have HL : Hid (waitsL n k pr g s = [(W20.none, pr)] ++ [(s.set k true, gapCost (s.set k true) g)]) := by unfold Hid waitsL; rw [if_neg hlast]; rfl
      have hbe : (((k + 1 : Nat) : Int) == (n : Int)) = false := by rw [beq_eq_false_iff_ne]; omega
      have hkn : k + 1 < n := by omega
      have hk20 : k < 20 := by omega
      obtain ⟨cm, hcm⟩ : ∃ cm, s.set k true = cm := ⟨_, rfl⟩
      rw [hcm] at HL
      have hset : s.cells.setIfInBounds k (.bool true) = cm.cells := by rw [← hcm]; exact s.cells_set k hk20 true
      have hcel : (W3.alloc (.cells s.cells 63)).cell? ⟨W3.heap.size, k, none⟩ = some (.bool (s.at k)) := (World.cell?_alloc_new W3 _ _ k).trans (s.cells_at k hk20)
      have hst := store_waits s
      have eA : (W3.alloc (.cells s.cells 63)).cell? ⟨Ba, 0, none⟩ = some (.int .i64 (k : Nat)) := Lib.cell?_alloc_some _ dA
      clear hlast hcm c0 c1 cX hk3
      gi_wp2_with (first | (refine wpListIn_load_waits rfl _ rfl _ rfl s dF ?_) | gi_in)
      have hsz3 : W.heap.size ≤ W3.heap.size := HSZ.out
      obtain ⟨C, hC⟩ : ∃ C : World → Prop, C = fun w => Lies w W3.heap.size cm.cells 63 ∧ w.cell? ⟨Bt, 0, none⟩ = some (.slice (some ⟨b, off, none⟩) n cap) ∧ w.cell? ⟨Ba, 0, none⟩ = some (.int .i64 (k : Nat)) ∧ w.cell? ⟨b, off + k, none⟩ = some (.int .i64 x) ∧ w.cell? ⟨b, off + (k + 1), none⟩ = some (.int .i64 (x + (g.val : Nat))) ∧ KeepB bn W3 w ∧ J [(W20.none, pr)] w := ⟨_, rfl⟩
      have hCg : Hid (∀ w o, C w → C (w.alloc o)) := fun w o h => by
        rw [hC] at h ⊢
        obtain ⟨h1, h2, h3, h4, h5, h6, h7⟩ := h
        exact ⟨h1.kept (World.grownBy_alloc w o none) (by simp), Lib.cell?_alloc_some _ h2, Lib.cell?_alloc_some _ h3, Lib.cell?_alloc_some _ h4, Lib.cell?_alloc_some _ h5, h6.trans (KeepB.alloc bn w o), hJ _ w _ none h7 (World.grownBy_alloc _ _ none) (fun r e => by cases e)⟩
      have hC0 : Hid (C (W3.alloc (.cells cm.cells 63)).drew) := by
        rw [hC]
        exact ⟨Lies.new W3 cm.cells _, Lib.cell?_alloc_some _ dT, Lib.cell?_alloc_some _ dA, Lib.cell?_alloc_some _ d0, Lib.cell?_alloc_some _ d1, (KeepB.alloc bn W3 _).trans (KeepB.drew bn _), hJ _ _ _ none (hJ _ W3 _ none hJ5.out (World.grownBy_alloc _ _ none) (fun r e => by cases e)) ⟨rfl, rfl, rfl, Nat.le_refl _, fun _ _ _ => rfl⟩ (fun r e => by cases e)⟩
      have hMA : ∀ w r, CallsIn Fence.wide r Try.prog 56 #[cm.v] w fun e w' => e = .returned (.int .i64 (cm.to 20 : Nat)) ∧ w' = w.alloc (.cells cm.cells 63) := fun w r => callsIn_wide.2 (wmany_any cm w)
      have qL : ∀ w, C w → Lies w W3.heap.size cm.cells 63 := fun w h => by rw [hC] at h; exact h.1
      have qT : ∀ w, C w → w.cell? ⟨Bt, 0, none⟩ = some (.slice (some ⟨b, off, none⟩) n cap) := fun w h => by rw [hC] at h; exact h.2.1
      have qA : ∀ w, C w → w.cell? ⟨Ba, 0, none⟩ = some (.int .i64 (k : Nat)) := fun w h => by rw [hC] at h; exact h.2.2.1
      have q0 : ∀ w, C w → w.cell? ⟨b, off + k, none⟩ = some (.int .i64 x) := fun w h => by rw [hC] at h; exact h.2.2.2.1
      have q1 : ∀ w, C w → w.cell? ⟨b, off + (k + 1), none⟩ = some (.int .i64 (x + (g.val : Nat))) := fun w h => by rw [hC] at h; exact h.2.2.2.2.1
      have qK : ∀ w, C w → KeepB bn W3 w ∧ J [(W20.none, pr)] w := fun w h => by rw [hC] at h; exact h.2.2.2.2.2
      have mixed : Try.prog.follows Departure.mixedOrders = true := by kernel_rfl
      clear hC dT dA dP dF hJ5 d0 d1 hset hcel hst eA
      refine wpIn_region_quiet_last_in (n := 15) (C := C) hro mixed (by kernel_rfl) hC0.out ?_
      simp only [List.take_succ_cons, List.take_zero, List.drop_succ_cons, List.drop_zero]
      refine BigFrame.wpQuietIn_want (BigFrame.askedIn_plain (fun _ h => nomatch h)) (by kernel_rfl) (fun K hK => quietIn_run (.func (.yield l) #[] #[]) (fun w hw => ?_) (hK _ ?_))
      · rfl
      clear hK K
      refine BigFrame.wpQuietIn_want (BigFrame.askedIn_plain (fun _ h => nomatch h)) (by kernel_rfl) (fun K hK => quietIn_run (.agg cm.cells) (fun w hw => ?_) (hK _ ?_))
      · exact run_load_waits rfl rfl (qL w hw)
      clear hK K
      refine BigFrame.wpQuietIn_want (BigFrame.askedIn_plain (fun _ h => nomatch h)) (by kernel_rfl) (fun K hK => quietIn_run (.agg cm.cells) (fun w hw => ?_) (hK _ ?_))
      · exact run_load_waits rfl rfl (qL w hw)
      clear hK K
      refine BigFrame.wpQuietIn_want ?_ (by kernel_rfl) (fun K hK => quietIn_enter (.int .i64 (cm.to 20 : Nat)) 56 #[cm.v] (fun _ => hn) (fun w hw => ?_) (fun w hw => ?_) (hK _ ?_))
      · exact fun _ _ _ _ => trivial
      · go_simp
      · exact (hMA w _).mono fun e w' ⟨he, hw'⟩ => ⟨he, by rw [hw']; exact hCg.out w _ hw⟩
      clear hK K
      refine BigFrame.wpQuietIn_want (BigFrame.askedIn_plain (fun _ h => nomatch h)) (by kernel_rfl) (fun K hK => quietIn_run (.slice (some ⟨b, off, none⟩) n cap) (fun w hw => ?_) (hK _ ?_))
      · have e0 := qT w hw; have e1 := qA w hw; have e2 := q0 w hw; have e3 := q1 w hw; clear qT qA q0 q1 qL qK hMA; go_simp
      clear hK K
      refine BigFrame.wpQuietIn_want (BigFrame.askedIn_plain (fun _ h => nomatch h)) (by kernel_rfl) (fun K hK => quietIn_run (.int .i64 (k : Nat)) (fun w hw => ?_) (hK _ ?_))
      · have e0 := qT w hw; have e1 := qA w hw; have e2 := q0 w hw; have e3 := q1 w hw; clear qT qA q0 q1 qL qK hMA; go_simp
      clear hK K
      refine BigFrame.wpQuietIn_want (BigFrame.askedIn_plain (fun _ h => nomatch h)) (by kernel_rfl) (fun K hK => quietIn_run (.int .i64 ((k + 1 : Nat) : Int)) (fun w hw => ?_) (hK _ ?_))
      · have e0 := qT w hw; have e1 := qA w hw; have e2 := q0 w hw; have e3 := q1 w hw; clear qT qA q0 q1 qL qK hMA; go_simp
      clear hK K
      refine BigFrame.wpQuietIn_want (BigFrame.askedIn_plain (fun _ h => nomatch h)) (by kernel_rfl) (fun K hK => quietIn_run (.pointer (some ⟨b, off + (k + 1), none⟩)) (fun w hw => ?_) (hK _ ?_))
      · have e0 := qT w hw; have e1 := qA w hw; have e2 := q0 w hw; have e3 := q1 w hw; clear qT qA q0 q1 qL qK hMA; go_simp; intro h; exact absurd (h (by omega)) (by omega)
      clear hK K
      refine BigFrame.wpQuietIn_want (BigFrame.askedIn_plain (fun _ h => nomatch h)) (by kernel_rfl) (fun K hK => quietIn_run (.int .i64 (x + (g.val : Nat))) (fun w hw => ?_) (hK _ ?_))
      · have e0 := qT w hw; have e1 := qA w hw; have e2 := q0 w hw; have e3 := q1 w hw; clear qT qA q0 q1 qL qK hMA; go_simp
      clear hK K
      refine BigFrame.wpQuietIn_want (BigFrame.askedIn_plain (fun _ h => nomatch h)) (by kernel_rfl) (fun K hK => quietIn_run (.slice (some ⟨b, off, none⟩) n cap) (fun w hw => ?_) (hK _ ?_))
      · have e0 := qT w hw; have e1 := qA w hw; have e2 := q0 w hw; have e3 := q1 w hw; clear qT qA q0 q1 qL qK hMA; go_simp
      clear hK K
      refine BigFrame.wpQuietIn_want (BigFrame.askedIn_plain (fun _ h => nomatch h)) (by kernel_rfl) (fun K hK => quietIn_run (.int .i64 (k : Nat)) (fun w hw => ?_) (hK _ ?_))
      · have e0 := qT w hw; have e1 := qA w hw; have e2 := q0 w hw; have e3 := q1 w hw; clear qT qA q0 q1 qL qK hMA; go_simp
      clear hK K
      refine BigFrame.wpQuietIn_want (BigFrame.askedIn_plain (fun _ h => nomatch h)) (by kernel_rfl) (fun K hK => quietIn_run (.pointer (some ⟨b, off + k, none⟩)) (fun w hw => ?_) (hK _ ?_))
      · have e0 := qT w hw; have e1 := qA w hw; have e2 := q0 w hw; have e3 := q1 w hw; clear qT qA q0 q1 qL qK hMA; go_simp
      clear hK K
      refine BigFrame.wpQuietIn_want (BigFrame.askedIn_plain (fun _ h => nomatch h)) (by kernel_rfl) (fun K hK => quietIn_run (.int .i64 x) (fun w hw => ?_) (hK _ ?_))
      · have e0 := qT w hw; have e1 := qA w hw; have e2 := q0 w hw; have e3 := q1 w hw; clear qT qA q0 q1 qL qK hMA; go_simp
      clear hK K
      refine BigFrame.wpQuietIn_want (BigFrame.askedIn_plain (fun _ h => nomatch h)) (by kernel_rfl) (fun K hK => quietIn_run (.int .i64 (g.val : Nat)) (fun w hw => ?_) (hK _ ?_))
      · have e0 := qT w hw; have e1 := qA w hw; have e2 := q0 w hw; have e3 := q1 w hw; clear qT qA q0 q1 qL qK hMA; go_simp; have hg := g.isLt; rw [IntKind.wrap_i64]; omega
      clear hK K
      refine BigFrame.wpQuietIn_want (BigFrame.askedIn_plain (fun _ h => nomatch h)) (by kernel_rfl) (fun K hK => quietIn_run (.int .i64 ((gapCost cm g).val : Nat)) (fun w hw => ?_) (hK _ ?_))
      · have e0 := qT w hw; have e1 := qA w hw; have e2 := q0 w hw; have e3 := q1 w hw; clear qT qA q0 q1 qL qK hMA; go_simp; have hg := (gapCost cm g).isLt; rw [← Int.natCast_mul, show cm.to 20 * g.val = (gapCost cm g).val from rfl, IntKind.wrap_i64]; omega
      clear hK K
      refine wpQuietIn_nil ?_
      intro W4 hC4
      obtain ⟨hk4, hj4⟩ := qK W4 hC4
      obtain ⟨fn, tmps, assign, body, hy, hR⟩ := hY [(W20.none, pr)] (cm, gapCost cm g) W4 hj4 (by simp)
      dsimp only [encE, W20.v] at hy
      clear qT qA q0 q1 qL qK hMA hC4 hCg hC0 hY
      gi_wp2
      refine hR.mono ?_
      rintro e' W5 (⟨rfl, hJ6, hk6⟩ | ⟨rfl, hJx6⟩)
      · gi_wp2
        go_end0
        exact ⟨⟨_, rfl⟩, .inl ⟨_, rfl, by rw [HL.out]; exact hJ6⟩⟩
      · gi_wp2
        go_end0
        exact ⟨⟨_, rfl⟩, .inr ⟨_, trivial, hJx6⟩⟩
  · gi_wp2
    refine bodyPost_ret (results_none rfl _ _ _) rfl ?_
    exact ⟨⟨_, rfl⟩, .inr ⟨_, trivial, hJx3⟩⟩
end Wt
end Go.Proofs.Ytnjfmlojbaigjab
