/- The walk of landlord.behind$1: the stores that may be behind a request, at whatever page. -/
import Derived.Test.YtedmfehjifknbaaDoorLBehL
import Derived.Lib.SliceRun
namespace Go.Proofs.YtedmfehjifknbaaDoor
set_option maxRecDepth 100000
open Go.RowKit Go.Maps Go.Shelf
attribute [local go_sem] Oper.semAt_some

theorem S6.cells_at (s : S6) (k : Nat) (hk : k < 6) : s.cells[k]? = some (.bool (s.at k)) := by
  have : k = 0 ∨ k = 1 ∨ k = 2 ∨ k = 3 ∨ k = 4 ∨ k = 5 := by omega
  rcases this with rfl | rfl | rfl | rfl | rfl | rfl <;> rfl
theorem S6.cells_set (s : S6) (k : Nat) (hk : k < 6) (x : Bool) : s.cells.setIfInBounds k (.bool x) = (s.set k x).cells := by
  have : k = 0 ∨ k = 1 ∨ k = 2 ∨ k = 3 ∨ k = 4 ∨ k = 5 := by omega
  rcases this with rfl | rfl | rfl | rfl | rfl | rfl <;> rfl
theorem Boxes.at {W : World} {B Bp Bs Bc : Nat} {s : S6} {p : Nat} {co : Fin 1024} {sl : Nat} (h : Boxes W B Bp Bs Bc s p co sl) {k : Nat} (hk : k < 6) : W.cell? ⟨B, k, none⟩ = some (.bool (s.at k)) := by
  have : k = 0 ∨ k = 1 ∨ k = 2 ∨ k = 3 ∨ k = 4 ∨ k = 5 := by omega
  rcases this with rfl | rfl | rfl | rfl | rfl | rfl
  · exact h.b0
  · exact h.b1
  · exact h.b2
  · exact h.b3
  · exact h.b4
  · exact h.b5

set_option maxRecDepth 100000 in
set_option maxHeartbeats 4000000 in
theorem beh_any (n : Nat) (hn : 1 ≤ n) (l B Bp Bs Bc bn : Nat) (s : S6) (p : Nat) (hp : p < 6) (co : Fin 1024) (sl : Nat) (J Jx : List Ent → World → Prop)
    (hY : ∀ pre x W, J pre W → pre.length < 7 → YieldAt Fence.wide (n - 1) Tryd.prog l (encE x) W fun e W' =>
      (e = .returned (.bool true) ∧ J (pre ++ [x]) W' ∧ KeepB bn W W') ∨ (e = .returned (.bool false) ∧ Jx (pre ++ [x]) W'))
    (W : World) (hJ : AbidesFrom W.heap.size J) (hbn : bn < B ∧ bn < Bc) (hB : Boxes W B Bp Bs Bc s p co sl) (h0 : J [] W) :
    CallsIn Fence.wide n Tryd.prog 35 #[.func (.yield l) #[] #[], .pointer (some ⟨B, 0, none⟩), .pointer (some ⟨Bp, 0, none⟩), .pointer (some ⟨Bs, 0, none⟩), .pointer (some ⟨Bc, 0, none⟩)] W fun e' W' => (∃ v, e' = .returned v) ∧
      ((∃ ys, ys = behindL s p co sl ∧ J ys W') ∨ (∃ pre, True ∧ Jx pre W')) := by
  have hro : Fence.wide.round = none := rfl
  have bp := hB.at hp
  obtain ⟨b0, b1, b2, b3, b4, b5, b6, b7, b8⟩ := hB
  have hBW : B < W.heap.size := World.block_lt_of_cell? W _ b0
  have hn0 : B ≠ W.heap.size := Nat.ne_of_lt (World.block_lt_of_cell? W _ b0)
  have hn1 : Bp ≠ W.heap.size := Nat.ne_of_lt (World.block_lt_of_cell? W _ b6)
  have hn2 : Bc ≠ W.heap.size := Nat.ne_of_lt (World.block_lt_of_cell? W _ b7)
  have hn3 : Bs ≠ W.heap.size := Nat.ne_of_lt (World.block_lt_of_cell? W _ b8)
  have hpI : (p : Int) < 6 := by omega
  cases hsp : s.at p with
  | true =>
    rw [hsp] at bp
    have HL : Hid (behindL s p co sl = [(s, 0)]) := by unfold behindL Hid; rw [hsp]; rfl
    clear hsp
    obtain ⟨fn, tmps, assign, body, hy, hR⟩ := hY [] (s, 0) W h0 (by simp)
    dsimp only [encE, S6.v] at hy
    rw [show (((0 : Fin 1024).val : Nat) : Int) = 0 from rfl] at hy
    refine callsIn_of_wp Tryd.func35 rfl trivial ?_ hro
    simp only [Tryd.ntmps35, List.size_toArray, List.length_cons, List.length_nil, Nat.reduceAdd, Nat.reduceSub, Array.replicate_succ, Array.replicate_zero, List.push_toArray, List.append_toArray, List.nil_append, List.cons_append]
    gi_wp2
    refine hR.mono ?_
    rintro e' W3 (⟨rfl, hJ4, hk3⟩ | ⟨rfl, hJx3⟩)
    · gi_wp2
      refine bodyPost_ret (results_none rfl _ _ _) rfl ?_
      exact ⟨⟨_, rfl⟩, .inl ⟨_, rfl, by rw [HL.out]; exact hJ4⟩⟩
    · gi_wp2
      refine bodyPost_ret (results_none rfl _ _ _) rfl ?_
      exact ⟨⟨_, rfl⟩, .inr ⟨_, trivial, hJx3⟩⟩
  | false =>
    rw [hsp] at bp
    obtain ⟨cm, hcm⟩ : ∃ cm, s.set p true = cm := ⟨_, rfl⟩
    have hset : (#[.bool s.a, .bool s.b, .bool s.c, .bool s.d, .bool s.e, .bool s.f] : Array Value).setIfInBounds p (.bool true) = #[.bool cm.a, .bool cm.b, .bool cm.c, .bool cm.d, .bool cm.e, .bool cm.f] := by rw [← hcm]; exact s.cells_set p hp true
    have hcel : (W.alloc (.cells #[.bool s.a, .bool s.b, .bool s.c, .bool s.d, .bool s.e, .bool s.f] 58)).cell? ⟨W.heap.size, p, none⟩ = some (.bool false) := by
      have := s.cells_at p hp
      rw [hsp] at this
      exact (World.cell?_alloc_new W _ _ p).trans this
    have HCM : Hid (s.set p true = cm) := hcm
    clear hcm
    have hm6 := to_le s 6
    have HMA : Hid (∀ w, CallsIn Fence.wide (n - 1) Tryd.prog 36 #[.agg #[.bool s.a, .bool s.b, .bool s.c, .bool s.d, .bool s.e, .bool s.f]] w fun e' w' => e' = .returned (.int .i64 (S6.to s 6 : Nat)) ∧ w' = w.alloc (.cells #[.bool s.a, .bool s.b, .bool s.c, .bool s.d, .bool s.e, .bool s.f] 58)) := fun w => callsIn_wide.2 (smany_any s w)
    have mixed : Tryd.prog.follows Departure.mixedOrders = true := by kernel_rfl
    refine callsIn_of_wp Tryd.func35 rfl trivial ?_ hro
    simp only [Tryd.ntmps35, List.size_toArray, List.length_cons, List.length_nil, Nat.reduceAdd, Nat.reduceSub, Array.replicate_succ, Array.replicate_zero, List.push_toArray, List.append_toArray, List.nil_append, List.cons_append]
    have cA : (W.alloc (.cells #[.bool s.a, .bool s.b, .bool s.c, .bool s.d, .bool s.e, .bool s.f] 58)).cell? ⟨Bp, 0, none⟩ = some (.int .i64 (p : Nat)) := Lib.cell?_alloc_some _ b6
    gi_wp2
    obtain ⟨WA, hWA⟩ : ∃ WA, W.alloc (.cells #[.bool cm.a, .bool cm.b, .bool cm.c, .bool cm.d, .bool cm.e, .bool cm.f] 58) = WA := ⟨_, rfl⟩
    have HJ1 : Hid (J [] WA) := by rw [← hWA]; exact hJ [] W _ none h0 (World.grownBy_alloc _ _ none) (fun r e => by cases e)
    have d0 : WA.cell? ⟨B, 0, none⟩ = some (.bool s.a) := by rw [← hWA]; exact Lib.cell?_alloc_some _ b0
    have d1 : WA.cell? ⟨B, 1, none⟩ = some (.bool s.b) := by rw [← hWA]; exact Lib.cell?_alloc_some _ b1
    have d2 : WA.cell? ⟨B, 2, none⟩ = some (.bool s.c) := by rw [← hWA]; exact Lib.cell?_alloc_some _ b2
    have d3 : WA.cell? ⟨B, 3, none⟩ = some (.bool s.d) := by rw [← hWA]; exact Lib.cell?_alloc_some _ b3
    have d4 : WA.cell? ⟨B, 4, none⟩ = some (.bool s.e) := by rw [← hWA]; exact Lib.cell?_alloc_some _ b4
    have d5 : WA.cell? ⟨B, 5, none⟩ = some (.bool s.f) := by rw [← hWA]; exact Lib.cell?_alloc_some _ b5
    have dS : WA.cell? ⟨Bs, 0, none⟩ = some (.int .i64 (sl : Nat)) := by rw [← hWA]; exact Lib.cell?_alloc_some _ b8
    have HDC : Hid (WA.cell? ⟨Bc, 0, none⟩ = some (.int .i64 (co.val : Nat))) := by rw [← hWA]; exact Lib.cell?_alloc_some _ b7
    have Hc0 : Hid (WA.cell? ⟨W.heap.size, 0, none⟩ = some (.bool cm.a)) := by unfold Hid; rw [← hWA]; simp
    have Hc1 : Hid (WA.cell? ⟨W.heap.size, 1, none⟩ = some (.bool cm.b)) := by unfold Hid; rw [← hWA]; simp
    have Hc2 : Hid (WA.cell? ⟨W.heap.size, 2, none⟩ = some (.bool cm.c)) := by unfold Hid; rw [← hWA]; simp
    have Hc3 : Hid (WA.cell? ⟨W.heap.size, 3, none⟩ = some (.bool cm.d)) := by unfold Hid; rw [← hWA]; simp
    have Hc4 : Hid (WA.cell? ⟨W.heap.size, 4, none⟩ = some (.bool cm.e)) := by unfold Hid; rw [← hWA]; simp
    have Hc5 : Hid (WA.cell? ⟨W.heap.size, 5, none⟩ = some (.bool cm.f)) := by unfold Hid; rw [← hWA]; simp
    rw [hWA]
    clear hWA b0 b1 b2 b3 b4 b5 b6 b7 b8 cA bp hset hcel
    gi_region_with_o (refine ⟨trivial, ?_⟩; gi_at_call 36; refine (HMA.out _).mono ?_; rintro e' W2 ⟨rfl, hw2⟩; have eS : W2.cell? ⟨Bs, 0, none⟩ = some (.int .i64 (sl : Nat)) := by { rw [hw2]; exact Lib.cell?_alloc_some _ (show WA.drew.cell? _ = _ from dS) }; have HW2 : Hid (W2 = WA.drew.alloc (.cells #[.bool s.a, .bool s.b, .bool s.c, .bool s.d, .bool s.e, .bool s.f] 58)) := hw2; clear hw2)
    all_goals
      have HK2 : KeepB bn WA W2 := by rw [HW2.out]; exact (KeepB.drew bn WA).trans (KeepB.alloc bn WA.drew _)
      have HJ2 : Hid (J [] W2) := by unfold Hid; rw [HW2.out]; exact hJ [] WA.drew _ none (hJ [] WA WA.drew none HJ1.out ⟨rfl, rfl, rfl, Nat.le_refl _, fun _ _ _ => rfl⟩ (fun r e => by cases e)) (World.grownBy_alloc _ _ none) (fun r e => by cases e)
      have hc0 := HK2.cell Hc0.out (by omega)
      have hc1 := HK2.cell Hc1.out (by omega)
      have hc2 := HK2.cell Hc2.out (by omega)
      have hc3 := HK2.cell Hc3.out (by omega)
      have hc4 := HK2.cell Hc4.out (by omega)
      have hc5 := HK2.cell Hc5.out (by omega)
      have hcc := HK2.cell HDC.out (by omega)
      have f0 := HK2.cell d0 (by omega)
      have f1 := HK2.cell d1 (by omega)
      have f2 := HK2.cell d2 (by omega)
      have f3 := HK2.cell d3 (by omega)
      have f4 := HK2.cell d4 (by omega)
      have f5 := HK2.cell d5 (by omega)
      clear HW2 eS dS HDC d0 d1 d2 d3 d4 d5 HMA HJ1 Hc0 Hc1 Hc2 Hc3 Hc4 Hc5 HK2
      have hto : Hid (∀ x, x = S6.to s 6 → (behindL s p co sl = if x < sl then [(cm, co)] else leftTo s cm co 6)) := by
        unfold Hid; intro x hx; subst hx; rw [← HCM.out]; unfold behindL; rw [hsp]; rfl
      generalize hm : S6.to s 6 = m6 at *
      have HL0 := hto.out m6 rfl
      have HL : Hid (behindL s p co sl = if m6 < sl then [(cm, co)] else leftTo s cm co 6) := HL0
      clear HL0 hto hm hsp
      by_cases hr : m6 < sl
      · have hrI : (m6 : Int) < (sl : Int) := by omega
        obtain ⟨fn, tmps, assign, body, hy, hR⟩ := hY [] (cm, co) W2 HJ2.out (by simp)
        dsimp only [encE, S6.v] at hy
        clear hY
        gi_wp2
        refine hR.mono ?_
        rintro e' W3 (⟨rfl, hJ4, hk3⟩ | ⟨rfl, hJx3⟩)
        · gi_wp2
          refine bodyPost_ret (results_none rfl _ _ _) rfl ?_
          exact ⟨⟨_, rfl⟩, .inl ⟨_, rfl, by rw [HL.out, if_pos hr]; exact hJ4⟩⟩
        · gi_wp2
          refine bodyPost_ret (results_none rfl _ _ _) rfl ?_
          exact ⟨⟨_, rfl⟩, .inr ⟨_, trivial, hJx3⟩⟩
      · have hrI : ¬ (m6 : Int) < (sl : Int) := by omega
        have HX : Hid (∀ k, k < 6 → ∀ w, (Instr.index 58 (.agg #[.bool s.a, .bool s.b, .bool s.c, .bool s.d, .bool s.e, .bool s.f]) (.int .i64 (k : Nat))).run Tryd.prog w = .ok (.bool (s.at k)) w) := fun k hk w => index_st s k hk w
        gi_wp2
        gi_loopw [7, 8, 9, 28] (fun _ _ _ i wr => ∃ k : Nat, k ≤ 6 ∧ i = .int .i64 k ∧ KeepB bn W2 wr ∧ J (leftTo s cm co k) wr) (fun _ _ _ i _ => 6 - (intOf i).toNat)
        case atStart => exact ⟨0, by omega, rfl, KeepB.refl _ _, HJ2.out⟩
        case round =>
          obtain ⟨k, hk, rfl, hkp, hJs⟩ := hrel
          have g0 : wr.cell? ⟨W.heap.size, 0, none⟩ = some (.bool cm.a) := hkp.cell hc0 (by omega)
          have g1 : wr.cell? ⟨W.heap.size, 1, none⟩ = some (.bool cm.b) := hkp.cell hc1 (by omega)
          have g2 : wr.cell? ⟨W.heap.size, 2, none⟩ = some (.bool cm.c) := hkp.cell hc2 (by omega)
          have g3 : wr.cell? ⟨W.heap.size, 3, none⟩ = some (.bool cm.d) := hkp.cell hc3 (by omega)
          have g4 : wr.cell? ⟨W.heap.size, 4, none⟩ = some (.bool cm.e) := hkp.cell hc4 (by omega)
          have g5 : wr.cell? ⟨W.heap.size, 5, none⟩ = some (.bool cm.f) := hkp.cell hc5 (by omega)
          have gc : wr.cell? ⟨Bc, 0, none⟩ = some (.int .i64 (co.val : Nat)) := hkp.cell hcc (by omega)
          clear f0 f1 f2 f3 f4 f5 hc0 hc1 hc2 hc3 hc4 hc5 hcc
          by_cases hlt : k < 6
          · have hix := HX.out k hlt
            have HLT : Hid (leftTo s cm co (k+1) = bif s.at k then leftTo s cm co k ++ [(cm.set k false, co)] else leftTo s cm co k) := rfl
            cases hs : s.at k with
            | false =>
              rw [hs] at hix HLT
              clear hs
              gi_wp2
              go_roundw
              case rel => exact ⟨k + 1, by omega, by go_num, hkp, by rw [HLT.out]; exact hJs⟩
              case measure => simp [intOf]; omega
            | true =>
              rw [hs] at hix HLT
              clear hs
              obtain ⟨lf, hlf⟩ : ∃ lf, cm.set k false = lf := ⟨_, rfl⟩
              have hset : (#[.bool cm.a, .bool cm.b, .bool cm.c, .bool cm.d, .bool cm.e, .bool cm.f] : Array Value).setIfInBounds k (.bool false) = #[.bool lf.a, .bool lf.b, .bool lf.c, .bool lf.d, .bool lf.e, .bool lf.f] := by rw [← hlf]; exact cm.cells_set k hlt false
              have hcel : (wr.alloc (.cells #[.bool cm.a, .bool cm.b, .bool cm.c, .bool cm.d, .bool cm.e, .bool cm.f] 58)).cell? ⟨wr.heap.size, k, none⟩ = some (.bool (cm.at k)) := (World.cell?_alloc_new wr _ _ k).trans (cm.cells_at k hlt)
              have HLF : Hid (cm.set k false = lf) := hlf
              clear hlf
              have hJ4 := hJ _ wr (wr.alloc (.cells #[.bool lf.a, .bool lf.b, .bool lf.c, .bool lf.d, .bool lf.e, .bool lf.f] 58)) none hJs (World.grownBy_alloc _ _ none) (fun r e => by cases e)
              have gcl : (wr.alloc (.cells #[.bool lf.a, .bool lf.b, .bool lf.c, .bool lf.d, .bool lf.e, .bool lf.f] 58)).cell? ⟨Bc, 0, none⟩ = some (.int .i64 (co.val : Nat)) := Lib.cell?_alloc_some _ gc
              obtain ⟨fn, tmps, assign, body, hy, hR⟩ := hY _ (lf, co) _ hJ4 (left_few _ _ _ _ (by omega))
              dsimp only [encE, S6.v] at hy
              gi_wp2
              refine hR.mono ?_
              rintro e' W3 (⟨rfl, hJ5, hk3⟩ | ⟨rfl, hJx3⟩)
              · have gk : KeepB bn W2 W3 := hkp.trans ((KeepB.alloc bn wr _).trans hk3)
                gi_wp2
                go_roundw
                case rel => exact ⟨k + 1, by omega, by go_num, gk, by rw [HLT.out, cond_true, HLF.out]; exact hJ5⟩
                case measure => simp [intOf]; omega
              · gi_wp2
                refine bodyPost_ret (results_none rfl _ _ _) rfl ?_
                exact ⟨⟨_, rfl⟩, .inr ⟨_, trivial, hJx3⟩⟩
          · have hk6 : k = 6 := by omega
            subst hk6
            gi_wp2
            go_end0
            exact ⟨⟨_, rfl⟩, .inl ⟨_, rfl, by rw [HL.out, if_neg hr]; exact hJs⟩⟩
end Go.Proofs.YtedmfehjifknbaaDoor
