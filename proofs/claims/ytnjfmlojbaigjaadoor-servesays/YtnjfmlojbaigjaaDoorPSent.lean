/- Where servers may be behind an ask: the iterator of serve.sent; what serve.Least hands on. -/
import Derived.Test.YtnjfmlojbaigjaaDoorPTab
import Derived.Test.YtnjfmlojbaigjaaDoorSSend
import Derived.Test.YtnjfmlojbaigjaaDoorKeep
import Derived.Lib.SliceRun
namespace Go.Proofs.YtnjfmlojbaigjaaDoor
namespace Pl
set_option maxRecDepth 100000
open Go.RowKit Go.Maps Go.Shelf Go.Sort
attribute [local go_sem] Oper.semAt_some

theorem KeepB.lies {bn : Nat} {W W' : World} (h : KeepB bn W W') {B : Nat} {cs : Array Value} {t : TypeId} (hc : Lies W B cs t) (hn : B ≠ bn) : Lies W' B cs t := h.same B _ hc (.inl rfl) hn
theorem Lies.set {W : World} {B j : Nat} {cs : Array Value} {t : TypeId} (h : Lies W B cs t) (v : Value) : Lies (W.setCell ⟨B, j, none⟩ v) B (cs.setIfInBounds j v) t := by
  obtain ⟨hlt, hk⟩ := Array.getElem?_eq_some_iff.1 h
  show (W.heap.modify B _)[B]? = _
  rw [Array.getElem?_eq_getElem (by rw [Array.size_modify]; exact hlt), Array.getElem_modify_self, hk]
  rfl
theorem Lies.frozen {W : World} {B j : Nat} {cs : Array Value} {t : TypeId} (h : Lies W B cs t) : W.frozen? ⟨B, j, none⟩ = false := by
  simp [World.frozen?, show W.heap[B]? = _ from h]
theorem slice_all (B : Nat) (W : World) : (Instr.sliceAt 47 (.pointer (some ⟨B, 0, none⟩)) none none none).run Tryd.prog W = .ok (.slice (some ⟨B, 0, none⟩) 3 3) W := by kernel_rfl
/-- What the iterator has taken in. -/
structure SBoxes (W : World) (Bm Bf Ba : Nat) (s : P3) (m : Nat) (r : Fin 13) : Prop where
  many : W.cell? ⟨Bm, 0, none⟩ = some (.int .i64 (m : Nat))
  from_ : Lies W Bf s.cells 47
  ask : W.cell? ⟨Ba, 0, none⟩ = some (.int .i64 (r.val : Nat))
set_option maxHeartbeats 4000000 in
theorem sent_in (n : Nat) (hn : 1 ≤ n) (l Bm Bf Ba bn : Nat) (s : P3) (m : Nat) (hm : m ≤ 3) (r : Fin 13) (J Jx : List Ent → World → Prop)
    (hY : ∀ pre x W, J pre W → pre.length < 7 → YieldAt Fence.wide (n - 1) Tryd.prog l (encE x) W fun e W' =>
      (e = .returned (.bool true) ∧ J (pre ++ [x]) W' ∧ KeepB bn W W') ∨ (e = .returned (.bool false) ∧ Jx (pre ++ [x]) W'))
    (W : World) (hJ : AbidesFrom W.heap.size J) (hbn : bn < Bm ∧ bn < Bf ∧ bn < Ba) (hB : SBoxes W Bm Bf Ba s m r) (h0 : J [] W) :
    CallsIn Fence.wide n Tryd.prog 40 #[.func (.yield l) #[] #[], .pointer (some ⟨Bm, 0, none⟩), .pointer (some ⟨Bf, 0, none⟩), .pointer (some ⟨Ba, 0, none⟩)] W fun e' W' => (∃ v, e' = .returned v) ∧
      ((∃ ys, ys = sentTo r s m ∧ J ys W') ∨ (∃ pre, True ∧ Jx pre W')) := by
  have hro : Fence.wide.round = none := rfl
  obtain ⟨cM, lF, cA⟩ := hB
  have HLF : Hid (Lies W Bf s.cells 47) := lF
  have HCA : Hid (W.cell? ⟨Ba, 0, none⟩ = some (.int .i64 (r.val : Nat))) := cA
  refine callsIn_of_wp Tryd.func40 rfl trivial ?_ hro
  simp only [Tryd.ntmps40, List.size_toArray, List.length_cons, List.length_nil, Nat.reduceAdd, Nat.reduceSub, Array.replicate_succ, Array.replicate_zero, List.push_toArray, List.append_toArray, List.nil_append, List.cons_append]
  gi_wp2
  gi_loopw [9] (fun i wr => ∃ k : Nat, k ≤ m ∧ i = .int .i64 k ∧ KeepB bn W wr ∧ J (sentTo r s k) wr) (fun i _ => m - (intOf i).toNat)
  case atStart => exact ⟨0, Nat.zero_le _, rfl, KeepB.refl _ _, h0⟩
  case round =>
    obtain ⟨k, hk, rfl, hkp, hJs⟩ := hrel
    by_cases hlt : k < m
    · have lFr := hkp.lies HLF.out (by omega)
      have cAr := hkp.cell HCA.out (by omega)
      have e0 := lFr.cell (j := 0) rfl
      have e1 := lFr.cell (j := 1) rfl
      have e2 := lFr.cell (j := 2) rfl
      have lT := Lies.new wr s.cells 47
      have hck : (wr.alloc (.cells s.cells 47)).cell? ⟨wr.heap.size, 0 + k, none⟩ = some (.int .i64 ((s.at k).val : Nat)) := by rw [Nat.zero_add]; exact lT.cell (s.cells_at k (by omega))
      have hfk : (wr.alloc (.cells s.cells 47)).frozen? ⟨wr.heap.size, 0 + k, none⟩ = false := lT.frozen
      have h12 : ∀ x : Fin 13, (0 : Int) ≤ (x.val : Nat) ∧ ((x.val : Nat) : Int) ≤ 12 := fun x => by have := x.isLt; omega
      have HSD : Hid (∀ n2, CallsIn Fence.wide n2 Tryd.prog 25 #[.slice (some ⟨wr.heap.size, 0, none⟩) 3 3, .int .i64 k, .int .i64 (r.val : Nat)] (wr.alloc (.cells s.cells 47)).drew fun e w' => e = .returned (.int .i64 ((dist (s.at k) r).val : Nat)) ∧ w' = (wr.alloc (.cells s.cells 47)).drew.setCell ⟨wr.heap.size, k, none⟩ (.int .i64 (r.val : Nat))) := fun n2 => callsIn_wide.2 (by
        have := send_any wr.heap.size 0 3 3 k ((s.at k).val : Nat) (r.val : Nat) (by omega) (h12 _) (h12 _) (wr.alloc (.cells s.cells 47)).drew hck hfk
        rw [Nat.zero_add, ← dist_val] at this
        exact this)
      have lT2 : Lies ((wr.alloc (.cells s.cells 47)).drew.setCell ⟨wr.heap.size, k, none⟩ (.int .i64 (r.val : Nat))) wr.heap.size (s.set k r).cells 47 := by
        rw [← s.cells_set k (by omega)]
        exact Lies.set (show Lies (wr.alloc (.cells s.cells 47)).drew wr.heap.size s.cells 47 from lT) _
      have hB2 : Below wr.heap.size wr ((wr.alloc (.cells s.cells 47)).drew.setCell ⟨wr.heap.size, k, none⟩ (.int .i64 (r.val : Nat))) := (((Below.refl _ wr).alloc (Nat.le_refl _) _).drew).setCell (p := ⟨wr.heap.size, k, none⟩) (Nat.le_refl _) _
      obtain ⟨WB, hWB⟩ : ∃ WB, (wr.alloc (.cells s.cells 47)).drew.setCell ⟨wr.heap.size, k, none⟩ (.int .i64 (r.val : Nat)) = WB := ⟨_, rfl⟩
      rw [hWB] at HSD lT2 hB2
      clear hWB
      have d0 := lT2.cell (j := 0) rfl
      have d1 := lT2.cell (j := 1) rfl
      have d2 := lT2.cell (j := 2) rfl
      have hJ4 := hJ _ wr _ none hJs (grown_of_below hB2) (fun r e => by cases e)
      have hK4 : KeepB bn wr _ := KeepB.later hB2
      have HFT : Hid (sentTo r s (k+1) = sentTo r s k ++ [(s.set k r, dist (s.at k) r)]) := rfl
      obtain ⟨fn, tmps, assign, body, hy, hR⟩ := hY _ (s.set k r, dist (s.at k) r) _ hJ4 (by rw [sent_len]; omega)
      dsimp only [encE, P3.v] at hy
      clear lT hck hfk lT2 hB2
      have mixed : Tryd.prog.follows Departure.mixedOrders = true := by kernel_rfl
      have hsl := fun W => slice_all wr.heap.size W
      have eA : (wr.alloc (.cells s.cells 47)).cell? ⟨Ba, 0, none⟩ = some (.int .i64 (r.val : Nat)) := Lib.cell?_alloc_some _ cAr
      clear hJ4 hY
      gi_wp2_with fail
      clear e0 e1 e2 cAr lFr
      generalize hWA : wr.alloc (.cells s.cells 47) = WA at *
      gi_region_with_o (refine ⟨trivial, ?_⟩; gi_at_call 25; refine (HSD.out _).mono ?_; rintro e' W2 ⟨rfl, hw2⟩; have hw2 := hw2.symm; subst hw2)
      all_goals
        clear HSD hsl eA hWA
        gi_wp2
        refine hR.mono ?_
        rintro e' W3 (⟨rfl, hJ5, hk3⟩ | ⟨rfl, hJx3⟩)
        · have gk : KeepB bn W W3 := hkp.trans (hK4.trans hk3)
          gi_wp2
          go_roundw
          case rel => exact ⟨k + 1, by omega, by go_num, gk, by rw [HFT.out]; exact hJ5⟩
          case measure => simp [intOf]; omega
        · gi_wp2
          refine bodyPost_ret (results_none rfl _ _ _) rfl ?_
          exact ⟨⟨_, rfl⟩, .inr ⟨_, trivial, hJx3⟩⟩
    · have hkm : k = m := by omega
      subst hkm
      gi_wp2
      go_end0
      exact ⟨⟨_, rfl⟩, .inl ⟨_, rfl, hJs⟩⟩
theorem sent_stops (n : Nat) (hn : 1 ≤ n) (Bm Bf Ba bn : Nat) (s : P3) (m : Nat) (hm : m ≤ 3) (r : Fin 13) (w : World) (hbn : bn < Bm ∧ bn < Bf ∧ bn < Ba) (hB : SBoxes w Bm Bf Ba s m r) :
    SeqStopsK Fence.wide n Tryd.prog 40 #[.pointer (some ⟨Bm, 0, none⟩), .pointer (some ⟨Bf, 0, none⟩), .pointer (some ⟨Ba, 0, none⟩)] encE (KeepB bn) (fun ys => ys = sentTo r s m) (fun _ => True) 7 w := fun l J Jx W hW hJ _ hY h0 =>
  sent_in n hn l Bm Bf Ba bn s m hm r J Jx hY W hJ hbn ⟨(hW.cell (p := ⟨Bm, 0, none⟩) (World.block_lt_of_cell? w _ hB.many)).trans hB.many, hB.from_.later hW, (hW.cell (p := ⟨Ba, 0, none⟩) (World.block_lt_of_cell? w _ hB.ask)).trans hB.ask⟩ h0

set_option maxHeartbeats 1000000 in
theorem sentF_any (s : P3) (m r : Int) (w : World) :
    Calls Tryd.prog 29 #[s.v, .int .i64 m, .int .i64 r] w fun e w' => e = .returned (.func (.func 40) #[] #[.pointer (some ⟨w.heap.size + 1, 0, none⟩), .pointer (some ⟨w.heap.size, 0, none⟩), .pointer (some ⟨w.heap.size + 1 + 1, 0, none⟩)]) ∧ w' = ((w.alloc (.cells s.cells 47)).alloc (.cells #[.int .i64 m] 3)).alloc (.cells #[.int .i64 r] 3) := by
  go_enter Tryd.func29, Tryd.ntmps29
  go_wp2
  go_ret
  exact ⟨by simp, rfl⟩
set_option maxHeartbeats 1000000 in
theorem leadS_any (s : P3) (Bm Ba : Nat) (m r : Int) (w : World) (hm : w.cell? ⟨Bm, 0, none⟩ = some (.int .i64 m)) (h : w.cell? ⟨Ba, 0, none⟩ = some (.int .i64 r)) :
    Calls Tryd.prog 28 #[s.v, .pointer (some ⟨Bm, 0, none⟩), .pointer (some ⟨Ba, 0, none⟩)] w fun e w' => e = .returned (.func (.func 40) #[] #[.pointer (some ⟨w.heap.size + 1 + 1, 0, none⟩), .pointer (some ⟨w.heap.size + 1, 0, none⟩), .pointer (some ⟨w.heap.size + 1 + 1 + 1, 0, none⟩)]) ∧ w' = (((w.alloc (.cells s.cells 47)).alloc (.cells s.cells 47)).alloc (.cells #[.int .i64 m] 3)).alloc (.cells #[.int .i64 r] 3) := by
  have h1 : (w.alloc (.cells s.cells 47)).cell? ⟨Ba, 0, none⟩ = some (.int .i64 r) := Lib.cell?_alloc_some _ h
  have h2 : (w.alloc (.cells s.cells 47)).cell? ⟨Bm, 0, none⟩ = some (.int .i64 m) := Lib.cell?_alloc_some _ hm
  clear h hm
  go_enter Tryd.func28, Tryd.ntmps28
  go_wp2_with (go_at_call 29; go_must (refine (sentF_any s m r _).mono ?_; rintro e w' ⟨rfl, rfl⟩))
  go_ret
  exact ⟨by simp, rfl⟩
theorem three_boxes (W : World) (s : P3) (m : Nat) (r : Fin 13) : SBoxes ((((W.alloc (.cells s.cells 47)).alloc (.cells s.cells 47)).alloc (.cells #[.int .i64 (m : Nat)] 3)).alloc (.cells #[.int .i64 (r.val : Nat)] 3)) (W.heap.size + 1 + 1) (W.heap.size + 1) (W.heap.size + 1 + 1 + 1) s m r := by
  have l1 := ((Lies.new (W.alloc (.cells s.cells 47)) s.cells 47).alloc (.cells #[.int .i64 (m : Nat)] 3)).alloc (.cells #[.int .i64 (r.val : Nat)] 3)
  have l2 := (Boxed.new ((W.alloc (.cells s.cells 47)).alloc (.cells s.cells 47)) 3 (.int .i64 (m : Nat))).alloc (.cells #[.int .i64 (r.val : Nat)] 3)
  have l3 := Boxed.new (((W.alloc (.cells s.cells 47)).alloc (.cells s.cells 47)).alloc (.cells #[.int .i64 (m : Nat)] 3)) 3 (.int .i64 (r.val : Nat))
  simp only [World.size_alloc] at l1 l2 l3
  exact ⟨l2.cell, l1, l3.cell⟩
theorem leads_sent {w : World} {Bm Ba m : Nat} {r : Fin 13} (hm : m ≤ 3) (h1 : w.cell? ⟨Bm, 0, none⟩ = some (.int .i64 (m : Nat))) (h2 : w.cell? ⟨Ba, 0, none⟩ = some (.int .i64 (r.val : Nat))) :
    LeadsTo w 28 #[.pointer (some ⟨Bm, 0, none⟩), .pointer (some ⟨Ba, 0, none⟩)] 40 (fun s => sentTo r s m) 7 := by
  intro bn s W g1 g2 g3
  refine (leadS_any s Bm Ba m (r.val : Nat) W ((g3.cell (World.block_lt_of_cell? w _ h1)).trans h1) ((g3.cell (World.block_lt_of_cell? w _ h2)).trans h2)).mono ?_
  rintro e W' ⟨rfl, rfl⟩
  refine ⟨_, rfl, ((((Below.refl _ W).alloc (Nat.le_refl _) _).alloc (by simp) _).alloc (by simp; omega) _).alloc (by simp; omega) _, fun n hn => ?_⟩
  exact sent_stops n hn _ _ _ bn s m hm r _ ⟨by omega, by omega, by omega⟩ (three_boxes W s m r)
end Pl
end Go.Proofs.YtnjfmlojbaigjaaDoor
