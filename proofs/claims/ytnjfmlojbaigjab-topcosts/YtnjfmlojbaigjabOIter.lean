/- The orders that may be behind looking for a thing, and those behind a change of neighbours: the iterators of lists.found and lists.changed. -/
import Derived.Test.YtnjfmlojbaigjabOFind
import Derived.Test.YtnjfmlojbaigjabOrders
import Derived.Test.YtnjfmlojbaigjabKeep
import Derived.Lib.SliceRun
namespace Go.Proofs.Ytnjfmlojbaigjab
set_option maxRecDepth 100000
open Go.RowKit Go.Maps Go.Shelf Go.Sort
attribute [local go_sem] Oper.semAt_some

theorem KeepB.lies {bn : Nat} {W W' : World} (h : KeepB bn W W') {B : Nat} {cs : Array Value} {t : TypeId} (hc : Lies W B cs t) (hn : B ≠ bn) : Lies W' B cs t := h.same B _ hc (.inl rfl) hn
def tiny (i : Nat) : Fin 1024 := if h : i < 1024 then ⟨i, h⟩ else 0
theorem tiny_val {i : Nat} (h : i < 5) : (tiny i).val = i := by unfold tiny; rw [dif_pos (by omega)]
/-- What was found at place i, moved to the first k places, one each. -/
def foundTo (s : O4) (i : Nat) : Nat → List Ent
  | 0 => []
  | k + 1 => foundTo s i k ++ [(s.fw i k, tiny (i + 1))]
theorem found_len (s : O4) (i : Nat) : ∀ k, (foundTo s i k).length = k
  | 0 => rfl
  | k + 1 => by rw [foundTo, List.length_append, found_len s i k]; rfl
def foundL (s : O4) (x : Int) : List Ent := foundTo s (at_ s.l x).toNat (at_ s.l x + 1).toNat
/-- The order itself, and with its first neighbours changed, up to place k. -/
def chTo (s : O4) : Nat → List Ent
  | 0 => [(s, 0)]
  | k + 1 => chTo s k ++ [(s.fw (k + 1) k, 1)]
theorem ch_len (s : O4) : ∀ k, (chTo s k).length = k + 1
  | 0 => rfl
  | k + 1 => by rw [chTo, List.length_append, ch_len s k]; rfl
theorem at_range (l : List Int) (x : Int) : at_ l x = -1 ∨ ∃ i : Nat, i < l.length ∧ at_ l x = i := by
  unfold at_
  by_cases h : x ∈ l
  · obtain ⟨i, hi, e, _⟩ := idx_hit h
    exact .inr ⟨i, hi, e⟩
  · exact .inl (idx_miss h)

set_option maxHeartbeats 4000000 in
theorem found_in (n : Nat) (hn : 1 ≤ n) (l B Bx bn : Nat) (s : O4) (x : Int) (J Jx : List Ent → World → Prop)
    (hY : ∀ pre x W, J pre W → pre.length < 7 → YieldAt Fence.wide (n - 1) Try.prog l (encE x) W fun e W' =>
      (e = .returned (.bool true) ∧ J (pre ++ [x]) W' ∧ KeepB bn W W') ∨ (e = .returned (.bool false) ∧ Jx (pre ++ [x]) W'))
    (W : World) (hJ : AbidesFrom W.heap.size J) (hbn : bn < B ∧ bn < Bx) (lB : Lies W B s.cells 46) (bX : Boxed W Bx 3 (.int .i64 x)) (h0 : J [] W) :
    CallsIn Fence.wide n Try.prog 50 #[.func (.yield l) #[] #[], .pointer (some ⟨B, 0, none⟩), .pointer (some ⟨Bx, 0, none⟩)] W fun e' W' => (∃ v, e' = .returned v) ∧
      ((∃ ys, ys = foundL s x ∧ J ys W') ∨ (∃ pre, True ∧ Jx pre W')) := by
  have hro : Fence.wide.round = none := rfl
  have HFL : Hid (foundL s x = foundTo s (at_ s.l x).toNat (at_ s.l x + 1).toNat) := rfl
  have hat := at_range s.l x
  rw [show s.l.length = 4 from rfl] at hat
  have HFI : Hid (∀ w, CallsIn Fence.wide (n - 1) Try.prog 42 #[.agg #[.int .i64 (s.a.val : Nat), .int .i64 (s.b.val : Nat), .int .i64 (s.c.val : Nat), .int .i64 (s.d.val : Nat)], .int .i64 x] w fun e w' => e = .returned (.int .i64 (at_ s.l x)) ∧ w' = w.alloc (.cells s.cells 46)) := fun w => callsIn_wide.2 (find_any s x w)
  have c0 := lB.cell (j := 0) rfl
  have c1 := lB.cell (j := 1) rfl
  have c2 := lB.cell (j := 2) rfl
  have c3 := lB.cell (j := 3) rfl
  have cx := bX.cell
  generalize at_ s.l x = a at *
  refine callsIn_of_wp Try.func50 rfl trivial ?_ hro
  simp only [Try.ntmps50, List.size_toArray, List.length_cons, List.length_nil, Nat.reduceAdd, Nat.reduceSub, Array.replicate_succ, Array.replicate_zero, List.push_toArray, List.append_toArray, List.nil_append, List.cons_append]
  have HJ1 : Hid (J [] (W.alloc (.cells s.cells 46))) := hJ [] W _ none h0 (World.grownBy_alloc _ _ none) (fun r e => by cases e)
  have HK1 : Hid (KeepB bn W (W.alloc (.cells s.cells 46))) := KeepB.alloc bn W _
  have HLB : Hid (Lies W B s.cells 46) := lB
  have hBW := lB.lt
  rcases hat with hm | ⟨i, hi, hm⟩
  · subst hm
    gi_wp2_with (refine ⟨trivial, ?_⟩; gi_at_call 42; refine (HFI.out _).mono ?_; rintro e w' ⟨rfl, rfl⟩)
    gi_loopw [5, 11] (fun _ i wr => i = .int .i64 0 ∧ J [] wr) (fun _ _ _ => 0)
    case atStart => exact ⟨rfl, HJ1.out⟩
    case round =>
      obtain ⟨rfl, hJs⟩ := hrel
      gi_wp2
      go_end0
      exact ⟨⟨_, rfl⟩, .inl ⟨_, rfl, by rw [HFL.out]; exact hJs⟩⟩
  · subst hm
    have HFL2 : Hid (foundL s x = foundTo s i (i + 1)) := by unfold Hid; rw [HFL.out, Int.toNat_natCast, show ((i : Int) + 1).toNat = i + 1 by omega]
    clear HFL
    gi_wp2_with (refine ⟨trivial, ?_⟩; gi_at_call 42; refine (HFI.out _).mono ?_; rintro e w' ⟨rfl, rfl⟩)
    gi_loopw [5, 11] (fun _ j wr => ∃ k : Nat, k ≤ i + 1 ∧ j = .int .i64 k ∧ KeepB bn W wr ∧ J (foundTo s i k) wr) (fun _ j _ => i + 1 - (intOf j).toNat)
    case atStart => exact ⟨0, by omega, rfl, HK1.out, HJ1.out⟩
    case round =>
      obtain ⟨k, hk, rfl, hkp, hJs⟩ := hrel
      have lBr := hkp.lies HLB.out (by omega)
      have e0 := lBr.cell (j := 0) rfl
      have e1 := lBr.cell (j := 1) rfl
      have e2 := lBr.cell (j := 2) rfl
      have e3 := lBr.cell (j := 3) rfl
      by_cases hlt : k < i + 1
      · have HFW : Hid (∀ w, CallsIn Fence.wide (n - 1) Try.prog 44 #[.agg #[.int .i64 (s.a.val : Nat), .int .i64 (s.b.val : Nat), .int .i64 (s.c.val : Nat), .int .i64 (s.d.val : Nat)], .int .i64 i, .int .i64 k] w fun e w' => e = .returned (s.fw i k).v ∧ Below w.heap.size w w') := fun w => callsIn_wide.2 (forward_any s i k hi (by omega) w)
        have HPR : Hid (∀ w, CallsIn Fence.wide (n - 1) Try.prog 43 #[.int .i64 i] w fun e w' => e = .returned (.int .i64 ((i : Int) + 1)) ∧ w' = w) := fun w => callsIn_wide.2 (price_any i (by omega) (by omega) w)
        gi_wp2_with (gi_at_call 44; fail)
        refine ⟨trivial, ?_⟩
        refine (HFW.out _).mono ?_
        rintro e W1 ⟨rfl, hb1⟩
        have hJ4 := hJ _ wr W1 none hJs (grown_of_below hb1) (fun r e => by cases e)
        have hK4 : KeepB bn wr W1 := KeepB.later hb1
        have HFT : Hid (foundTo s i (k+1) = foundTo s i k ++ [(s.fw i k, tiny (i + 1))]) := rfl
        obtain ⟨fn, tmps, assign, body, hy, hR⟩ := hY _ (s.fw i k, tiny (i + 1)) _ hJ4 (by rw [found_len]; omega)
        dsimp only [encE, O4.v] at hy
        rw [show (((tiny (i + 1)).val : Nat) : Int) = (i : Int) + 1 by rw [tiny_val (by omega)]; omega] at hy
        clear hY
        gi_wp2_with (refine ⟨trivial, ?_⟩; gi_at_call 43; refine (HPR.out _).mono ?_; rintro e w' ⟨rfl, hw⟩; have hw := hw.symm; subst hw)
        refine hR.mono ?_
        rintro e' W3 (⟨rfl, hJ5, hk3⟩ | ⟨rfl, hJx3⟩)
        · have gk : KeepB bn W W3 := hkp.trans (hK4.trans hk3)
          gi_wp2
          go_roundw
          case rel => exact ⟨k + 1, by omega, by go_num, gk, by rw [HFT.out]; exact hJ5⟩
          case measure => simp [intOf]; omega
        · gi_wp2
          refine bodyPost_ret (results_none rfl _ _ _) rfl ?_
          exact ⟨⟨_, rfl⟩, .inr ⟨_, trivial, hJx3⟩⟩
      · have hk6 : k = i + 1 := by omega
        subst hk6
        gi_wp2
        go_end0
        exact ⟨⟨_, rfl⟩, .inl ⟨_, rfl, by rw [HFL2.out]; exact hJs⟩⟩

set_option maxHeartbeats 4000000 in
theorem changed_in (n : Nat) (hn : 1 ≤ n) (l B Bx bn : Nat) (s : O4) (m : Nat) (hm1 : 1 ≤ m) (hm4 : m ≤ 4) (J Jx : List Ent → World → Prop)
    (hY : ∀ pre x W, J pre W → pre.length < 7 → YieldAt Fence.wide (n - 1) Try.prog l (encE x) W fun e W' =>
      (e = .returned (.bool true) ∧ J (pre ++ [x]) W' ∧ KeepB bn W W') ∨ (e = .returned (.bool false) ∧ Jx (pre ++ [x]) W'))
    (W : World) (hJ : AbidesFrom W.heap.size J) (hbn : bn < B ∧ bn < Bx) (lB : Lies W B s.cells 46) (bX : Boxed W Bx 3 (.int .i64 (m : Nat))) (h0 : J [] W) :
    CallsIn Fence.wide n Try.prog 66 #[.func (.yield l) #[] #[], .pointer (some ⟨B, 0, none⟩), .pointer (some ⟨Bx, 0, none⟩)] W fun e' W' => (∃ v, e' = .returned v) ∧
      ((∃ ys, ys = chTo s (m - 1) ∧ J ys W') ∨ (∃ pre, True ∧ Jx pre W')) := by
  have hro : Fence.wide.round = none := rfl
  have c0 := lB.cell (j := 0) rfl
  have c1 := lB.cell (j := 1) rfl
  have c2 := lB.cell (j := 2) rfl
  have c3 := lB.cell (j := 3) rfl
  have HLB : Hid (Lies W B s.cells 46) := lB
  have HBX : Hid (Boxed W Bx 3 (.int .i64 (m : Nat))) := bX
  obtain ⟨fn, tmps, assign, body, hy, hR⟩ := hY [] (s, 0) W h0 (by simp)
  dsimp only [encE, O4.v] at hy
  rw [show (((0 : Fin 1024).val : Nat) : Int) = 0 from rfl] at hy
  refine callsIn_of_wp Try.func66 rfl trivial ?_ hro
  simp only [Try.ntmps66, List.size_toArray, List.length_cons, List.length_nil, Nat.reduceAdd, Nat.reduceSub, Array.replicate_succ, Array.replicate_zero, List.push_toArray, List.append_toArray, List.nil_append, List.cons_append]
  gi_wp2
  refine hR.mono ?_
  rintro e' W3 (⟨rfl, hJ5, hk3⟩ | ⟨rfl, hJx3⟩)
  · clear hy hR c0 c1 c2 c3 lB bX h0
    gi_wp2
    gi_loopw [4] (fun j wr => ∃ k : Nat, k + 1 ≤ m ∧ j = .int .i64 ((k + 1 : Nat) : Int) ∧ KeepB bn W wr ∧ J (chTo s k) wr) (fun j _ => m - (intOf j).toNat)
    case atStart => exact ⟨0, by omega, rfl, hk3, hJ5⟩
    case round =>
      obtain ⟨k, hk, rfl, hkp, hJs⟩ := hrel
      have lBr := hkp.lies HLB.out (by omega)
      have cx : wr.cell? ⟨Bx, 0, none⟩ = some (.int .i64 (m : Nat)) := hkp.cell HBX.out.cell (by omega)
      have e0 := lBr.cell (j := 0) rfl
      have e1 := lBr.cell (j := 1) rfl
      have e2 := lBr.cell (j := 2) rfl
      have e3 := lBr.cell (j := 3) rfl
      have hks : ((k + 1 : Nat) : Int) = (k : Int) + 1 := by omega
      rw [hks]
      clear hks
      by_cases hlt : k + 1 < m
      · have hltI : (k : Int) + 1 < (m : Int) := by omega
        have hsub : IntKind.i64.wrap ((k : Int) + 1 - 1) = (k : Int) := by rw [IntKind.wrap_i64]; omega
        have HFW : Hid (∀ w, CallsIn Fence.wide (n - 1) Try.prog 44 #[.agg #[.int .i64 (s.a.val : Nat), .int .i64 (s.b.val : Nat), .int .i64 (s.c.val : Nat), .int .i64 (s.d.val : Nat)], .int .i64 ((k : Int) + 1), .int .i64 k] w fun e w' => e = .returned (s.fw (k+1) k).v ∧ Below w.heap.size w w') := fun w => callsIn_wide.2 (by have := forward_any s (k+1) k (by omega) (by omega) w; rwa [show ((k + 1 : Nat) : Int) = (k : Int) + 1 by omega] at this)
        gi_wp2_with (gi_at_call 44; fail)
        refine ⟨trivial, ?_⟩
        refine (HFW.out _).mono ?_
        rintro e W1 ⟨rfl, hb1⟩
        have hJ4 := hJ _ wr W1 none hJs (grown_of_below hb1) (fun r e => by cases e)
        have hK4 : KeepB bn wr W1 := KeepB.later hb1
        have HFT : Hid (chTo s (k+1) = chTo s k ++ [(s.fw (k+1) k, 1)]) := rfl
        obtain ⟨fn, tmps, assign, body, hy, hR⟩ := hY _ (s.fw (k+1) k, 1) _ hJ4 (by rw [ch_len]; omega)
        dsimp only [encE, O4.v] at hy
        rw [show (((1 : Fin 1024).val : Nat) : Int) = 1 from rfl] at hy
        gi_wp2
        refine hR.mono ?_
        rintro e' W5 (⟨rfl, hJ5, hk5⟩ | ⟨rfl, hJx5⟩)
        · have gk : KeepB bn W W5 := hkp.trans (hK4.trans hk5)
          gi_wp2
          go_roundw
          case rel => exact ⟨k + 1, by omega, by go_num, gk, by rw [HFT.out]; exact hJ5⟩
          case measure => simp [intOf]; omega
        · gi_wp2
          refine bodyPost_ret (results_none rfl _ _ _) rfl ?_
          exact ⟨⟨_, rfl⟩, .inr ⟨_, trivial, hJx5⟩⟩
      · have hk6 : k = m - 1 := by omega
        have hltI : ¬ (k : Int) + 1 < (m : Int) := by omega
        have HKM : Hid (k = m - 1) := hk6
        clear hk6
        gi_wp2
        go_end0
        exact ⟨⟨_, rfl⟩, .inl (by rw [← HKM.out]; exact hJs)⟩
  · gi_wp2
    refine bodyPost_ret (results_none rfl _ _ _) rfl ?_
    exact ⟨⟨_, rfl⟩, .inr ⟨_, trivial, hJx3⟩⟩

theorem found_stops (n : Nat) (hn : 1 ≤ n) (B Bx bn : Nat) (s : O4) (x : Int) (w : World) (hbn : bn < B ∧ bn < Bx) (lB : Lies w B s.cells 46) (bX : Boxed w Bx 3 (.int .i64 x)) :
    SeqStopsK Fence.wide n Try.prog 50 #[.pointer (some ⟨B, 0, none⟩), .pointer (some ⟨Bx, 0, none⟩)] encE (KeepB bn) (fun ys => ys = foundL s x) (fun _ => True) 7 w := fun l J Jx W hW hJ _ hY h0 =>
  found_in n hn l B Bx bn s x J Jx hY W hJ hbn (lB.later hW) (box_later bX hW) h0
theorem changed_stops (n : Nat) (hn : 1 ≤ n) (B Bx bn : Nat) (s : O4) (m : Nat) (hm1 : 1 ≤ m) (hm4 : m ≤ 4) (w : World) (hbn : bn < B ∧ bn < Bx) (lB : Lies w B s.cells 46) (bX : Boxed w Bx 3 (.int .i64 (m : Nat))) :
    SeqStopsK Fence.wide n Try.prog 66 #[.pointer (some ⟨B, 0, none⟩), .pointer (some ⟨Bx, 0, none⟩)] encE (KeepB bn) (fun ys => ys = chTo s (m - 1)) (fun _ => True) 7 w := fun l J Jx W hW hJ _ hY h0 =>
  changed_in n hn l B Bx bn s m hm1 hm4 J Jx hY W hJ hbn (lB.later hW) (box_later bX hW) h0
end Go.Proofs.Ytnjfmlojbaigjab
