/- The walk of a table's Step. -/
import Derived.Test.YtnjfmlojbaigjaaDoorPStart
namespace Go.Proofs.YtnjfmlojbaigjaaDoor
namespace Pl
set_option maxRecDepth 100000
open Go.RowKit Go.Maps Go.Shelf
attribute [local go_sem] Oper.semAt_some

/-- What is handed to Step: a function that gives an iterator of each state. -/
def LeadsTo (w : World) (gf : Nat) (lb : Array Value) (g2 : Nat) (nx : P3 → List Ent) (N : Nat) : Prop :=
  ∀ (bn : Nat) (s : P3) (W : World), w.heap.size ≤ bn → bn < W.heap.size → Below w.heap.size w W → Calls Tryd.prog gf (#[s.v] ++ lb) W fun e W' => ∃ lb2, e = .returned (.func (.func g2) #[] lb2) ∧ Below W.heap.size W W' ∧
    ∀ n, 1 ≤ n → SeqStopsK Fence.wide n Tryd.prog g2 lb2 encE (KeepB bn) (fun ys => ys = nx s) (fun _ => True) N W'
theorem tall_in (n : Nat) (b : Nat) (w : World) : CallsIn Fence.wide n Tryd.prog 38 #[.agg #[.map (some b)]] w fun e w' => e = .returned (.func (.func 50) #[] #[.pointer (some ⟨w.heap.size, 0, none⟩)]) ∧ w' = w.alloc (.cells #[.map (some b)] 50) := callsIn_wide.2 (tall_any b w)

/-- A block of cells, as it was laid. -/
def Lies (W : World) (B : Nat) (cs : Array Value) (t : TypeId) : Prop := W.heap[B]? = some (.cells cs t (0, 0))
theorem Lies.new (W : World) (cs : Array Value) (t : TypeId) : Lies (W.alloc (.cells cs t)) W.heap.size cs t := World.alloc_heap_new W _
theorem Lies.kept {W W' : World} {row : Option Nat} {B : Nat} {cs : Array Value} {t : TypeId} (h : Lies W B cs t) (hg : W.grownBy W' row) (hne : some B ≠ row) : Lies W' B cs t := (hg.block B (Array.getElem?_eq_some_iff.1 h).1 hne).trans h
theorem Lies.alloc {W : World} {B : Nat} {cs : Array Value} {t : TypeId} (h : Lies W B cs t) (o : Obj) : Lies (W.alloc o) B cs t := h.kept (World.grownBy_alloc W o none) (by simp)
theorem Lies.cell {W : World} {B : Nat} {cs : Array Value} {t : TypeId} (h : Lies W B cs t) {j : Nat} {v : Value} (hj : cs[j]? = some v) : W.cell? ⟨B, j, none⟩ = some v := by simp [World.cell?, show W.heap[B]? = _ from h, hj]
theorem Lies.lt {W : World} {B : Nat} {cs : Array Value} {t : TypeId} (h : Lies W B cs t) : B < W.heap.size := (Array.getElem?_eq_some_iff.1 h).1
theorem lies_own {β : Type} (B : Nat) (t : TypeId) (f : β → Array Value) : Own (fun s W => Lies W B (f s) t) := fun s X Y row hs hg hrow =>
  hs.kept hg (fun e' => by obtain ⟨o, ho, hc⟩ := hrow B e'.symm; rw [show X.heap[B]? = _ from hs] at ho; cases ho; cases hc)
theorem ownFrom_keepB {β : Type} {B' bn : Nat} {w₀ : World} (hB : w₀.heap.size ≤ B') : OwnFrom B' (fun (_ : β) W => KeepB bn w₀ W) :=
  fun _ X Y row hs hg hr => ⟨Nat.le_trans hs.size hg.size, fun k o h0 ho hk => by
    have hX := hs.same k o h0 ho hk
    refine (hg.block k (Array.getElem?_eq_some_iff.1 hX).1 (fun e => ?_)).trans hX
    have h1 := (hr k e.symm).1
    have h2 := (Array.getElem?_eq_some_iff.1 h0).1
    omega⟩
theorem ownFrom_tab {β : Type} {H : Type} {B bn : Nat} (hB : bn < B) (q : β → (P3 → Option Nat) → Prop) : OwnFrom B (fun (s : β) W => ∃ T', IsTab H W bn T' ∧ q s T') :=
  fun _ X Y row hs hg hr => by
    obtain ⟨T', h1, h2⟩ := hs
    refine ⟨T', h1.kept hg (fun e => ?_), h2⟩
    have := (hr bn e.symm).1
    omega
theorem keepsFrom_grown {B bn : Nat} {W W' : World} (hB : bn < B) (h : W.grownBy W' (some bn)) : KeepsFrom B W W' := ⟨h.size, fun k _ hk h0 _ => (h.block k (Array.getElem?_eq_some_iff.1 h0).1 (by simp; omega)).trans h0⟩
theorem keepsFrom_later {B : Nat} {W W' : World} (h : Below W.heap.size W W') : KeepsFrom B W W' := ⟨h.size, fun k _ _ h0 _ => (h.block k (Array.getElem?_eq_some_iff.1 h0).1).trans h0⟩
theorem Lies.later {W W' : World} {B : Nat} {cs : Array Value} {t : TypeId} (h : Lies W B cs t) (hb : Below W.heap.size W W') : Lies W' B cs t := (hb.block B h.lt).trans h
theorem box_later {W W' : World} {B : Nat} {t : TypeId} {v : Value} (h : Boxed W B t v) (hb : Below W.heap.size W W') : Boxed W' B t v := (hb.block B h.lt).trans h

set_option maxRecDepth 100000 in
set_option maxHeartbeats 4000000 in
theorem tstep_in (H : Type) (n : Nat) (hn : 6 ≤ n) (b : Nat) (T : P3 → Option Nat) (hT1 : ∀ s x, T s = some x → x < 1024) (lb : Array Value) (nx : P3 → List Ent) (N : Nat) (w : World) (hT : IsTab H w b T)
    (hL : LeadsTo w 28 lb 40 nx N) :
    CallsIn Fence.wide n Tryd.prog 27 #[.agg #[.map (some b)], .func (.func 28) #[] lb] w fun e W' => (∃ b' T', e = .returned (.agg #[.map (some b')]) ∧ IsTab H W' b' T' ∧ Onto nx T T') ∧ Below w.heap.size w W' := by
  have hro : Fence.wide.round = none := rfl
  have h1 : 1 ≤ n := by omega
  have mixed : Tryd.prog.follows Departure.mixedOrders = true := by kernel_rfl
  have hmk : ∀ w, (Instr.makeMap 48 none).run Tryd.prog w = .ok (.map (some w.heap.size)) (w.alloc (.map #[] 0)) := fun w => run_makeMap_plain (w := w) _
  refine callsIn_of_wp_marks Tryd.func27 rfl trivial ?_ hro
  simp only [Tryd.ntmps27, List.size_toArray, List.length_cons, List.length_nil, Nat.reduceAdd, Nat.reduceSub, Array.replicate_succ, Array.replicate_zero, List.push_toArray, List.append_toArray, List.nil_append, List.cons_append]
  gi_wp2_with (refine ⟨trivial, ?_⟩; gi_at_call 38; refine (tall_in (n - 1) b _).mono ?_; rintro e w' ⟨rfl, rfl⟩)
  have bL := ((((Boxed.new (w.alloc (.cells #[.map (some b)] 50)) 56 (.func (.func 28) #[] lb)).alloc (.cells #[.map none] 50)).alloc (.map #[] 0)).alloc (.cells #[.map (some (w.heap.size + 1 + 1 + 1))] 50)).alloc (.cells #[.map (some b)] 50)
  have bR := (((Boxed.new ((w.alloc (.cells #[.map (some b)] 50)).alloc (.cells #[.func (.func 28) #[] lb] 56)) 50 (.map none)).alloc (.map #[] 0)).alloc (.cells #[.map (some (w.heap.size + 1 + 1 + 1))] 50)).alloc (.cells #[.map (some b)] 50)
  have bT := ((tab_new H (((w.alloc (.cells #[.map (some b)] 50)).alloc (.cells #[.func (.func 28) #[] lb] 56)).alloc (.cells #[.map none] 50))).kept (World.grownBy_alloc _ (.cells #[.map (some (w.heap.size + 1 + 1 + 1))] 50) none) (by simp)).kept (World.grownBy_alloc _ (.cells #[.map (some b)] 50) none) (by simp)
  have bN := (Boxed.new ((((w.alloc (.cells #[.map (some b)] 50)).alloc (.cells #[.func (.func 28) #[] lb] 56)).alloc (.cells #[.map none] 50)).alloc (.map #[] 0)) 50 (.map (some (w.heap.size + 1 + 1 + 1)))).alloc (.cells #[.map (some b)] 50)
  have bA := Boxed.new (((((w.alloc (.cells #[.map (some b)] 50)).alloc (.cells #[.func (.func 28) #[] lb] 56)).alloc (.cells #[.map none] 50)).alloc (.map #[] 0)).alloc (.cells #[.map (some (w.heap.size + 1 + 1 + 1))] 50)) 50 (.map (some b))
  simp only [World.size_alloc] at bL bR bT bN bA
  have hB0 : Below w.heap.size w ((((((w.alloc (.cells #[.map (some b)] 50)).alloc (.cells #[.func (.func 28) #[] lb] 56)).alloc (.cells #[.map none] 50)).alloc (.map #[] 0)).alloc (.cells #[.map (some (w.heap.size + 1 + 1 + 1))] 50)).alloc (.cells #[.map (some b)] 50)) := ((((((Below.refl _ w).alloc (Nat.le_refl _) _).alloc (by simp) _).alloc (by simp; omega) _).alloc (by simp; omega) _).alloc (by simp; omega) _).alloc (by simp; omega) _
  have hsz : ((((((w.alloc (.cells #[.map (some b)] 50)).alloc (.cells #[.func (.func 28) #[] lb] 56)).alloc (.cells #[.map none] 50)).alloc (.map #[] 0)).alloc (.cells #[.map (some (w.heap.size + 1 + 1 + 1))] 50)).alloc (.cells #[.map (some b)] 50)).heap.size = w.heap.size + 6 := by simp
  obtain ⟨W0, hW0⟩ : ∃ W0, (((((w.alloc (.cells #[.map (some b)] 50)).alloc (.cells #[.func (.func 28) #[] lb] 56)).alloc (.cells #[.map none] 50)).alloc (.map #[] 0)).alloc (.cells #[.map (some (w.heap.size + 1 + 1 + 1))] 50)).alloc (.cells #[.map (some b)] 50) = W0 := ⟨_, rfl⟩
  rw [hW0] at bL bR bT bN bA hB0 hsz ⊢
  clear hW0
  have hbw : b < w.heap.size := hT.lt
  have hT0 : IsTab H W0 b T := hT.same (hB0.block b hbw)
  refine wpIn_rangeFunc_ownH hro h1 (gf := 50) (lb := #[.pointer (some ⟨w.heap.size + 1 + 1 + 1 + 1 + 1, 0, none⟩)]) rfl trivial (enters_of Tryd.func50 (by kernel_rfl) rfl)
    (all_stops (H := H) Fence.wide (n - 1) trivial hro (by omega) (w.heap.size + 1 + 1 + 1 + 1 + 1) b (w.heap.size + 1 + 1 + 1) T hT1 W0 (by omega) (by omega) bA.cell hT0) (fun h k => KeepB.trans h k) keepB_b (Below.refl _ _) (fun _ => rfl)
    (fun pre W => ((Boxed W (w.heap.size + 1) 56 (.func (.func 28) #[] lb) ∧ Boxed W (w.heap.size + 1 + 1) 50 (.map none)) ∧ Boxed W (w.heap.size + 1 + 1 + 1 + 1) 50 (.map (some (w.heap.size + 1 + 1 + 1)))) ∧ ((∃ T', IsTab H W (w.heap.size + 1 + 1 + 1) T' ∧ Made (offs nx pre) T') ∧ Below w.heap.size w W))
    (fun _ _ _ => False)
    (OwnFrom.and (OwnFrom.and (OwnFrom.and (Own.from (boxed_own _ _ _) _) (Own.from (boxed_own _ _ _) _)) (Own.from (boxed_own _ _ _) _)) (OwnFrom.and (ownFrom_tab (by omega) (fun pre T' => Made (offs nx pre) T')) (ownFrom_below (Nat.le_refl _) (by omega))))
    (fun _ _ _ _ _ hs _ _ => hs)
    ⟨⟨⟨bL, bR⟩, bN⟩, ⟨_, bT, made_none⟩, hB0⟩
    (fun x a' W => ∃ Bf Bx, w.heap.size + 4 < Bf ∧ w.heap.size + 4 < Bx ∧ Lies W Bf x.1.cells 47 ∧ Boxed W Bx 3 (.int .i64 (x.2.val : Nat)) ∧ a' = { tmps := #[.agg #[.map (some b)], .func (.func 28) #[] lb, .pointer (some ⟨w.heap.size, 0, none⟩), .pointer (some ⟨w.heap.size + 1, 0, none⟩), .pointer (some ⟨w.heap.size + 1 + 1, 0, none⟩), .pointer (some ⟨w.heap.size + 1 + 1 + 1 + 1, 0, none⟩), .pointer (some ⟨Bf, 0, none⟩), .pointer (some ⟨Bx, 0, none⟩), undef, undef, .map (some (w.heap.size + 1 + 1 + 1)), .agg #[.map (some (w.heap.size + 1 + 1 + 1))], .agg #[.map (some b)], .func (.func 50) #[] #[.pointer (some ⟨w.heap.size + 1 + 1 + 1 + 1 + 1, 0, none⟩)], x.1.v, .int .i64 (x.2.val : Nat), undef, undef, undef, undef, undef, undef, undef, undef, undef, undef, undef, undef], defers := [] })
    (fun x a' _ X Y row hs hg hr => by obtain ⟨Bf, Bx, h1, h2, h3, h4, h5⟩ := hs; exact ⟨Bf, Bx, h1, h2, lies_own Bf 47 (fun (_ : Unit) => x.1.cells) () X Y row h3 hg (fun r e => (hr r e).2), boxed_own Bx 3 (fun (_ : Unit) => Value.int .i64 (x.2.val : Nat)) () X Y row h4 hg (fun r e => (hr r e).2), h5⟩)
    ?assign ?body ?done ?stop
  case assign =>
    rintro l pre x W K ⟨⟨⟨bL1, bR1⟩, bN1⟩, ⟨T1, hT2, hM1⟩, hB1⟩ hK
    have hsW := bN1.lt
    gi_wp2
    exact hK _ _ (((KeepsOthers.alloc _ _).from _).trans ((KeepsOthers.alloc _ _).from _)) ((KeepB.alloc _ W _).trans (KeepB.alloc _ _ _)) ⟨⟨⟨(bL1.alloc _).alloc _, (bR1.alloc _).alloc _⟩, (bN1.alloc _).alloc _⟩, ⟨T1, (hT2.kept (World.grownBy_alloc _ _ none) (by simp)).kept (World.grownBy_alloc _ _ none) (by simp), hM1⟩, (hB1.alloc (by omega) _).alloc (by simp; omega) _⟩ ⟨W.heap.size, W.heap.size + 1, by omega, by omega, (Lies.new W _ _).alloc _, by have := Boxed.new (W.alloc (.cells x.1.cells 47)) 3 (.int .i64 (x.2.val : Nat)); rwa [World.size_alloc] at this, rfl⟩
  case body =>
    rintro l pre x a' W hl ⟨r, hr⟩ ⟨⟨⟨bL1, bR1⟩, bN1⟩, ⟨T1, hT2, hM1⟩, hB1⟩ ⟨Bf, Bx, hBf, hBx, lF, bX, rfl⟩ hlt
    obtain ⟨⟨sa, sb, sc⟩, y⟩ := x
    have cL := bL1.cell
    have c0 := lF.cell (j := 0) (v := .int .i64 (sa.val : Nat)) rfl
    have c1 := lF.cell (j := 1) (v := .int .i64 (sb.val : Nat)) rfl
    have c2 := lF.cell (j := 2) (v := .int .i64 (sc.val : Nat)) rfl
    have hbnW : w.heap.size + 1 + 1 + 1 < W.heap.size := hT2.lt
    have HL : Hid (∀ n2, CallsIn (Fence.wide.inRound l) n2 Tryd.prog 28 (#[.agg #[.int .i64 (sa.val : Nat), .int .i64 (sb.val : Nat), .int .i64 (sc.val : Nat)]] ++ lb) W fun e W' => ∃ lb2, e = .returned (.func (.func 40) #[] lb2) ∧ Hid (Below W.heap.size W W') ∧
      Hid (∀ n, 1 ≤ n → SeqStopsK Fence.wide n Tryd.prog 40 lb2 encE (KeepB (w.heap.size + 1 + 1 + 1)) (fun ys => ys = nx ⟨sa, sb, sc⟩) (fun _ => True) N W')) := fun n2 => CallsIn.inRound l (callsIn_wide.2 (hL (w.heap.size + 1 + 1 + 1) ⟨sa, sb, sc⟩ W (by omega) hbnW hB1))
    gi_wp2_with (refine ⟨trivial, fun _ => by omega, ?_⟩; gi_at_call 28; refine (HL.out _).mono ?_; rintro e W2 ⟨lb2, rfl, HB2, HS2⟩)
    have HB2' := HB2.out
    have hsW : w.heap.size ≤ W.heap.size := hB1.size
    have hsW2 : W.heap.size ≤ W2.heap.size := HB2'.size
    have h1' : 1 ≤ n - 1 - 1 := by omega
    have hlW : l < W.heap.size := (Array.getElem?_eq_some_iff.1 hr).1
    have hr' : W2.heap[l]? = some (.loop r) := (HB2'.block l hlW).trans hr
    have hy := y.isLt
    clear cL c0 c1 c2 HL
    refine wpIn_rangeFunc_ownN (l₀ := l) (r₀ := r) rfl hr' h1' (gf := 40) (lb := lb2) rfl trivial (enters_of Tryd.func40 (by kernel_rfl) rfl)
      ((HS2.out (n - 1 - 1 - 1) (by omega)).inRound l) (fun h k => KeepB.trans h k) keepB_b (Below.refl _ _) (fun _ => rfl)
      (fun pre' W' => ((Boxed W' (w.heap.size + 1 + 1 + 1 + 1) 50 (.map (some (w.heap.size + 1 + 1 + 1))) ∧ Boxed W' Bx 3 (.int .i64 (y.val : Nat))) ∧ (Boxed W' (w.heap.size + 1) 56 (.func (.func 28) #[] lb) ∧ Boxed W' (w.heap.size + 1 + 1) 50 (.map none))) ∧ ((∃ T', IsTab H W' (w.heap.size + 1 + 1 + 1) T' ∧ Made (offs nx pre ++ off1 y.val pre') T') ∧ (Below w.heap.size w W' ∧ (KeepB (w.heap.size + 1 + 1 + 1) W W' ∧ KeepsFrom W0.heap.size W W'))))
      (fun _ _ _ => False)
      (OwnFrom.and (OwnFrom.and (OwnFrom.and (Own.from (boxed_own _ _ _) _) (Own.from (boxed_own _ _ _) _)) (OwnFrom.and (Own.from (boxed_own _ _ _) _) (Own.from (boxed_own _ _ _) _))) (OwnFrom.and (ownFrom_tab (by omega) (fun pre' T' => Made (offs nx pre ++ off1 y.val pre') T')) (OwnFrom.and (ownFrom_below (Nat.le_refl _) (by omega)) (OwnFrom.and (ownFrom_keepB (by omega)) (ownFrom_keepsFrom (by omega))))))
      (fun _ _ _ _ _ hs _ _ => hs)
      ⟨⟨⟨box_later bN1 HB2', box_later bX HB2'⟩, box_later bL1 HB2', box_later bR1 HB2'⟩, ⟨T1, hT2.same (HB2'.block _ hbnW), by simpa [off1] using hM1⟩, hB1.trans (HB2'.mono hsW), KeepB.later HB2', keepsFrom_later HB2'⟩
      (fun e a'' W' => ∃ Bt, Lies W' Bt e.1.cells 47 ∧ a'' = { tmps := #[.agg #[.map (some b)], .func (.func 28) #[] lb, .pointer (some ⟨w.heap.size, 0, none⟩), .pointer (some ⟨w.heap.size + 1, 0, none⟩), .pointer (some ⟨w.heap.size + 1 + 1, 0, none⟩), .pointer (some ⟨w.heap.size + 1 + 1 + 1 + 1, 0, none⟩), .pointer (some ⟨Bf, 0, none⟩), .pointer (some ⟨Bx, 0, none⟩), .pointer (some ⟨Bt, 0, none⟩), .int .i64 (e.2.val : Nat), .map (some (w.heap.size + 1 + 1 + 1)), .agg #[.map (some (w.heap.size + 1 + 1 + 1))], .agg #[.map (some b)], .func (.func 50) #[] #[.pointer (some ⟨w.heap.size + 1 + 1 + 1 + 1 + 1, 0, none⟩)], .agg #[.int .i64 (sa.val : Nat), .int .i64 (sb.val : Nat), .int .i64 (sc.val : Nat)], .int .i64 (y.val : Nat), .func (.func 28) #[] lb, .agg #[.int .i64 (sa.val : Nat), .int .i64 (sb.val : Nat), .int .i64 (sc.val : Nat)], .func (.func 40) #[] lb2, e.1.v, .int .i64 (e.2.val : Nat), undef, undef, undef, undef, undef, undef, undef], defers := [] })
      (fun e a' _ X Y row hs hg hr => by obtain ⟨Bt, h3, h5⟩ := hs; exact ⟨Bt, lies_own Bt 47 (fun (_ : Unit) => e.1.cells) () X Y row h3 hg (fun r e => (hr r e).2), h5⟩)
      ?assign2 ?body2 ?done2 ?stop2
    case assign2 =>
      rintro l2 pre' e W' K ⟨⟨⟨bN2, bX2⟩, bL2, bR2⟩, ⟨T2, hT3, hM2⟩, hB3, hKB, hKF⟩ hK
      have hsW' : w.heap.size ≤ W'.heap.size := hB3.size
      gi_wp2
      exact hK _ _ ((KeepsOthers.alloc _ _).from _) (KeepB.alloc _ W' _) ⟨⟨⟨bN2.alloc _, bX2.alloc _⟩, bL2.alloc _, bR2.alloc _⟩, ⟨T2, hT3.kept (World.grownBy_alloc _ _ none) (by simp), hM2⟩, hB3.alloc hsW' _, hKB.trans (KeepB.alloc _ W' _), hKF.trans ((KeepsOthers.alloc _ _).from _)⟩ ⟨W'.heap.size, Lies.new W' _ _, rfl⟩
    case body2 =>
      rintro l2 pre' e a'' W' _ _ ⟨⟨⟨bN2, bX2⟩, bL2, bR2⟩, ⟨T2, hT3, hM2⟩, hB3, hKB, hKF⟩ ⟨Bt, lT, rfl⟩ _
      obtain ⟨⟨ta, tb, tc⟩, z⟩ := e
      have cN := bN2.cell
      have cX := bX2.cell
      have c0 := lT.cell (j := 0) (v := .int .i64 (ta.val : Nat)) rfl
      have c1 := lT.cell (j := 1) (v := .int .i64 (tb.val : Nat)) rfl
      have c2 := lT.cell (j := 2) (v := .int .i64 (tc.val : Nat)) rfl
      have hz := z.isLt
      have HO : Hid (∀ n2, CallsIn ((Fence.wide.inRound l).inRound l2) n2 Tryd.prog 39 #[.agg #[.map (some (w.heap.size + 1 + 1 + 1))], .agg #[.int .i64 (ta.val : Nat), .int .i64 (tb.val : Nat), .int .i64 (tc.val : Nat)], .int .i64 ((y.val : Nat) + (z.val : Nat))] W' fun e w' => (∃ v, e = .returned v) ∧ Hid (IsTab H w' (w.heap.size + 1 + 1 + 1) (offerT T2 ⟨ta, tb, tc⟩ (y.val + z.val))) ∧ Hid (W'.grownBy w' (some (w.heap.size + 1 + 1 + 1)))) := fun n2 => CallsIn.inRound l2 (CallsIn.inRound l (callsIn_wide.2 (by have := offer_any H (w.heap.size + 1 + 1 + 1) T2 ⟨ta, tb, tc⟩ (y.val + z.val) (by omega) W' hT3; rw [Int.natCast_add] at this; exact this)))
      gi_wp2_with (refine ⟨trivial, fun _ => by omega, ?_⟩; gi_at_call 39; refine (HO.out _).mono ?_; rintro e W3 ⟨⟨v, rfl⟩, HT4, HG3⟩)
      have HG := HG3.out
      exact ⟨keepsFrom_grown (by omega) HG, KeepB.grown HG, ⟨⟨bN2.kept HG (by simp), bX2.kept HG (by simp; omega)⟩, bL2.kept HG (by simp), bR2.kept HG (by simp)⟩, ⟨_, HT4.out, by rw [off1_snoc, ← List.append_assoc]; exact made_offer hM2 _ _⟩, hB3.grown HG hB3.size (fun k hk => by cases hk; omega), hKB.trans (KeepB.grown HG), hKF.trans (keepsFrom_grown (by omega) HG)⟩
    case done2 =>
      rintro ys' W' rfl ⟨⟨⟨bN2, bX2⟩, bL2, bR2⟩, ⟨T2, hT3, hM2⟩, hB3, hKB, hKF⟩
      gi_wp2
      exact ⟨hKF, hKB, ⟨⟨bL2, bR2⟩, bN2⟩, ⟨T2, hT3, by rw [offs_snoc]; exact hM2⟩, hB3⟩
    case stop2 =>
      rintro c pre' W' _ h
      exact h.elim
  case done =>
    rintro D zs W hD hzs ⟨⟨⟨bL1, bR1⟩, bN1⟩, ⟨T1, hT2, hM1⟩, hB1⟩ hK
    have cN := bN1.cell
    have cR := bR1.cell
    have fR := bR1.frozen
    gi_wp2
    have hK2 : (W.setCell ⟨w.heap.size + 1 + 1, 0, none⟩ (.map (some (w.heap.size + 1 + 1 + 1)))).heap[D]? = some (.deferred (some [])) := (Below.heap_setCell _ _ _ _ (by show D ≠ w.heap.size + 1 + 1; omega)).trans hK
    refine ⟨by simp, .inl ⟨_, _, rfl, run_takeDeferred hK2, ?_⟩⟩
    have bR2 : Boxed ((W.setCell ⟨w.heap.size + 1 + 1, 0, none⟩ (.map (some (w.heap.size + 1 + 1 + 1)))).putObj D (.deferred none)) (w.heap.size + 1 + 1) 50 (.map (some (w.heap.size + 1 + 1 + 1))) := (World.putObj_heap_other (by omega)).trans (bR1.set _)
    have cR2 := bR2.cell
    have hT4 : IsTab H ((W.setCell ⟨w.heap.size + 1 + 1, 0, none⟩ (.map (some (w.heap.size + 1 + 1 + 1)))).putObj D (.deferred none)) (w.heap.size + 1 + 1 + 1) T1 := (hT2.setCell (a := ⟨w.heap.size + 1 + 1, 0, none⟩) (by simp) _).same (World.putObj_heap_other (by omega))
    refine ⟨.agg #[.map (some (w.heap.size + 1 + 1 + 1))], (by simp [results, Tryd.results27, go_sem, cR2, Result.andThen]), ⟨_, T1, rfl, hT4, onto_of hT1 hzs hM1⟩, ?_⟩
    exact (hB1.setCell (p := ⟨w.heap.size + 1 + 1, 0, none⟩) (by simp; omega) _).trans (belowK_b (w := w) (Nat.le_refl _) _ D _ _ (by omega) hK2 rfl rfl)
  case stop =>
    rintro D c pre W _ _ h _
    exact h.elim
theorem tstep_any (H : Type) (b : Nat) (T : P3 → Option Nat) (hT1 : ∀ s x, T s = some x → x < 1024) (lb : Array Value) (nx : P3 → List Ent) (N : Nat) (w : World) (hT : IsTab H w b T)
    (hL : LeadsTo w 28 lb 40 nx N) :
    Calls Tryd.prog 27 #[.agg #[.map (some b)], .func (.func 28) #[] lb] w fun e W' => (∃ b' T', e = .returned (.agg #[.map (some b')]) ∧ IsTab H W' b' T' ∧ Onto nx T T') ∧ Below w.heap.size w W' :=
  callsIn_wide.1 (tstep_in H 6 (Nat.le_refl _) b T hT1 lb nx N w hT hL)
end Pl
end Go.Proofs.YtnjfmlojbaigjaaDoor
