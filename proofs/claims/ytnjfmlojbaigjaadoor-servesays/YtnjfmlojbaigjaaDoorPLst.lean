/- The walk of a table's Least: the least that it tells. -/
import Derived.Test.YtnjfmlojbaigjaaDoorPStep
namespace Go.Proofs.YtnjfmlojbaigjaaDoor
namespace Pl
set_option maxRecDepth 100000
open Go.RowKit Go.Maps Go.Shelf
attribute [local go_sem] Oper.semAt_some

/-- The least of what came, and whether nothing came yet. -/
def lstOf : List Ent → Nat × Bool → Nat × Bool
  | [], st => st
  | x :: l, st => lstOf l (if st.2 || decide (x.2.val < st.1) then (x.2.val, false) else st)
theorem lstOf_snoc (x : Ent) : ∀ (l : List Ent) (st : Nat × Bool), lstOf (l ++ [x]) st = (if (lstOf l st).2 || decide (x.2.val < (lstOf l st).1) then (x.2.val, false) else lstOf l st)
  | [], _ => rfl
  | y :: l, st => by rw [List.cons_append, lstOf, lstOf, lstOf_snoc x l]
theorem lstOf_lt : ∀ (l : List Ent) (st : Nat × Bool), st.1 < 1024 → (lstOf l st).1 < 1024
  | [], _, h => h
  | x :: l, st, h => by
    rw [lstOf]
    refine lstOf_lt l _ ?_
    split
    · exact x.2.isLt
    · exact h
theorem lstOf_some : ∀ (l : List Ent) (st : Nat × Bool), st.2 = false → (lstOf l st).2 = false ∧ ((lstOf l st).1 = st.1 ∨ ∃ x, x ∈ l ∧ x.2.val = (lstOf l st).1) ∧ (lstOf l st).1 ≤ st.1 ∧ ∀ x, x ∈ l → (lstOf l st).1 ≤ x.2.val
  | [], st, h => ⟨h, .inl rfl, Nat.le_refl _, fun _ hx => (by cases hx)⟩
  | x :: l, st, h => by
    rw [lstOf, h, Bool.false_or]
    by_cases hx : x.2.val < st.1
    · rw [if_pos (decide_eq_true hx)]
      obtain ⟨a, b, c, d⟩ := lstOf_some l (x.2.val, false) rfl
      refine ⟨a, .inr ?_, by simp only [] at c; omega, fun z hz => ?_⟩
      · rcases b with b | ⟨z, hz, e⟩
        · exact ⟨x, List.mem_cons_self, b.symm⟩
        · exact ⟨z, List.mem_cons_of_mem _ hz, e⟩
      · rcases List.mem_cons.1 hz with rfl | hz
        · exact c
        · exact d z hz
    · rw [if_neg (by simpa using hx)]
      obtain ⟨a, b, c, d⟩ := lstOf_some l st h
      refine ⟨a, ?_, c, fun z hz => ?_⟩
      · rcases b with b | ⟨z, hz, e⟩
        · exact .inl b
        · exact .inr ⟨z, List.mem_cons_of_mem _ hz, e⟩
      · rcases List.mem_cons.1 hz with rfl | hz
        · omega
        · exact d z hz
/-- x is the least that T tells. -/
structure LeastT (T : P3 → Option Nat) (x : Nat) : Prop where
  got : ∃ s, T s = some x
  all : ∀ s y, T s = some y → x ≤ y
theorem lst_least {T : P3 → Option Nat} (hT1 : ∀ s x, T s = some x → x < 1024) {ps : List Ent} (ha : AllOf T ps) (h0 : ∃ s x, T s = some x) : LeastT T (lstOf ps (0, true)).1 := by
  obtain ⟨s, x, hs⟩ := h0
  have hm := (ha s ⟨x, hT1 s x hs⟩).2 hs
  cases ps with
  | nil => cases hm
  | cons e l =>
    rw [lstOf, Bool.true_or, if_pos rfl]
    obtain ⟨_, b, c, d⟩ := lstOf_some l (e.2.val, false) rfl
    refine ⟨?_, fun t y ht => ?_⟩
    · rcases b with b | ⟨z, hz, ez⟩
      · exact ⟨e.1, by rw [b]; exact (ha e.1 e.2).1 List.mem_cons_self⟩
      · exact ⟨z.1, by rw [← ez]; exact (ha z.1 z.2).1 (List.mem_cons_of_mem _ hz)⟩
    · have hy := hT1 t y ht
      have := (ha t ⟨y, hy⟩).2 ht
      rcases List.mem_cons.1 this with h1 | h1
      · rw [← h1]; rw [← h1] at c; exact c
      · exact d _ h1
set_option maxRecDepth 100000 in
set_option maxHeartbeats 4000000 in
theorem tleast_in (H : Type) (n : Nat) (hn : 6 ≤ n) (b : Nat) (T : P3 → Option Nat) (hT1 : ∀ s x, T s = some x → x < 1024) (h0 : ∃ s x, T s = some x) (w : World) (hT : IsTab H w b T) :
    CallsIn Fence.wide n Tryd.prog 30 #[.agg #[.map (some b)]] w fun e W' => (∃ x : Nat, e = .returned (.int .i64 x) ∧ LeastT T x) ∧ Below w.heap.size w W' := by
  have hro : Fence.wide.round = none := rfl
  have h1 : 1 ≤ n := by omega
  have mixed : Tryd.prog.follows Departure.mixedOrders = true := by kernel_rfl
  refine callsIn_of_wp_marks Tryd.func30 rfl trivial ?_ hro
  simp only [Tryd.ntmps30, List.size_toArray, List.length_cons, List.length_nil, Nat.reduceAdd, Nat.reduceSub, Array.replicate_succ, Array.replicate_zero, List.push_toArray, List.append_toArray, List.nil_append, List.cons_append]
  gi_wp2_with (refine ⟨trivial, ?_⟩; gi_at_call 38; refine (tall_in (n - 1) b _).mono ?_; rintro e w' ⟨rfl, rfl⟩)
  have bF := ((Boxed.new (w.alloc (.cells #[.map (some b)] 50)) 3 (.int .i64 0)).alloc (.cells #[.bool true] 4)).alloc (.cells #[.map (some b)] 50)
  have bE := (Boxed.new ((w.alloc (.cells #[.map (some b)] 50)).alloc (.cells #[.int .i64 0] 3)) 4 (.bool true)).alloc (.cells #[.map (some b)] 50)
  have bA := Boxed.new (((w.alloc (.cells #[.map (some b)] 50)).alloc (.cells #[.int .i64 0] 3)).alloc (.cells #[.bool true] 4)) 50 (.map (some b))
  simp only [World.size_alloc] at bF bE bA
  have hB0 : Below w.heap.size w ((((w.alloc (.cells #[.map (some b)] 50)).alloc (.cells #[.int .i64 0] 3)).alloc (.cells #[.bool true] 4)).alloc (.cells #[.map (some b)] 50)) := ((((Below.refl _ w).alloc (Nat.le_refl _) _).alloc (by simp) _).alloc (by simp; omega) _).alloc (by simp; omega) _
  have hsz : ((((w.alloc (.cells #[.map (some b)] 50)).alloc (.cells #[.int .i64 0] 3)).alloc (.cells #[.bool true] 4)).alloc (.cells #[.map (some b)] 50)).heap.size = w.heap.size + 4 := by simp
  obtain ⟨W0, hW0⟩ : ∃ W0, (((w.alloc (.cells #[.map (some b)] 50)).alloc (.cells #[.int .i64 0] 3)).alloc (.cells #[.bool true] 4)).alloc (.cells #[.map (some b)] 50) = W0 := ⟨_, rfl⟩
  rw [hW0] at bF bE bA hB0 hsz ⊢
  clear hW0
  have hbw : b < w.heap.size := hT.lt
  have hT0 : IsTab H W0 b T := hT.same (hB0.block b hbw)
  refine wpIn_rangeFunc_ownH hro h1 (gf := 50) (lb := #[.pointer (some ⟨w.heap.size + 1 + 1 + 1, 0, none⟩)]) rfl trivial (enters_of Tryd.func50 (by kernel_rfl) rfl)
    (all_stopsW (H := H) Fence.wide (n - 1) trivial hro (by omega) (w.heap.size + 1 + 1 + 1) b w.heap.size T hT1 W0 (by omega) (by omega) bA.cell hT0) (fun h k => KeepW.trans h k) keepW_b (Below.refl _ _) (fun _ => rfl)
    (fun pre W => (Boxed W (w.heap.size + 1) 3 (.int .i64 ((lstOf pre (0, true)).1 : Nat)) ∧ Boxed W (w.heap.size + 1 + 1) 4 (.bool (lstOf pre (0, true)).2)) ∧ Below w.heap.size w W)
    (fun _ _ _ => False)
    (OwnFrom.and (OwnFrom.and (Own.from (boxed_own _ _ _) _) (Own.from (boxed_own _ _ _) _)) (ownFrom_below (Nat.le_refl _) (by omega)))
    (fun _ _ _ _ _ hs _ _ => hs)
    ⟨⟨bF, bE⟩, hB0⟩
    (fun x a' _ => a' = { tmps := #[.agg #[.map (some b)], .pointer (some ⟨w.heap.size, 0, none⟩), .int .i64 0, .pointer (some ⟨w.heap.size + 1, 0, none⟩), .pointer (some ⟨w.heap.size + 1 + 1, 0, none⟩), undef, .int .i64 (x.2.val : Nat), .agg #[.map (some b)], .func (.func 50) #[] #[.pointer (some ⟨w.heap.size + 1 + 1 + 1, 0, none⟩)], x.1.v, .int .i64 (x.2.val : Nat), undef, undef, undef, undef, undef, undef, undef, undef], defers := [] })
    (fun _ _ _ _ _ _ hs _ _ => hs)
    ?assign ?body ?done ?stop
  case assign =>
    rintro l pre x W K hi hK
    gi_wp2
    exact hK _ _ (KeepsFrom.refl _ _) (KeepB.refl _ _).walks hi rfl
  case body =>
    rintro l pre x a' W hl _ ⟨⟨bF1, bE1⟩, hB1⟩ rfl hlt
    have hx := x.2.isLt
    have hq := lstOf_lt pre (0, true) (by simp)
    have HS : Hid (lstOf (pre ++ [x]) (0, true) = _) := lstOf_snoc x pre (0, true)
    generalize lstOf pre (0, true) = q at *
    obtain ⟨q, e⟩ := q
    simp only [] at bF1 bE1 hq HS
    have cF := bF1.cell
    have cE := bE1.cell
    have fF := bF1.frozen
    have fE := bE1.frozen
    have bF2 := bF1.set (.int .i64 (x.2.val : Nat))
    have bE2 : Boxed (W.setCell ⟨w.heap.size + 1, 0, none⟩ (.int .i64 (x.2.val : Nat))) (w.heap.size + 1 + 1) 4 (.bool e) := bE1.other (by omega) _
    have cE2 := bE2.cell
    have fE2 := bE2.frozen
    have hput : ∀ (a0 : Act) (b0 : Bool), b0 = true → lstOf (pre ++ [x]) (0, true) = (if b0 then (x.2.val, false) else (q, e)) → ownPostG W0.heap.size (KeepW w.heap.size) (fun pre W => (Boxed W (w.heap.size + 1) 3 (.int .i64 ((lstOf pre (0, true)).1 : Nat)) ∧ Boxed W (w.heap.size + 1 + 1) 4 (.bool (lstOf pre (0, true)).2)) ∧ Below w.heap.size w W) (fun _ _ _ => False) (pre ++ [x]) W Exit.normal a0 ((W.setCell ⟨w.heap.size + 1, 0, none⟩ (.int .i64 (x.2.val : Nat))).setCell ⟨w.heap.size + 1 + 1, 0, none⟩ (.bool false)) := by
      intro a0 b0 hb he
      rw [hb, if_pos rfl] at he
      have k1 := (KeepsOthers.setCell W ⟨w.heap.size + 1, 0, none⟩ (.int .i64 (x.2.val : Nat))).trans (KeepsOthers.setCell _ ⟨w.heap.size + 1 + 1, 0, none⟩ (.bool false))
      refine ⟨k1.from _, ⟨k1.size, fun k o hk ho _ => k1.same k o hk (Obj.not_cells_of_walk ho)⟩, ?_⟩
      dsimp only []
      rw [he]
      exact ⟨⟨bF2.other (by omega) _, bE2.set _⟩, (hB1.setCell (p := ⟨w.heap.size + 1, 0, none⟩) (by simp) _).setCell (p := ⟨w.heap.size + 1 + 1, 0, none⟩) (by simp; omega) _⟩
    have HP : Hid (∀ (a0 : Act) (b0 : Bool), b0 = true → lstOf (pre ++ [x]) (0, true) = (if b0 then (x.2.val, false) else (q, e)) → ownPostG W0.heap.size (KeepW w.heap.size) (fun pre W => (Boxed W (w.heap.size + 1) 3 (.int .i64 ((lstOf pre (0, true)).1 : Nat)) ∧ Boxed W (w.heap.size + 1 + 1) 4 (.bool (lstOf pre (0, true)).2)) ∧ Below w.heap.size w W) (fun _ _ _ => False) (pre ++ [x]) W Exit.normal a0 ((W.setCell ⟨w.heap.size + 1, 0, none⟩ (.int .i64 (x.2.val : Nat))).setCell ⟨w.heap.size + 1 + 1, 0, none⟩ (.bool false))) := hput
    clear hput
    cases e with
    | true =>
      gi_wp2
      exact HP.out _ true rfl (by rw [HS.out]; rfl)
    | false =>
      by_cases hlt2 : x.2.val < q
      · have hltI : ((x.2.val : Nat) : Int) < (q : Int) := by omega
        gi_wp2
        exact HP.out _ true rfl (by rw [HS.out]; simp [hlt2])
      · have hltI : ¬ ((x.2.val : Nat) : Int) < (q : Int) := by omega
        gi_wp2
        refine ⟨KeepsFrom.refl _ _, (KeepB.refl _ _).walks, ?_⟩
        dsimp only []
        rw [show lstOf (pre ++ [x]) (0, true) = (q, false) by rw [HS.out]; simp [hlt2]]
        exact ⟨⟨bF1, bE1⟩, hB1⟩
  case done =>
    rintro D zs W hD hzs ⟨⟨bF1, bE1⟩, hB1⟩ hK
    have cF := bF1.cell
    gi_wp2
    refine ⟨by simp, .inl ⟨_, _, rfl, run_takeDeferred hK, ?_⟩⟩
    exact ⟨_, results_tmp rfl _ _ _, ⟨_, rfl, lst_least hT1 hzs h0⟩, hB1.trans (belowK_b (w := w) (Nat.le_refl _) W D _ _ (by omega) hK rfl rfl)⟩
  case stop =>
    rintro D c pre W _ _ h _
    exact h.elim
theorem tleast_any (H : Type) (b : Nat) (T : P3 → Option Nat) (hT1 : ∀ s x, T s = some x → x < 1024) (h0 : ∃ s x, T s = some x) (w : World) (hT : IsTab H w b T) :
    Calls Tryd.prog 30 #[.agg #[.map (some b)]] w fun e W' => (∃ x : Nat, e = .returned (.int .i64 x) ∧ LeastT T x) ∧ Below w.heap.size w W' := callsIn_wide.1 (tleast_in H 6 (Nat.le_refl _) b T hT1 h0 w hT)
end Pl
end Go.Proofs.YtnjfmlojbaigjaaDoor
