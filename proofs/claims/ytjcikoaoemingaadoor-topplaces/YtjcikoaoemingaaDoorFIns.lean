/- The walk of slices.Insert at rows of places: one block more. -/
import Derived.Test.YtjcikoaoemingaaDoorFRow
import Derived.Lib.Overlaps
import Derived.Laws.Externs
import Derived.Laws.IdiomCopy
import Derived.Lib.AppendZerosOnto
import Derived.Laws.NewBlocks
namespace Go.Proofs.YtjcikoaoemingaaDoor
open Go.RowKit Go.Sort

theorem run_copy_two {P : Program} (w : World) (dT sT ty elem : TypeId) (b o dLen dCap : Nat) (a : Addr) (sLen sCap : Nat) (cs : List Value)
    (hu : P.underlying dT = some (.slice elem)) (hs : (P.info? elem).map (·.size) = some 2) (k : Nat) (hk : k = Nat.min sLen dLen) (hn : cs.length = k * 2)
    (hsrc : ∀ j v, cs[j]? = some v → w.cell? (a.add j) = some v) (hc : ∀ j, j < cs.length → (w.cell? ⟨b, o + j, none⟩).isSome = true) (hf : ∀ j, j < cs.length → w.frozen? ⟨b, o + j, none⟩ = false) (h1 : ∀ v ∈ cs, v.oneCell' = true) :
    (Builtin.copy_ #[dT, sT] ty #[.slice (some ⟨b, o, none⟩) dLen dCap, .slice (some a) sLen sCap]).run P w = .ok (goInt k) (w.setCells b o cs) := by
  have hl := run_firstCells_some (P := P) w 2 k a sLen sCap cs hn hsrc
  have hst := run_storeCells_cells (P := P) b o cs 0 w (by simpa using hc) (by simpa using hf) h1
  simp only [Nat.add_zero] at hst
  cases hq : P.info? elem with
  | none => simp [hq] at hs
  | some i =>
    have hi : i.size = 2 := by simpa [hq] using hs
    simp [Builtin.copy_, run_underlying hu, Builtin.lenOf, sizeOf, typeInfo, hq, hi, ← hk, hl, hst]
theorem step_copy_as {P : Program} {ops : Array Oper} {o : Oper} {a : Act} {w : World} {K : Act → World → Prop} {Q : Exit → Act → World → Prop} {E : Prop}
    (hg : o.guard = none) (d x : Operand) (dT sT : TypeId) (hop : o.op = Op.call { callee := Callee.builtin Builtin.copy, args := #[d, x], argTypes := #[dT, sT] })
    (v u : Value) (hd : a.eval d = v) (hx : a.eval x = u) {v' : Value} {w' : World} (hr : (Builtin.copy_ #[dT, sT] o.type #[v, u]).run P w = .ok v' w') (hK : K (a.put o.dst v') w') :
    if Region.wanted o (yielded ops a.tmps) = true then Oper.wp P o a w K Q else E := by
  have hw : Region.wanted o (yielded ops a.tmps) = true := by simp [Region.wanted, hg]
  rw [if_pos hw]
  unfold Oper.wp
  simp [execOp, hop, resolve, invoke, builtin, hd, hx, hr, Result.andThen]
  exact hK
theorem wpList_copy_as {P : Program} (w : World) {ops : Array Oper} {rest : List Oper} {o : Oper} {a : Act} {Q : Exit → Act → World → Prop} (hgd : o.guard = none) (d s : Operand) (t t' : TypeId)
    (ho : o.op = .call { callee := .builtin .copy, args := #[d, s], argTypes := #[t, t'] }) (v u : Value) (hd : a.eval d = v) (hs : a.eval s = u) {v' : Value} {w' : World}
    (hr : (Builtin.copy_ #[t, t'] o.type #[v, u]).run P w = .ok v' w') (h : wpList P ops Q rest (a.put o.dst v') w') : wpList P ops Q (o :: rest) a w :=
  wpList_plain hgd fun _ hK => by
    unfold Oper.wp execOp
    simp only [ho, resolve, invoke, builtin, Sem.run_bind, Sem.run_pure, Result.andThen_ok, List.map_toArray, List.map_cons, List.map_nil, hd, hs, hr]
    exact hK _ _ h

/-- The list with a block more, at a place. -/
def insF (L : List (Nat × Nat)) (i q s : Nat) : List (Nat × Nat) := L.take i ++ (q, s) :: L.drop i
theorem insF_length {L : List (Nat × Nat)} {i : Nat} (hi : i ≤ L.length) (q s : Nat) : (insF L i q s).length = L.length + 1 := by
  unfold insF; simp; omega
theorem rowF_ins (L : List (Nat × Nat)) (i q s : Nat) : rowF (insF L i q s) = (rowF L).take (i * 2) ++ [.int .i64 (q : Nat), .int .i64 (s : Nat)] ++ (rowF L).drop (i * 2) := by
  unfold insF
  rw [rowF_append, rowF_take]
  show _ ++ ([_, _] ++ rowF (L.drop i)) = _
  rw [rowF_drop, List.append_assoc]

set_option maxHeartbeats 4000000 in
set_option maxRecDepth 1000000 in
theorem ins_shift (base g cap i q s X : Nat) (L : List (Nat × Nat)) (w : World) (hO : OwnF w base (.slice (some ⟨g, 0, none⟩) L.length cap) L) (hX : w.heap[X]? = some (.cells #[.int .i64 (q : Nat), .int .i64 (s : Nat)] 56 (0, 0))) (hne : X ≠ g)
    (hi : i < L.length) (hl : L.length ≤ 100) (hroom : L.length + 1 ≤ cap) :
    Calls Tryd.prog 29 #[.slice (some ⟨g, 0, none⟩) L.length cap, .int .i64 (i : Nat), .slice (some ⟨X, 0, none⟩) 1 1] w fun e w' => e = .returned (.slice (some ⟨g, 0, none⟩) (L.length + 1) cap) ∧ w' = (w.drew.setCells g ((i + 1) * 2) ((rowF L).drop (i * 2))).setCells g (i * 2) [.int .i64 (q : Nat), .int .i64 (s : Nat)] := by
  obtain ⟨cur, hg, hcm, hcs⟩ : ∃ cur, w.heap[g]? = some (.cells cur 56 (0, 0)) ∧ cap ≤ maxLen ∧ cur.size = cap * 2 := by
    rcases hO.2 with ⟨h0, _⟩ | ⟨g', cap', cur, hv, hb, hg, hn, hmx, hs, ht⟩
    · simp at h0
    · simp at hv
      obtain ⟨rfl, rfl⟩ := hv
      exact ⟨cur, hg, hmx, hs⟩
  have hov : ∀ lb cb, (callFunc 45 #[.slice (some ⟨X, 0, none⟩) 1 1, .slice (some ⟨g, (i + 1) * 2, none⟩) lb cb]).run Tryd.prog w = .ok (.value (.bool false)) w := fun lb cb => by
    rw [run_callFunc_extern Tryd.func45 (by kernel_rfl) (by kernel_rfl) (by kernel_rfl) (e := Extern.SlicesOverlaps.overlaps #[52, 52] #[4]) (by kernel_rfl),
      Lib.run_overlaps_apart w 52 4 56 Tryd.underlying52 2 Tryd.sizeOf56 ⟨X, 0, none⟩ ⟨g, (i + 1) * 2, none⟩ 1 1 lb cb hne 56 56 2 cur.size (by unfold World.shape?; rw [hX]; rfl) (by unfold World.shape?; rw [hg]) (by omega) (by unfold World.frozen?; rw [hX]; simp) (by unfold World.frozen?; rw [hX]; simp)]
    rfl
  have hrl := rowF_length L
  have hdl : ((rowF L).drop (i * 2)).length = (L.length - i) * 2 := by rw [List.length_drop, hrl]; omega
  have hsz : (Tryd.prog.info? 56).map (·.size) = some 2 := by
    obtain ⟨i0, h0, _, h2, _⟩ := info_parts Tryd.infoF
    rw [h0]; simp [h2]
  have hcell : ∀ j u, (rowF L)[j]? = some u → w.cell? ⟨g, j, none⟩ = some u := fun j u hj => by
    have hj2 : j < (rowF L).length := (List.getElem?_eq_some_iff.1 hj).1
    rw [World.ownsRow.cellAt hO j (by omega)]
    exact hj
  have hsp : ∀ j, j < cap * 2 → (w.cell? ⟨g, j, none⟩).isSome = true := fun j hj => by
    simp only [World.cell?, hg]
    rw [Array.getElem?_eq_getElem (by omega)]; rfl
  have hfz : ∀ j, w.frozen? ⟨g, j, none⟩ = false := fun j => World.ownsRow.frozenAt hO j
  have hcp1 : ∀ ty dc sc, (Builtin.copy_ #[52, 52] ty #[.slice (some ⟨g, (i + 1) * 2, none⟩) (L.length - i) dc, .slice (some ⟨g, i * 2, none⟩) (L.length + 1 - i) sc]).run Tryd.prog w.drew = .ok (goInt (L.length - i : Nat)) (w.drew.setCells g ((i + 1) * 2) ((rowF L).drop (i * 2))) := fun ty dc sc =>
    run_copy_two w.drew _ _ ty 56 g ((i + 1) * 2) (L.length - i) dc ⟨g, i * 2, none⟩ (L.length + 1 - i) sc _ Tryd.underlying52 hsz (L.length - i) (by simp only [Nat.min_def]; split <;> omega) hdl
      (fun j v hj => by rw [Addr.add_lit]; exact hcell _ v (by rwa [List.getElem?_drop] at hj))
      (fun j hj => hsp _ (by omega)) (fun j hj => hfz _) (fun v hv => rowF_one L v (List.mem_of_mem_drop hv))
  obtain ⟨W1, hW1⟩ : ∃ W1, W1 = w.drew.setCells g ((i + 1) * 2) ((rowF L).drop (i * 2)) := ⟨_, rfl⟩
  have hX1 : W1.heap[X]? = some (.cells #[.int .i64 (q : Nat), .int .i64 (s : Nat)] 56 (0, 0)) := by
    have R := row_puts ((rowF L).drop (i * 2)) ((i + 1) * 2) w.drew (rowF L) (show w.drew.ownsRow base 56 2 (.slice (some ⟨g, 0, none⟩) L.length cap) L.length (rowF L) from hO)
    rw [hW1, R.2.block X (Array.getElem?_eq_some_iff.1 hX).1 (by simpa using hne)]
    exact hX
  obtain ⟨cur1, hg1, hcs1⟩ : ∃ cur1, W1.heap[g]? = some (.cells cur1 56 (0, 0)) ∧ cur1.size = cap * 2 := by
    have R := row_puts ((rowF L).drop (i * 2)) ((i + 1) * 2) w.drew (rowF L) (show w.drew.ownsRow base 56 2 (.slice (some ⟨g, 0, none⟩) L.length cap) L.length (rowF L) from hO)
    rw [hW1]
    rcases R.1.2 with ⟨h0, _⟩ | ⟨g', cap', cur, hv, hb, hg, hn, hmx, hs, ht⟩
    · simp at h0
    · simp at hv
      obtain ⟨rfl, rfl⟩ := hv
      exact ⟨cur, hg, hs⟩
  have hcp2 : ∀ (W : World), (∀ x, W.cell? x = W1.cell? x) → (∀ x, W.frozen? x = W1.frozen? x) → ∀ ty dc, (Builtin.copy_ #[52, 52] ty #[.slice (some ⟨g, i * 2, none⟩) (L.length + 1 - i) dc, .slice (some ⟨X, 0, none⟩) 1 1]).run Tryd.prog W = .ok (goInt (1 : Nat)) (W.setCells g (i * 2) [.int .i64 (q : Nat), .int .i64 (s : Nat)]) := fun W hWc hWf ty dc =>
    run_copy_two W _ _ ty 56 g (i * 2) (L.length + 1 - i) dc ⟨X, 0, none⟩ 1 1 _ Tryd.underlying52 hsz 1 (by simp only [Nat.min_def]; split <;> omega) rfl
      (fun j v hj => by
        rw [Addr.add_lit, hWc]
        simp only [World.cell?, hX1]
        simpa using hj)
      (fun j hj => by
        have hj2 : j < 2 := hj
        rw [hWc]
        simp only [World.cell?, hg1]
        rw [Array.getElem?_eq_getElem (by omega)]; rfl)
      (fun j hj => by rw [hWf]; simp only [World.frozen?, hg1]; simp) (pair_cell _ _)
  rw [← hW1] at hcp1 ⊢
  unfold maxLen at hcm
  generalize hn : L.length = n at *
  have hz2 : ¬ ((i : Int) = (n : Int)) := by omega
  have hw1 : IntKind.i64.wrap ((i : Int) + 1) = (i : Int) + 1 := by rw [IntKind.wrap_i64]; omega
  have hb1 : (0 : Int) ≤ (i : Int) + 1 := by omega
  have htn : ((i : Int) + 1).toNat = i + 1 := by omega
  have hin : i ≤ n := by omega
  have hb2 : ¬ (cap = i + 1) := by omega
  have hb3 : (i : Int) ≤ (n : Int) + 1 := by omega
  have hb4 : ¬ (cap = i) := by omega
  clear hrl hdl hsz hcell hsp hfz hO hX hg hX1 hg1 hcs1 hcs hn
  go_enter Tryd.func29, Tryd.ntmps29
  go_wp2_with (simp only [hov])
  go_region_law (refine step_copy_as rfl _ _ 52 52 rfl _ _ (by simp [Act.eval, Act.put]) (by simp [Act.eval, Act.put]) (hcp1 _ _ _) ?_)
  go_wp2_with (at_builtin; refine wpList_copy_as _ rfl _ _ 52 52 rfl _ _ rfl rfl (hcp2 _ (fun _ => rfl) (fun _ => rfl) _ _) ?_)
  go_ret
  exact ⟨rfl, by rw [hW1]⟩

set_option maxHeartbeats 4000000 in
set_option maxRecDepth 1000000 in
theorem ins_grow (base g cap i q s X : Nat) (L : List (Nat × Nat)) (w : World) (hO : OwnF w base (.slice (some ⟨g, 0, none⟩) L.length cap) L) (hX : w.heap[X]? = some (.cells #[.int .i64 (q : Nat), .int .i64 (s : Nat)] 56 (0, 0)))
    (hi : i < L.length) (hl : L.length ≤ 100) (hroom : cap < L.length + 1) :
    Calls Tryd.prog 29 #[.slice (some ⟨g, 0, none⟩) L.length cap, .int .i64 (i : Nat), .slice (some ⟨X, 0, none⟩) 1 1] w fun e w' => e = .returned (.slice (some ⟨w.heap.size, 0, none⟩) (L.length + 1) (grownCap w (L.length + 1) cap 56)) ∧
      w' = (((w.alloc (.cells (((rowF L).take (i * 2)).toArray ++ Builtin.zeroCells (Value.agg #[.int .i64 0, .int .i64 0]).cells (L.length + 1 - i) ++ Builtin.zeroCells (Value.agg #[.int .i64 0, .int .i64 0]).cells (grownCap w (L.length + 1) cap 56 - (L.length + 1))) 56)).drew.setCells w.heap.size (i * 2) [.int .i64 (q : Nat), .int .i64 (s : Nat)]).drew).setCells w.heap.size ((i + 1) * 2) ((rowF L).drop (i * 2)) := by
  obtain ⟨i0, hi0, hz0, hzs, hzb⟩ := info_parts Tryd.infoF
  have hrl := rowF_length L
  have hsz : (Tryd.prog.info? 56).map (·.size) = some 2 := by rw [hi0]; simp [hzs]
  have hcell : ∀ j u, (rowF L)[j]? = some u → w.cell? ⟨g, j, none⟩ = some u := fun j u hj => by
    have hj2 : j < (rowF L).length := (List.getElem?_eq_some_iff.1 hj).1
    rw [World.ownsRow.cellAt hO j (by omega)]
    exact hj
  have hgw : g < w.heap.size := (World.ownsRow.lt hO g rfl).2
  have hnc : L.length ≤ cap := by
    obtain ⟨g', cap', hv, _, _, h, _⟩ := hO.block (by omega)
    simp at hv
    obtain ⟨_, rfl⟩ := hv
    exact h
  have hXw : X < w.heap.size := (Array.getElem?_eq_some_iff.1 hX).1
  have hold : (Builtin.firstCells i0.size i (.slice (some ⟨g, 0, none⟩) i cap)).run Tryd.prog w.drew = .ok ((rowF L).take (i * 2)).toArray w.drew := by
    rw [hzs]
    exact run_firstCells_some w.drew 2 i ⟨g, 0, none⟩ i cap _ (by rw [List.length_take]; omega) (fun j v hj => by
      rw [Addr.add_lit, Nat.zero_add]
      rw [List.getElem?_take] at hj
      split at hj
      · exact hcell j v hj
      · cases hj)
  have hik : i + (L.length + 1 - i) = L.length + 1 := by omega
  have hkk : (L.length : Int) + 1 - (i : Int) = ((L.length + 1 - i : Nat) : Int) := by omega
  have hrz : ∀ ty, (Builtin.append_ #[52, 3] ty #[.slice (some ⟨g, 0, none⟩) i cap, .int .i64 ((L.length : Int) + 1 - (i : Int))]).run Tryd.prog w =
      .ok (.slice (some ⟨w.heap.size, 0, none⟩) (L.length + 1) (grownCap w (L.length + 1) cap 56)) (w.drew.alloc (.cells (((rowF L).take (i * 2)).toArray ++ Builtin.zeroCells (Value.agg #[.int .i64 0, .int .i64 0]).cells (L.length + 1 - i) ++ Builtin.zeroCells (Value.agg #[.int .i64 0, .int .i64 0]).cells (grownCap w (L.length + 1) cap 56 - (L.length + 1))) 56)) := fun ty => by
    have h := Lib.run_append_grow_zeros w 52 3 ty 56 i0 _ .i64 .i64 Tryd.underlying52 Tryd.underlying3 hi0 hz0 (some ⟨g, 0, none⟩) i cap _ hold (L.length + 1 - i) (by omega) (by omega) (by omega) (by omega) (by rw [hzb]; omega) (by rw [hzb, hik]; exact growslice_fits hroom (by omega))
    rw [hik] at h
    rw [hkk]
    exact h
  obtain ⟨G, hG⟩ : ∃ G, G = grownCap w (L.length + 1) cap 56 := ⟨_, rfl⟩
  obtain ⟨ROW, hROW⟩ : ∃ ROW : Array Value, ROW = ((rowF L).take (i * 2)).toArray ++ Builtin.zeroCells (Value.agg #[.int .i64 0, .int .i64 0]).cells (L.length + 1 - i) ++ Builtin.zeroCells (Value.agg #[.int .i64 0, .int .i64 0]).cells (G - (L.length + 1)) := ⟨_, rfl⟩
  rw [← hG] at hrz ⊢
  rw [← hROW] at hrz ⊢
  have hRl : (L.length + 1) * 2 ≤ ROW.size := by
    rw [hROW, Array.size_append, Array.size_append, size_zeroCells, size_zeroCells, show (Value.agg #[.int .i64 0, .int .i64 0]).cells.size = 2 from rfl, List.size_toArray, List.length_take, hrl, Nat.min_eq_left (by omega)]
    omega
  obtain ⟨W1, hW1⟩ : ∃ W1, W1 = w.drew.alloc (.cells ROW 56) := ⟨_, rfl⟩
  rw [← hW1] at hrz
  have hN : ∀ j, j < (L.length + 1) * 2 → (W1.cell? ⟨w.heap.size, j, none⟩).isSome = true := fun j hj => by
    rw [hW1, World.cell?_alloc_at (w := w.drew) ROW _ w.heap.size j rfl, Array.getElem?_eq_getElem (by omega)]; rfl
  have hNf : ∀ j, W1.frozen? ⟨w.heap.size, j, none⟩ = false := fun j => by rw [hW1]; exact World.frozen?_alloc_at (w := w.drew) ROW _ w.heap.size j rfl
  have hOb : ∀ j v, w.cell? ⟨g, j, none⟩ = some v → W1.cell? ⟨g, j, none⟩ = some v := fun j v h => by rw [hW1, World.cell?_alloc_past (w := w.drew) _ g j hgw]; exact h
  have hOv : ∀ j v, [Value.int .i64 (q : Nat), .int .i64 (s : Nat)][j]? = some v → W1.cell? ⟨X, j, none⟩ = some v := fun j v h => by
    rw [hW1, World.cell?_alloc_past (w := w.drew) _ X j hXw]
    show w.cell? _ = _
    simp only [World.cell?, hX]
    simpa using h
  have hcpA : ∀ (W : World), (∀ x, W.cell? x = W1.cell? x) → (∀ x, W.frozen? x = W1.frozen? x) → ∀ ty dc, (Builtin.copy_ #[52, 52] ty #[.slice (some ⟨w.heap.size, i * 2, none⟩) (L.length + 1 - i) dc, .slice (some ⟨X, 0, none⟩) 1 1]).run Tryd.prog W = .ok (goInt (1 : Nat)) (W.setCells w.heap.size (i * 2) [.int .i64 (q : Nat), .int .i64 (s : Nat)]) := fun W hWc hWf ty dc =>
    run_copy_two W _ _ ty 56 w.heap.size (i * 2) (L.length + 1 - i) dc ⟨X, 0, none⟩ 1 1 _ Tryd.underlying52 hsz 1 (by simp only [Nat.min_def]; split <;> omega) rfl
      (fun j v hj => by rw [Addr.add_lit, Nat.zero_add, hWc]; exact hOv j v hj)
      (fun j hj => by have hj2 : j < 2 := hj; rw [hWc]; exact hN _ (by omega)) (fun j hj => by rw [hWf]; exact hNf _) (pair_cell _ _)
  have hGn : L.length + 1 ≤ G := by rw [hG]; exact grownCap_ge w _ _ _
  have hG63 : G ≤ 9223372036854775807 := by
    have := grownCap_le_maxLen w (L.length + 1) cap 56 (by unfold maxLen; omega)
    rw [← hG] at this
    unfold maxLen at this
    omega
  have hgN : g ≠ w.heap.size := by omega
  have hdl : ((rowF L).drop (i * 2)).length = (L.length - i) * 2 := by rw [List.length_drop, hrl]; omega
  have hS1 : ∀ k, k < (L.length + 1) * 2 → ((W1.setCells w.heap.size (i * 2) [.int .i64 (q : Nat), .int .i64 (s : Nat)]).cell? ⟨w.heap.size, k, none⟩).isSome = true := fun k hk => by
    by_cases hin : i * 2 ≤ k ∧ k < i * 2 + 2
    · have := World.cell?_setCells_in w.heap.size [.int .i64 (q : Nat), .int .i64 (s : Nat)] (i * 2) W1 (fun j hj => hN _ (by have hj2 : j < 2 := hj; omega)) (k - i * 2) (by show k - i * 2 < 2; omega)
      rw [show i * 2 + (k - i * 2) = k by omega] at this
      rw [this]; rfl
    · rw [World.cell?_setCells_out w.heap.size _ (i * 2) W1 ⟨w.heap.size, k, none⟩ (fun _ _ => by show k < i * 2 ∨ i * 2 + 2 ≤ k; omega)]
      exact hN k hk
  have hcpB : ∀ (W : World), (∀ x, W.cell? x = (W1.setCells w.heap.size (i * 2) [.int .i64 (q : Nat), .int .i64 (s : Nat)]).cell? x) → (∀ x, W.frozen? x = (W1.setCells w.heap.size (i * 2) [.int .i64 (q : Nat), .int .i64 (s : Nat)]).frozen? x) → ∀ ty dc sc, (Builtin.copy_ #[52, 52] ty #[.slice (some ⟨w.heap.size, (i + 1) * 2, none⟩) (L.length - i) dc, .slice (some ⟨g, i * 2, none⟩) (L.length - i) sc]).run Tryd.prog W = .ok (goInt (L.length - i : Nat)) (W.setCells w.heap.size ((i + 1) * 2) ((rowF L).drop (i * 2))) := fun W hWc hWf ty dc sc =>
    run_copy_two W _ _ ty 56 w.heap.size ((i + 1) * 2) (L.length - i) dc ⟨g, i * 2, none⟩ (L.length - i) sc _ Tryd.underlying52 hsz (L.length - i) (by simp only [Nat.min_def]; split <;> omega) hdl
      (fun j v hj => by
        rw [Addr.add_lit, hWc, World.cell?_setCells_out _ _ _ _ _ (fun h _ => absurd h hgN)]
        exact hOb _ v (hcell _ v (by rwa [List.getElem?_drop] at hj)))
      (fun j hj => by rw [hWc]; exact hS1 _ (by omega))
      (fun j hj => by rw [hWf, World.frozen?_setCells]; exact hNf _) (fun v hv => rowF_one L v (List.mem_of_mem_drop hv))
  subst hW1
  have hE1 : ∀ x, ((w.alloc (.cells ROW 56)).drew).cell? x = (w.drew.alloc (.cells ROW 56)).cell? x := fun x => rfl
  have hE2 : ∀ x, ((w.alloc (.cells ROW 56)).drew).frozen? x = (w.drew.alloc (.cells ROW 56)).frozen? x := fun x => rfl
  have hF1 : ∀ x, (((w.alloc (.cells ROW 56)).drew.setCells w.heap.size (i * 2) [.int .i64 (q : Nat), .int .i64 (s : Nat)]).drew).cell? x = ((w.drew.alloc (.cells ROW 56)).setCells w.heap.size (i * 2) [.int .i64 (q : Nat), .int .i64 (s : Nat)]).cell? x := fun x => rfl
  have hF2 : ∀ x, (((w.alloc (.cells ROW 56)).drew.setCells w.heap.size (i * 2) [.int .i64 (q : Nat), .int .i64 (s : Nat)]).drew).frozen? x = ((w.drew.alloc (.cells ROW 56)).setCells w.heap.size (i * 2) [.int .i64 (q : Nat), .int .i64 (s : Nat)]).frozen? x := fun x => rfl
  generalize hn : L.length = n at *
  have hz2 : ¬ ((i : Int) = (n : Int)) := by omega
  have hz3 : (cap : Int) < (n : Int) + 1 := by omega
  have hw1 : IntKind.i64.wrap ((i : Int) + 1) = (i : Int) + 1 := by rw [IntKind.wrap_i64]; omega
  have hb1 : (0 : Int) ≤ (i : Int) + 1 := by omega
  have hin : i ≤ n := by omega
  have htn : ((i : Int) + 1).toNat = i + 1 := by omega
  have hb3 : (i : Int) ≤ (n : Int) := by omega
  have hGi : ¬ (G = i) := by omega
  have hGim : ¬ (G = i + 1) := by omega
  have hci : ¬ (cap = i) := by omega
  clear hkk hik hold hROW hG hRl hrl hdl hcell hO hX hN hNf hOb hOv hS1 hn
  go_enter Tryd.func29, Tryd.ntmps29
  go_wp2_with (first
    | (at_builtin; refine Lib.wpList_append_run _ rfl _ _ _ _ rfl _ _ rfl rfl _ _ (hrz _) ?_)
    | (at_builtin; refine wpList_copy_as _ rfl _ _ 52 52 rfl _ _ rfl rfl (hcpA _ hE1 hE2 _ _) ?_)
    | (at_builtin; refine wpList_copy_as _ rfl _ _ 52 52 rfl _ _ rfl rfl (hcpB _ (fun _ => rfl) (fun _ => rfl) _ _ _) ?_))
  go_region_law (refine step_copy_as rfl _ _ 52 52 rfl (.slice (some ⟨w.heap.size, (i + 1) * 2, none⟩) (n - i) (G - (i + 1))) (.slice (some ⟨g, i * 2, none⟩) (n - i) (cap - i)) (by simp [Act.eval, Act.put]) (by simp [Act.eval, Act.put]) (hcpB _ hF1 hF2 3 (G - (i + 1)) (cap - i)) ?_)
  go_wp2
  go_ret
  exact ⟨rfl, rfl⟩
end Go.Proofs.YtjcikoaoemingaaDoor
