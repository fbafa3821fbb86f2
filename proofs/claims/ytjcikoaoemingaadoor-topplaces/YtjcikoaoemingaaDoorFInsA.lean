/- slices.Insert at rows of places: what is left, at whatever place, with room or without. -/
import Derived.Test.YtjcikoaoemingaaDoorFIns
namespace Go.Proofs.YtjcikoaoemingaaDoor
open Go.RowKit Go.Sort

theorem row_more {w : World} {base g n cap : Nat} {cs : List Value} (h : w.ownsRow base 56 2 (.slice (some ⟨g, 0, none⟩) n cap) n cs) (hr : n + 1 ≤ cap) : ∃ xs, w.ownsRow base 56 2 (.slice (some ⟨g, 0, none⟩) (n + 1) cap) (n + 1) xs ∧ xs.take (n * 2) = cs ∧ xs.length = (n + 1) * 2 := by
  rcases h.2 with ⟨h', _⟩ | ⟨g', cap', cur, h', hb, hg, hnc, hcm, hcs, ht⟩
  · simp at h'
  · simp only [Value.slice.injEq, Option.some.injEq, Addr.mk.injEq, and_true, true_and] at h'
    obtain ⟨rfl, rfl⟩ := h'
    have hl : (cur.toList.take ((n + 1) * 2)).length = (n + 1) * 2 := by rw [List.length_take, Array.length_toList]; omega
    refine ⟨cur.toList.take ((n + 1) * 2), ⟨hl, .inr ⟨g, cap, cur, rfl, hb, hg, hr, hcm, hcs, rfl⟩⟩, ?_, hl⟩
    rw [List.take_take, Nat.min_eq_left (by omega), ← ht]
theorem puts2_shift {xs cs : List Value} {n i : Nat} {p q : Value} (hx : xs.take (n * 2) = cs) (hl : xs.length = (n + 1) * 2) (hi : i < n) : puts (puts xs ((i + 1) * 2) (cs.drop (i * 2))) (i * 2) [p, q] = cs.take (i * 2) ++ [p, q] ++ cs.drop (i * 2) := by
  have hcl : cs.length = n * 2 := by rw [← hx, List.length_take]; omega
  have hdl : (cs.drop (i * 2)).length = (n - i) * 2 := by rw [List.length_drop]; omega
  have h1 : puts xs ((i + 1) * 2) (cs.drop (i * 2)) = xs.take ((i + 1) * 2) ++ cs.drop (i * 2) := by
    have h0 : xs.drop ((i + 1) * 2 + (cs.drop (i * 2)).length) = [] := List.drop_of_length_le (by omega)
    rw [puts_eq _ _ _ (by omega), h0, List.append_nil]
  have hl1 : (xs.take ((i + 1) * 2)).length = (i + 1) * 2 := by rw [List.length_take]; omega
  have hti : xs.take (i * 2) = cs.take (i * 2) := by rw [← hx, List.take_take, Nat.min_eq_left (by omega)]
  rw [h1, puts_eq _ _ _ (by rw [List.length_append]; simp; omega)]
  congr 1
  · congr 1
    rw [List.take_append_of_le_length (by omega), List.take_take, Nat.min_eq_left (by omega), hti]
  · rw [List.drop_append_of_le_length (by simp; omega), List.drop_of_length_le (by simp; omega), List.nil_append]
theorem puts2_grow {xs cs : List Value} {n i : Nat} {p q : Value} (hx : xs.take (i * 2) = cs.take (i * 2)) (hcl : cs.length = n * 2) (hl : xs.length = (n + 1) * 2) (hi : i < n) : puts (puts xs (i * 2) [p, q]) ((i + 1) * 2) (cs.drop (i * 2)) = cs.take (i * 2) ++ [p, q] ++ cs.drop (i * 2) := by
  have hdl : (cs.drop (i * 2)).length = (n - i) * 2 := by rw [List.length_drop]; omega
  have hti : (cs.take (i * 2)).length = i * 2 := by rw [List.length_take]; omega
  have h1 : puts xs (i * 2) [p, q] = (cs.take (i * 2) ++ [p, q]) ++ xs.drop (i * 2 + 2) := by
    rw [puts_eq _ _ _ (by simp; omega), hx]; rfl
  have hl1 : (cs.take (i * 2) ++ [p, q]).length = (i + 1) * 2 := by rw [List.length_append, hti]; show i * 2 + 2 = _; omega
  have hl2 : (cs.take (i * 2) ++ [p, q] ++ xs.drop (i * 2 + 2)).length = (n + 1) * 2 := by rw [List.length_append, List.length_drop]; omega
  have h0 : (cs.take (i * 2) ++ [p, q] ++ xs.drop (i * 2 + 2)).drop ((i + 1) * 2 + (cs.drop (i * 2)).length) = [] := List.drop_of_length_le (by omega)
  rw [h1, puts_eq _ _ _ (by omega), h0, List.append_nil]
  congr 1
  rw [List.take_append_of_le_length (by omega), List.take_of_length_le (by omega)]

set_option maxHeartbeats 2000000 in
set_option maxRecDepth 100000 in
theorem ins_end (base q s X : Nat) (v : Value) (L : List (Nat × Nat)) (w : World) (hB : base ≤ w.heap.size) (hO : OwnF w base v L) (hX : w.heap[X]? = some (.cells #[.int .i64 (q : Nat), .int .i64 (s : Nat)] 56 (0, 0))) (hl : L.length ≤ 100) :
    Calls Tryd.prog 29 #[v, .int .i64 (L.length : Nat), .slice (some ⟨X, 0, none⟩) 1 1] w fun e w' => ∃ v', e = .returned v' ∧ OwnF w' base v' (L ++ [(q, s)]) ∧ w.grownBy w' v.ownBlock := by
  obtain ⟨i0, hi0, hz0, hz1, hz2⟩ := info_parts Tryd.infoF
  have HI0 : Hid (Tryd.prog.info? 56 = some i0 ∧ i0.zero = some (.agg #[.int .i64 0, .int .i64 0]) ∧ i0.size = 2 ∧ i0.bytes = 16) := ⟨hi0, hz0, hz1, hz2⟩
  clear hi0 hz0 hz1 hz2
  have HE : Hid (∀ v' w', w'.ownsRow base 56 2 v' (L.length + 1) (rowF L ++ [.int .i64 (q : Nat), .int .i64 (s : Nat)]) → OwnF w' base v' (L ++ [(q, s)])) := fun v' w' h => by
    unfold OwnF
    rw [List.length_append, rowF_append]
    exact h
  have HC : Hid (∀ j u, [Value.int .i64 (q : Nat), .int .i64 (s : Nat)][j]? = some u → w.cell? (Addr.add ⟨X, 0, none⟩ j) = some u) := fun j u hj => by
    rw [Addr.add_lit, Nat.zero_add]
    simp only [World.cell?, hX]
    simpa using hj
  have HO : Hid (OwnF w base v L) := hO
  rcases hO.2 with ⟨rfl, h0⟩ | ⟨g, cap, cur, rfl, _, _, hn, hm, _⟩
  · have : L = [] := List.eq_nil_of_length_eq_zero h0
    subst this
    clear h0 hX hO
    rw [show (([] : List (Nat × Nat)).length : Int) = 0 from rfl]
    go_enter Tryd.func29, Tryd.ntmps29
    go_wp2_with (at_builtin; go_must (refine wpList_append_own _ rfl _ _ 52 rfl base 56 i0 (.agg #[.int .i64 0, .int .i64 0]) 2 16 Tryd.underlying52 HI0.out.1 HI0.out.2.1 HI0.out.2.2.1 HI0.out.2.2.2 rfl (by decide) _ 0 [] rfl HO.out ⟨X, 0, none⟩ 1 1 [.int .i64 (q : Nat), .int .i64 (s : Nat)] rfl rfl HC.out (pair_cell _ _) (by unfold maxLen; omega) (by omega) hB ?_; intro v4 w4 hown' hgrow _))
    go_ret
    exact ⟨_, rfl, HE.out _ _ hown', hgrow⟩
  · unfold maxLen at hm
    clear hX hO
    generalize hn' : L.length = n at *
    have HN : Hid (L.length = n) := hn'
    clear hn'
    go_enter Tryd.func29, Tryd.ntmps29
    go_wp2_with (at_builtin; go_must (refine wpList_append_own _ rfl _ _ 52 rfl base 56 i0 (.agg #[.int .i64 0, .int .i64 0]) 2 16 Tryd.underlying52 HI0.out.1 HI0.out.2.1 HI0.out.2.2.1 HI0.out.2.2.2 rfl (by decide) _ n (rowF L) rfl (HO.out.rows HN.out rfl) ⟨X, 0, none⟩ 1 1 [.int .i64 (q : Nat), .int .i64 (s : Nat)] rfl rfl HC.out (pair_cell _ _) (by unfold maxLen; omega) (by omega) hB ?_; intro v4 w4 hown' hgrow _))
    all_goals
      go_ret
      exact ⟨_, rfl, HE.out _ _ hown', hgrow⟩

theorem insertF_any (base q s X i : Nat) (v : Value) (L : List (Nat × Nat)) (w : World) (hB : base ≤ w.heap.size) (hO : OwnF w base v L) (hX : w.heap[X]? = some (.cells #[.int .i64 (q : Nat), .int .i64 (s : Nat)] 56 (0, 0))) (hXv : v.ownBlock ≠ some X) (hi : i ≤ L.length) (hl : L.length ≤ 100) :
    Calls Tryd.prog 29 #[v, .int .i64 (i : Nat), .slice (some ⟨X, 0, none⟩) 1 1] w fun e w' => ∃ v', e = .returned v' ∧ OwnF w' base v' (insF L i q s) ∧ w.grownBy w' v.ownBlock := by
  by_cases hin : i = L.length
  · subst hin
    refine (ins_end base q s X v L w hB hO hX hl).mono ?_
    rintro e w' ⟨v', rfl, h1, h2⟩
    refine ⟨v', rfl, ?_, h2⟩
    unfold insF
    rw [List.take_length, List.drop_length]
    exact h1
  · have hin2 : i < L.length := by omega
    have hil := insF_length hi q s
    have hrl := rowF_length L
    rcases hO.2 with ⟨_, h0⟩ | ⟨g, cap, cur, rfl, hb, hg, hn, hm, hs, ht⟩
    · omega
    · have hne : X ≠ g := fun e => hXv (by rw [e]; rfl)
      by_cases hroom : L.length + 1 ≤ cap
      · obtain ⟨xs, hx1, hx2, hx3⟩ := row_more hO hroom
        refine (ins_shift base g cap i q s X L w hO hX hne hin2 hl hroom).mono ?_
        rintro e w' ⟨rfl, rfl⟩
        have R1 := row_puts ((rowF L).drop (i * 2)) ((i + 1) * 2) w.drew xs hx1
        have R2 := row_puts [.int .i64 (q : Nat), .int .i64 (s : Nat)] (i * 2) _ _ R1.1
        refine ⟨_, rfl, ownF_of R2.1 ?_ hil.symm, ?_⟩
        · rw [puts2_shift hx2 hx3 hin2, rowF_ins]
        · exact grown_trans (a := w) ⟨R1.2.os, R1.2.tape, R1.2.output, R1.2.size, R1.2.block⟩ R2.2
      · refine (ins_grow base g cap i q s X L w hO hX hin2 hl (by omega)).mono ?_
        rintro e w' ⟨rfl, rfl⟩
        have hcc := grownCap_ge w (L.length + 1) cap 56
        have hgm := grownCap_le_maxLen w (L.length + 1) cap 56 (by unfold maxLen; omega)
        generalize hbig : ((rowF L).take (i * 2)).toArray ++ Builtin.zeroCells (Value.agg #[.int .i64 0, .int .i64 0]).cells (L.length + 1 - i) ++ Builtin.zeroCells (Value.agg #[.int .i64 0, .int .i64 0]).cells (grownCap w (L.length + 1) cap 56 - (L.length + 1)) = big
        have hbs : big.size = grownCap w (L.length + 1) cap 56 * 2 := by
          rw [← hbig, Array.size_append, Array.size_append, size_zeroCells, size_zeroCells, show (Value.agg #[.int .i64 0, .int .i64 0]).cells.size = 2 from rfl, List.size_toArray, List.length_take, hrl, Nat.min_eq_left (by omega)]
          omega
        have hbz : big.toList.length = big.size := Array.length_toList
        have hb0 : (w.alloc (.cells big 56)).ownsRow base 56 2 (.slice (some ⟨w.heap.size, 0, none⟩) (L.length + 1) (grownCap w (L.length + 1) cap 56)) (L.length + 1) (big.toList.take ((L.length + 1) * 2)) :=
          ⟨by rw [List.length_take, hbz]; omega, .inr ⟨w.heap.size, _, big, rfl, hB, heap_alloc_new _ _, hcc, hgm, by omega, rfl⟩⟩
        have hbt : (big.toList.take ((L.length + 1) * 2)).take (i * 2) = (rowF L).take (i * 2) := by
          rw [List.take_take, Nat.min_eq_left (by omega), ← hbig, Array.toList_append, Array.toList_append, List.append_assoc, List.take_append_of_le_length (by simp; omega), List.take_of_length_le (by simp; omega)]
        have R1 := row_puts [.int .i64 (q : Nat), .int .i64 (s : Nat)] (i * 2) (w.alloc (.cells big 56)).drew _ hb0
        have R2 := row_puts ((rowF L).drop (i * 2)) ((i + 1) * 2) (((w.alloc (.cells big 56)).drew.setCells w.heap.size (i * 2) [.int .i64 (q : Nat), .int .i64 (s : Nat)]).drew) _ R1.1
        have hG : (w.alloc (.cells big 56)).grownBy ((((w.alloc (.cells big 56)).drew.setCells w.heap.size (i * 2) [.int .i64 (q : Nat), .int .i64 (s : Nat)]).drew).setCells w.heap.size ((i + 1) * 2) ((rowF L).drop (i * 2))) (some w.heap.size) :=
          grown_trans (a := w.alloc (.cells big 56)) (b := ((w.alloc (.cells big 56)).drew.setCells w.heap.size (i * 2) [.int .i64 (q : Nat), .int .i64 (s : Nat)]).drew) ⟨R1.2.os, R1.2.tape, R1.2.output, R1.2.size, R1.2.block⟩ R2.2
        refine ⟨_, rfl, ownF_of R2.1 ?_ hil.symm, ?_⟩
        · rw [puts2_grow hbt hrl (by rw [List.length_take, hbz]; omega) hin2, rowF_ins]
        · have hA := World.grownBy_alloc w (.cells big 56) none
          refine ⟨hG.os.trans hA.os, hG.tape.trans hA.tape, hG.output.trans hA.output, Nat.le_trans hA.size hG.size, fun k hk _ => ?_⟩
          rw [hG.block k (Nat.lt_of_lt_of_le hk hA.size) (by intro e; injection e with e; omega)]
          exact hA.block k hk (by simp)
end Go.Proofs.YtjcikoaoemingaaDoor
