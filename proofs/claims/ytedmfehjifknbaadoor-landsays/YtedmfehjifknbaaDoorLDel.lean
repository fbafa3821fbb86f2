/- The walk of slices.Delete at tenants: one of them. -/
import Derived.Test.YtedmfehjifknbaaDoorTenS
namespace Go.Proofs.YtedmfehjifknbaaDoor
set_option maxRecDepth 100000
open Go.RowKit Go.Sort

/-- clear of the one that is behind. -/
theorem clear_two {P : Program} (w : World) (t e ty : TypeId) (x y : Value) (ht : P.underlying t = some (.slice e)) (hv : ∀ w, (zeroValue e).run P w = .ok (.agg #[x, y]) w) (hx : x.oneCell' = true) (hy : y.oneCell' = true) (b o c : Nat)
    (hc : ∀ j, j < 2 → (w.cell? ⟨b, o + j, none⟩).isSome = true) (hf : ∀ j, j < 2 → w.frozen? ⟨b, o + j, none⟩ = false) :
    (Builtin.clear_ #[t] ty #[.slice (some ⟨b, o, none⟩) 1 c]).run P w = .ok (.tuple #[]) (w.setCells b o [x, y]) := by
  have hzc : (Builtin.zeroCells (Value.agg #[x, y]).cells 1).toList = [x, y] := by
    simp [Builtin.zeroCells, Value.cells, List.range, List.range.loop]
  have hst := run_storeCells_cells (P := P) b o [x, y] 0 w (by simpa using hc) (by simpa using hf) (by intro v hv'; simp at hv'; rcases hv' with rfl | rfl <;> assumption)
  simp only [Nat.add_zero] at hst
  simp [Builtin.clear_, run_underlying ht, hv, hzc, hst]
theorem two_cells {w : World} {base g n cap : Nat} {xs : List Value} (h : w.ownsRow base 48 2 (.slice (some ⟨g, 0, none⟩) n cap) n xs) (hn : n + 1 ≤ cap) : ∀ j, j < 2 → (w.cell? ⟨g, n * 2 + j, none⟩).isSome = true := by
  intro j hj
  rcases h.2 with ⟨h0, _⟩ | ⟨g', cap', cur, hv, hb, hg, hn', hmx, hs, ht⟩
  · simp at h0
  · simp at hv
    obtain ⟨rfl, rfl⟩ := hv
    have hlt : n * 2 + j < cur.size := by omega
    simp [World.cell?, hg, hlt]
theorem set_behind {w : World} {base g n cap : Nat} {xs : List Value} (h : w.ownsRow base 48 2 (.slice (some ⟨g, 0, none⟩) n cap) n xs) (x y : Value) :
    (w.setCells g (n * 2) [x, y]).ownsRow base 48 2 (.slice (some ⟨g, 0, none⟩) n cap) n xs ∧ w.grownBy (w.setCells g (n * 2) [x, y]) (some g) := by
  have h1 := World.ownsRow.stored h (n * 2) x
  have h2 := World.ownsRow.stored h1.1 (n * 2 + 1) y
  have hl := h.1
  have e1 : xs.set (n * 2) x = xs := List.set_eq_of_length_le (by omega)
  have e2 : xs.set (n * 2 + 1) y = xs := List.set_eq_of_length_le (by omega)
  rw [e1, e2] at h2
  have e : w.setCells g (n * 2) [x, y] = (w.setCell ⟨g, n * 2, none⟩ x).setCell ⟨g, n * 2 + 1, none⟩ y := by
    simp [World.setCells]
  rw [e]
  exact ⟨h2.1, ⟨h2.2.os.trans h1.2.os, h2.2.tape.trans h1.2.tape, h2.2.output.trans h1.2.output, Nat.le_trans h1.2.size h2.2.size, fun i hi hr => (h2.2.block i (Nat.lt_of_lt_of_le hi h1.2.size) hr).trans (h1.2.block i hi hr)⟩⟩

set_option maxHeartbeats 4000000 in
set_option maxRecDepth 1000000 in
theorem tdel_any (base g cap i j : Nat) (t : List (Int × Nat)) (w : World) (hO : OwnT w base (.slice (some ⟨g, 0, none⟩) t.length cap) t) (hi : i < t.length) (hj : j = i + 1) (ht : t.length ≤ 8) (hlc : t.length ≤ cap) :
    Calls Tryd.prog 32 #[.slice (some ⟨g, 0, none⟩) t.length cap, .int .i64 i, .int .i64 j] w fun e w' => e = .returned (.slice (some ⟨g, 0, none⟩) (t.length - 1) cap) ∧ OwnT w' base (.slice (some ⟨g, 0, none⟩) (t.length - 1) cap) (t.eraseIdx i) ∧ w.grownBy w' (some g) := by
  obtain ⟨i0, hi0, hz0, hz1, hz2⟩ := info_parts Tryd.infoT
  have HI : Hid (Tryd.prog.info? 48 = some i0 ∧ i0.zero = some (.agg #[.int .i64 0, .int .i64 0]) ∧ i0.size = 2 ∧ i0.bytes = 16) := ⟨hi0, hz0, hz1, hz2⟩
  clear hi0 hz0 hz1 hz2
  have HC : Hid (w.drew.ownsRow base 48 2 (.slice (some ⟨g, 0, none⟩) i cap) i (rowT (t.take i))) := hO.cut (Nat.le_of_lt hi)
  have HN : Hid ((rowT (t.drop j)).length = (t.length - j) * 2) := by unfold Hid; rw [rowT_length, List.length_drop]
  have H1 : Hid (∀ u ∈ rowT (t.drop j), u.oneCell' = true) := rowT_one _
  obtain ⟨A, hA, hsrc⟩ : ∃ A : Addr, (if cap = j then some (⟨g, 0, none⟩ : Addr) else some ⟨g, j * 2, none⟩) = some A ∧ Hid (∀ k u, (rowT (t.drop j))[k]? = some u → w.drew.cell? (A.add k) = some u) := by
    by_cases h : cap = j
    · refine ⟨⟨g, 0, none⟩, by simp [h], fun k u hu => ?_⟩
      rw [List.drop_eq_nil_of_le (by omega)] at hu
      simp [rowT] at hu
    · refine ⟨⟨g, j * 2, none⟩, by simp [h], fun k u hu => ?_⟩
      have hk : k < (rowT (t.drop j)).length := (List.getElem?_eq_some_iff.1 hu).1
      rw [HN.out] at hk
      rw [rowT_drop, List.getElem?_drop] at hu
      rw [Addr.add_lit]
      have := World.ownsRow.cellAt hO (j * 2 + k) (by omega)
      exact this.trans hu
  have HE : Hid (rowT (t.take i) ++ rowT (t.drop j) = rowT (t.eraseIdx i)) := by unfold Hid; rw [← rowT_append, hj, ← List.eraseIdx_eq_take_drop_succ]
  have HL : Hid ((t.eraseIdx i).length = t.length - 1) := by unfold Hid; rw [List.length_eraseIdx, if_pos hi]
  obtain ⟨m, hm⟩ : ∃ m, t.length = m + 1 := ⟨t.length - 1, by omega⟩
  rw [hm] at hi ht hlc HN HL ⊢
  simp only [Nat.add_sub_cancel] at HL ⊢
  rw [show m + 1 - j = m - i by omega] at HN
  have hic : i ≤ cap := by omega
  have hjc : j ≤ cap := by omega
  have hij : i < j := by omega
  have hjm : j ≤ m + 1 := by omega
  have hd : m + 1 - j = m - i := by omega
  have hjz : (j : Int) ≤ (m : Int) + 1 := by omega
  have hcm : ¬ cap = m := by omega
  have hmc : m ≤ cap := by omega
  have HM : Hid (i + (m - i) = m) := by unfold Hid; omega
  have hne : ((i : Int) == (j : Int)) = false := by simp; omega
  clear hO hm hj
  have hz := Tryd.zeroValue48
  go_enter Tryd.func32, Tryd.ntmps32
  go_wp2_with fail
  go_region_law (refine step_append_spare rfl (.tmp 22) (.tmp 25) 45 rfl base 48 i0 2 Tryd.underlying45 HI.out.1 HI.out.2.2.1 g i cap (rowT (t.take i)) (by simp [Act.eval, Act.put]) HC.out A (m - i) (cap - j) (rowT (t.drop j)) (by simp [Act.eval, Act.put]) HN.out hsrc.out H1.out (by omega) ?_; intro w1 hown1 hgrow1; rw [HM.out, HE.out] at *; have HR : Hid (w1.ownsRow base 48 2 (.slice (some ⟨g, 0, none⟩) m cap) m (rowT (t.eraseIdx i))) := hown1; have HG : Hid (w.drew.grownBy w1 (some g)) := hgrow1; clear hown1 hgrow1)
  have hcl : ∀ ty, (Builtin.clear_ #[45] ty #[.slice (some ⟨g, m * 2, none⟩) 1 (cap - m)]).run Tryd.prog w1 = .ok (.tuple #[]) (w1.setCells g (m * 2) [.int .i64 0, .int .i64 0]) :=
    fun ty => clear_two w1 _ 48 ty _ _ Tryd.underlying45 hz rfl rfl g (m * 2) _ (two_cells HR.out (by omega)) (fun j _ => World.ownsRow.frozenAt HR.out _)
  go_wp2
  go_ret
  have S := set_behind HR.out (.int .i64 0) (.int .i64 0)
  refine ⟨rfl, ?_, ?_⟩
  · unfold OwnT; rw [HL.out]; exact S.1
  · exact ⟨S.2.os.trans HG.out.os, S.2.tape.trans HG.out.tape, S.2.output.trans HG.out.output, Nat.le_trans HG.out.size S.2.size, fun k hk hr => (S.2.block k (Nat.lt_of_lt_of_le hk HG.out.size) hr).trans (HG.out.block k hk hr)⟩
end Go.Proofs.YtedmfehjifknbaaDoor
