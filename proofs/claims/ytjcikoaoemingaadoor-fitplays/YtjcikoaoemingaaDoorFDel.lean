/- The walk of slices.Delete at rows of places: one of them. -/
import Derived.Test.YtjcikoaoemingaaDoorFRow
namespace Go.Proofs.YtjcikoaoemingaaDoor
set_option maxRecDepth 100000
open Go.RowKit Go.Sort

theorem two_behind {w : World} {base g n cap : Nat} {xs : List Value} (h : w.ownsRow base 56 2 (.slice (some ⟨g, 0, none⟩) n cap) n xs) (hn : n + 1 ≤ cap) : ∀ j, j < 2 → (w.cell? ⟨g, n * 2 + j, none⟩).isSome = true := by
  intro j hj
  rcases h.2 with ⟨h0, _⟩ | ⟨g', cap', cur, hv, hb, hg, hn', hmx, hs, ht⟩
  · simp at h0
  · simp at hv
    obtain ⟨rfl, rfl⟩ := hv
    have hlt : n * 2 + j < cur.size := by omega
    simp [World.cell?, hg, hlt]
theorem behind_set {w : World} {base g n cap : Nat} {xs : List Value} (h : w.ownsRow base 56 2 (.slice (some ⟨g, 0, none⟩) n cap) n xs) (x y : Value) :
    (w.setCells g (n * 2) [x, y]).ownsRow base 56 2 (.slice (some ⟨g, 0, none⟩) n cap) n xs ∧ w.grownBy (w.setCells g (n * 2) [x, y]) (some g) := by
  have R := row_puts [x, y] (n * 2) w xs h
  have hl := h.1
  have e1 : xs.set (n * 2) x = xs := List.set_eq_of_length_le (by omega)
  have e2 : xs.set (n * 2 + 1) y = xs := List.set_eq_of_length_le (by omega)
  have e : puts xs (n * 2) [x, y] = xs := by simp [puts, e1, e2]
  rw [e] at R
  exact R

set_option maxHeartbeats 4000000 in
set_option maxRecDepth 1000000 in
theorem deleteF_any (base g cap i j : Nat) (t : List (Nat × Nat)) (w : World) (hO : OwnF w base (.slice (some ⟨g, 0, none⟩) t.length cap) t) (hi : i < t.length) (hj : j = i + 1) (ht : t.length ≤ 100) (hlc : t.length ≤ cap) :
    Calls Tryd.prog 35 #[.slice (some ⟨g, 0, none⟩) t.length cap, .int .i64 i, .int .i64 j] w fun e w' => e = .returned (.slice (some ⟨g, 0, none⟩) (t.length - 1) cap) ∧ OwnF w' base (.slice (some ⟨g, 0, none⟩) (t.length - 1) cap) (t.eraseIdx i) ∧ w.grownBy w' (some g) := by
  obtain ⟨i0, hi0, hz0, hz1, hz2⟩ := info_parts Tryd.infoF
  have HI : Hid (Tryd.prog.info? 56 = some i0 ∧ i0.zero = some (.agg #[.int .i64 0, .int .i64 0]) ∧ i0.size = 2 ∧ i0.bytes = 16) := ⟨hi0, hz0, hz1, hz2⟩
  clear hi0 hz0 hz1 hz2
  have HC : Hid (w.drew.ownsRow base 56 2 (.slice (some ⟨g, 0, none⟩) i cap) i (rowF (t.take i))) := hO.cut (Nat.le_of_lt hi)
  have HN : Hid ((rowF (t.drop j)).length = (t.length - j) * 2) := by unfold Hid; rw [rowF_length, List.length_drop]
  have H1 : Hid (∀ u ∈ rowF (t.drop j), u.oneCell' = true) := rowF_one _
  obtain ⟨A, hA, hsrc⟩ : ∃ A : Addr, (if cap = j then some (⟨g, 0, none⟩ : Addr) else some ⟨g, j * 2, none⟩) = some A ∧ Hid (∀ k u, (rowF (t.drop j))[k]? = some u → w.drew.cell? (A.add k) = some u) := by
    by_cases h : cap = j
    · refine ⟨⟨g, 0, none⟩, by simp [h], fun k u hu => ?_⟩
      rw [List.drop_eq_nil_of_le (by omega)] at hu
      simp [rowF] at hu
    · refine ⟨⟨g, j * 2, none⟩, by simp [h], fun k u hu => ?_⟩
      have hk : k < (rowF (t.drop j)).length := (List.getElem?_eq_some_iff.1 hu).1
      rw [HN.out] at hk
      rw [rowF_drop, List.getElem?_drop] at hu
      rw [Addr.add_lit]
      have := World.ownsRow.cellAt hO (j * 2 + k) (by omega)
      exact this.trans hu
  have HE : Hid (rowF (t.take i) ++ rowF (t.drop j) = rowF (t.eraseIdx i)) := by unfold Hid; rw [← rowF_append, hj, ← List.eraseIdx_eq_take_drop_succ]
  have HL : Hid ((t.eraseIdx i).length = t.length - 1) := by unfold Hid; rw [List.length_eraseIdx, if_pos hi]
  have hcm63 : cap ≤ maxLen := by
    obtain ⟨g', cap', hv, _, _, _, h⟩ := hO.block (by omega)
    simp at hv
    obtain ⟨_, rfl⟩ := hv
    exact h
  unfold maxLen at hcm63
  obtain ⟨m, hm⟩ : ∃ m, t.length = m + 1 := ⟨t.length - 1, by omega⟩
  rw [hm] at hi ht hlc HN HL ⊢
  simp only [Nat.add_sub_cancel] at HL ⊢
  rw [show m + 1 - j = m - i by omega] at HN
  have hic : i ≤ cap := by omega
  have hjc : j ≤ cap := by omega
  have hij : i < j := by omega
  have hjm : j ≤ m + 1 := by omega
  have hd : m + 1 - j = m - i := by omega
  have hjz : (j : Int) ≤ (m : Int) + 1 := by omega
  have hcm : ¬ cap = m := by omega
  have hmc : m ≤ cap := by omega
  have HM : Hid (i + (m - i) = m) := by unfold Hid; omega
  have hne : ((i : Int) == (j : Int)) = false := by simp; omega
  clear hO hm hj
  have hz := Tryd.zeroValue56
  go_enter Tryd.func35, Tryd.ntmps35
  go_wp2_with fail
  go_region_law (refine step_append_room rfl (.tmp 22) (.tmp 25) 52 rfl base 56 i0 2 Tryd.underlying52 HI.out.1 HI.out.2.2.1 g i cap (rowF (t.take i)) (by simp [Act.eval, Act.put]) HC.out A (m - i) (cap - j) (rowF (t.drop j)) (by simp [Act.eval, Act.put]) HN.out hsrc.out H1.out (by omega) ?_; intro w1 hown1 hgrow1; rw [HM.out, HE.out] at *; have HR : Hid (w1.ownsRow base 56 2 (.slice (some ⟨g, 0, none⟩) m cap) m (rowF (t.eraseIdx i))) := hown1; have HG : Hid (w.drew.grownBy w1 (some g)) := hgrow1; clear hown1 hgrow1)
  have hcl : ∀ ty, (Builtin.clear_ #[52] ty #[.slice (some ⟨g, m * 2, none⟩) 1 (cap - m)]).run Tryd.prog w1 = .ok (.tuple #[]) (w1.setCells g (m * 2) [.int .i64 0, .int .i64 0]) :=
    fun ty => clear_pair w1 _ 56 ty _ _ Tryd.underlying52 hz rfl rfl g (m * 2) _ (two_behind HR.out (by omega)) (fun j _ => World.ownsRow.frozenAt HR.out _)
  go_wp2
  go_ret
  have S := behind_set HR.out (.int .i64 0) (.int .i64 0)
  refine ⟨rfl, ?_, ?_⟩
  · unfold OwnF; rw [HL.out]; exact S.1
  · exact ⟨S.2.os.trans HG.out.os, S.2.tape.trans HG.out.tape, S.2.output.trans HG.out.output, Nat.le_trans HG.out.size S.2.size, fun k hk hr => (S.2.block k (Nat.lt_of_lt_of_le hk HG.out.size) hr).trans (HG.out.block k hk hr)⟩
end Go.Proofs.YtjcikoaoemingaaDoor
