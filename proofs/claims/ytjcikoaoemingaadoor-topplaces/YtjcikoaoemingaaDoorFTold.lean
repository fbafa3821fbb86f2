/- The walk of told: where rows of places begin, and their sizes. -/
import Derived.Test.YtjcikoaoemingaaDoorFRow
import Derived.Test.YtjcikoaoemingaaDoorTri
import Derived.Test.YtjcikoaoemingaaDoorArI
namespace Go.Proofs.YtjcikoaoemingaaDoor
open Go.RowKit Go.Sort

theorem atsI_take_succ {L : List (Nat × Nat)} {k : Nat} (hk : k < L.length) : atsI (L.take (k+1)) = atsI (L.take k) ++ [((blkAt L k).1 : Int)] := by
  rw [List.take_succ_eq_append_getElem hk, blkAt_lt hk]
  exact atsI_add _ _ _
theorem ordsI_take_succ {L : List (Nat × Nat)} {k : Nat} (hk : k < L.length) : ordsI (L.take (k+1)) = ordsI (L.take k) ++ [((blkAt L k).2 : Int)] := by
  rw [List.take_succ_eq_append_getElem hk, blkAt_lt hk]
  exact ordsI_add _ _ _

set_option maxRecDepth 100000 in
set_option maxHeartbeats 2000000 in
theorem toldF_any (base : Nat) (v : Value) (L : List (Nat × Nat)) (hlen : L.length ≤ 100) (w : World) (hO : OwnF w base v L) :
    Calls Tryd.prog 26 #[v] w fun e w' => ∃ v1 v2, e = .returned (.tuple #[v1, v2]) ∧ OwnI w' w.heap.size v1 (atsI L) ∧ OwnI w' w.heap.size v2 (ordsI L) ∧ Below w.heap.size w w' := by
  obtain ⟨i0, hi, hz0, hz1, hz2⟩ := info_parts Tryd.info3
  have HI0 : Hid (Tryd.prog.info? 3 = some i0 ∧ i0.zero = some (.int .i64 0) ∧ i0.size = 1 ∧ i0.bytes = 8) := ⟨hi, hz0, hz1, hz2⟩
  clear hi hz0 hz1 hz2
  obtain ⟨ao, cap, rfl⟩ := hO.form
  have HO : Hid (OwnF w base (.slice ao L.length cap) L) := hO
  clear hO
  go_enter Tryd.func26, Tryd.ntmps26
  go_wp2
  go_loopw [2, 3, 8] (fun v1 v2 v8 wr => ∃ k : Nat, k ≤ L.length ∧ v8 = .int .i64 (k : Nat) ∧ Tri w wr (.slice none 0 0) v1 v2 [] (atsI (L.take k)) (ordsI (L.take k))) (fun _ _ v8 _ => L.length - (intOf v8).toNat)
  case atStart => exact ⟨0, Nat.zero_le _, rfl, Tri.start w⟩
  case round =>
    obtain ⟨k, hk, rfl, hT⟩ := hrel
    by_cases hkl : k = L.length
    · have HT : Hid (Tri w wr (.slice none 0 0) u2 u3 [] (atsI L) (ordsI L)) := by rw [hkl, List.take_length] at hT; exact hT
      have hlt : ¬ (k : Int) < (L.length : Int) := by omega
      clear hT hkl
      go_wp2
      go_ret2
      exact ⟨_, _, rfl, HT.out.p, HT.out.a, HT.out.below⟩
    · have hk' : k < L.length := by omega
      have hlt : (k : Int) < (L.length : Int) := by omega
      obtain ⟨g, cap', hv, _, hgw, hlc, hcm⟩ := HO.out.block (by omega)
      simp only [Value.slice.injEq, true_and] at hv
      obtain ⟨rfl, rfl⟩ := hv
      unfold maxLen at hcm
      have hc1 : wr.cell? ⟨g, k * 2, none⟩ = some (.int .i64 ((blkAt L k).1 : Nat)) := (hT.below.cell (by exact hgw)).trans (HO.out.at_ rfl hk')
      have hc2 : wr.cell? ⟨g, k * 2 + 1, none⟩ = some (.int .i64 ((blkAt L k).2 : Nat)) := (hT.below.cell (by exact hgw)).trans (HO.out.size rfl hk')
      have HA : Hid (atsI (L.take (k+1)) = atsI (L.take k) ++ [((blkAt L k).1 : Int)]) := atsI_take_succ hk'
      have HR : Hid (ordsI (L.take (k+1)) = ordsI (L.take k) ++ [((blkAt L k).2 : Int)]) := ordsI_take_succ hk'
      have HN1 : Hid ((atsI (L.take k)).length = k) := by unfold Hid; rw [atsI_length, List.length_take]; omega
      have HN2 : Hid ((ordsI (L.take k)).length = k) := by unfold Hid; rw [ordsI_length, List.length_take]; omega
      have HT : Hid (Tri w wr (.slice none 0 0) u2 u3 [] (atsI (L.take k)) (ordsI (L.take k))) := hT
      have hsz := hT.below.size
      have HNE : Hid (¬ some wr.heap.size = u2.ownBlock) := fun e => by have := (World.ownsRow.lt hT.p _ e.symm).2; omega
      clear hT hkl
      generalize (blkAt L k).1 = x at *
      generalize (blkAt L k).2 = y at *
      generalize atsI (L.take k) = la at *
      generalize ordsI (L.take k) = lo at *
      have HTB : Hid (Tri w (wr.alloc (.cells #[.int .i64 (x : Nat), .int .i64 (y : Nat)] 56)) (.slice none 0 0) u2 u3 [] la lo) := HT.out.alloc _
      have HBX : Hid ((wr.alloc (.cells #[.int .i64 (x : Nat), .int .i64 (y : Nat)] 56)).heap[wr.heap.size]? = some (.cells #[.int .i64 (x : Nat), .int .i64 (y : Nat)] 56 (0, 0))) := heap_alloc_new wr _
      have hsb : (wr.alloc (.cells #[.int .i64 (x : Nat), .int .i64 (y : Nat)] 56)).heap.size = wr.heap.size + 1 := by simp
      go_wp2_with (at_builtin; go_must (first | (refine wpList_append_own_at _ rfl _ _ 22 rfl w.heap.size 3 i0 (.int .i64 0) 1 8 Tryd.underlying22 HI0.out.1 HI0.out.2.1 HI0.out.2.2.1 HI0.out.2.2.2 rfl (by decide) _ k (la.map (Value.int .i64)) rfl (World.ownsRow.alloc (HTB.out.p.rows HN1.out rfl) _) ⟨wr.heap.size + 1, 0, none⟩ 1 1 [.int .i64 (x : Nat)] rfl rfl (by rw [← hsb]; exact new_one _ _ _) (one_cell _) (by unfold maxLen; omega) (by omega) (by simp; omega) ?_; intro v4 w4 hown' hgrow _ hat; have HT4 : Hid (Tri w w4 (.slice none 0 0) v4 u3 [] (la ++ [(x : Int)]) lo) := HTB.out.pages HN1.out hown' hgrow hat; have hs4 := HT4.out.below.size; obtain ⟨hy0, hy1, _, _⟩ := box_cells (((hgrow.block wr.heap.size (by simp; omega) HNE.out).trans (Below.heap_alloc _ _ _ (by simp))).trans HBX.out); clear hown' hgrow hat HTB) | (refine wpList_append_own_at _ rfl _ _ 22 rfl w.heap.size 3 i0 (.int .i64 0) 1 8 Tryd.underlying22 HI0.out.1 HI0.out.2.1 HI0.out.2.2.1 HI0.out.2.2.2 rfl (by decide) _ k (lo.map (Value.int .i64)) rfl (World.ownsRow.alloc (HT4.out.a.rows HN2.out rfl) _) ⟨w4.heap.size, 0, none⟩ 1 1 [.int .i64 (y : Nat)] rfl rfl (by exact new_one _ _ _) (one_cell _) (by unfold maxLen; omega) (by omega) (by simp; omega) ?_; intro v5 w5 hown' hgrow _ hat; have HT5 : Hid (Tri w w5 (.slice none 0 0) v4 v5 [] (la ++ [(x : Int)]) (lo ++ [(y : Int)])) := HT4.out.asked HN2.out hown' hgrow hat; clear hown' hgrow hat HT4)))
      go_roundw
      case rel => exact ⟨k + 1, by omega, by go_num, by rw [HA.out, HR.out]; exact HT5.out⟩
      case measure => simp [intOf]; omega
end Go.Proofs.YtjcikoaoemingaaDoor
