/- The walk of the document's Count (larderwickref1): the numbers below one. -/
import Derived.Test.YtennlinnclcngaaKeep
import Derived.Test.YtennlinnclcngaaAnewL
import Derived.Laws.AppendOwn
namespace Go.Proofs.Ytennlinnclcngaa
set_option maxRecDepth 100000
open Go.RowKit Go.Sort

theorem upTo_next (k : Nat) : upTo (k+1) = upTo k ++ [(k : Int)] := by unfold upTo; rw [List.range_succ, List.map_append]; rfl
set_option maxHeartbeats 1000000 in
theorem rcount_any (n : Nat) (hn : n ≤ 1000) (w : World) :
    Calls Try.prog 12 #[.int .i64 (n : Nat)] w fun e w' => ∃ v, e = .returned v ∧ OwnI w' w.heap.size v (upTo n) ∧ Below w.heap.size w w' := by
  obtain ⟨i0, hi, hz0, hz1, hz2⟩ := info_parts Try.info3
  have HI : Hid (Try.prog.info? 3 = some i0 ∧ i0.zero = some (.int .i64 0) ∧ i0.size = 1 ∧ i0.bytes = 8) := ⟨hi, hz0, hz1, hz2⟩
  clear hi hz0 hz1 hz2
  go_enter Try.func12, Try.ntmps12
  go_wp2
  go_loopw [3, 4] (fun o i wr => ∃ k : Nat, k ≤ n ∧ i = .int .i64 (k : Nat) ∧ OwnI wr w.heap.size o (upTo k) ∧ Below w.heap.size w wr) (fun _ i _ => n - (intOf i).toNat)
  case atStart => exact ⟨0, Nat.zero_le _, rfl, OwnI.nil _ _, Below.refl _ _⟩
  case round =>
    obtain ⟨k, hk, rfl, hO, hbel⟩ := hrel
    have HO : Hid (OwnI wr w.heap.size u3 (upTo k)) := hO
    have HN : Hid ((upTo k).length = k) := upTo_length k
    clear hO
    by_cases hlt : k < n
    · have hlt' : (k : Int) < (n : Int) := by omega
      have HS : Hid (upTo (k+1) = upTo k ++ [(k : Int)]) := upTo_next k
      go_wp2_with (at_builtin; go_must (refine wpList_append_own _ rfl _ _ 23 rfl w.heap.size 3 i0 (.int .i64 0) 1 8 Try.underlying23 HI.out.1 HI.out.2.1 HI.out.2.2.1 HI.out.2.2.2 rfl (by decide) _ k ((upTo k).map (Value.int .i64)) rfl (World.ownsRow.alloc (HO.out.rows HN.out rfl) _) ⟨wr.heap.size, 0, none⟩ 1 1 [.int .i64 (k : Int)] rfl rfl (by exact new_one _ _ _) (one_cell _) (by unfold maxLen; omega) (by omega) (by have := hbel.size; simp; omega) ?_; intro vo' w1 hown' hgrow _; have HOW := own_append2 HO.out HN.out hbel (Nat.le_refl _) hown' hgrow; have HOW := And.intro (show Hid _ from HOW.1) (show Hid _ from HOW.2); clear hown' hgrow))
      go_roundw
      case rel => exact ⟨k + 1, by omega, by go_num, by rw [HS.out]; exact HOW.1.out, HOW.2.out⟩
      case measure => simp [intOf]; omega
    · have hlt' : ¬ (k : Int) < (n : Int) := by omega
      have HF : Hid (upTo n = upTo k) := by unfold Hid; rw [show k = n by omega]
      go_wp2
      go_ret
      exact ⟨_, rfl, by rw [HF.out]; exact HO.out, hbel⟩
end Go.Proofs.Ytennlinnclcngaa
