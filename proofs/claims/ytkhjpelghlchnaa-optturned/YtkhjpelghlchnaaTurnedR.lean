/- The walk of larderwicksame.Turned. -/
import Derived.Test.YtkhjpelghlchnaaKeep
namespace Go.Proofs.Ytkhjpelghlchnaa
open Go.RowKit Go.Sort

theorem turn_step {l : List Int} {j : Nat} (hj : j < l.length) : (l.drop j).reverse = (l.drop (j+1)).reverse ++ [l[j]?.getD 0] := by
  rw [List.drop_eq_getElem_cons hj, List.reverse_cons, List.getElem?_eq_getElem hj]; rfl

set_option maxHeartbeats 1000000 in
theorem turned_any (v : Value) (l : List Int) (w : World) (hv : IsInts w v l) (hform : ∃ ao cap, v = .slice ao l.length cap) (hlen : l.length * 8 ≤ 140737488355328) :
    Calls Try.prog 19 #[v] w fun e w' => ∃ v', e = .returned v' ∧ OwnI w' w.heap.size v' l.reverse ∧ Below w.heap.size w w' := by
  obtain ⟨ao, cap, rfl⟩ := hform
  obtain ⟨i0, hi, hz0, hz1, hz2⟩ := info_parts Try.info3
  have HI : Hid (Try.prog.info? 3 = some i0 ∧ i0.zero = some (.int .i64 0) ∧ i0.size = 1 ∧ i0.bytes = 8) := ⟨hi, hz0, hz1, hz2⟩
  clear hi hz0 hz1 hz2
  have HV : Hid (IsInts w (.slice ao l.length cap) l) := hv
  clear hv
  have hwr : IntKind.i64.wrap ((l.length : Int) - 1) = (l.length : Int) - 1 := by rw [IntKind.wrap_i64]; omega
  go_enter Try.func19, Try.ntmps19
  go_wp2
  go_loopw [3, 4] (fun vo i wr => ∃ m : Nat, m ≤ l.length ∧ i = .int .i64 ((m : Int) - 1) ∧ OwnI wr w.heap.size vo (l.drop m).reverse ∧ Below w.heap.size w wr) (fun _ i _ => (intOf i + 1).toNat)
  case atStart => exact ⟨l.length, Nat.le_refl _, by first | rfl | rw [← hwr]; rfl, by simpa using OwnI.nil _ _, Below.refl _ _⟩
  case round =>
    obtain ⟨m, hm, rfl, hO, hbel⟩ := hrel
    clear hwr
    cases m with
    | zero =>
      have HO : Hid (OwnI wr w.heap.size u3 l.reverse) := by unfold Hid; simpa using hO
      clear hO
      have hi1 : ((0 : Nat) : Int) - 1 = -1 := by omega
      rw [hi1]
      go_wp2
      go_ret
      exact ⟨_, rfl, HO.out, hbel⟩
    | succ j =>
      rcases HV.out with ⟨h, _⟩ | ⟨b, off, cap2, hv, hp, hlc, hcap, hc⟩
      · subst h; simp at hm
      simp only [Value.slice.injEq, true_and] at hv
      obtain ⟨rfl, rfl⟩ := hv
      have hbB : b < w.heap.size := World.block_lt_of_cell? w _ (hc 0 hp)
      have hck : wr.cell? ⟨b, off + j, none⟩ = some (.int .i64 (l[j]?.getD 0)) := (hbel.cell (by exact hbB)).trans (hc j (by omega))
      have HS : Hid ((l.drop j).reverse = (l.drop (j+1)).reverse ++ [l[j]?.getD 0]) := turn_step (by omega)
      have HL : Hid ((l.drop (j+1)).reverse.length = l.length - (j+1)) := by unfold Hid; simp
      clear hc
      generalize l[j]?.getD 0 = p at *
      obtain ⟨ao, oc, hvo⟩ := hO.form
      rw [HL.out] at hvo
      subst hvo
      generalize (l.drop (j+1)).reverse = out at *
      have HO : Hid (OwnI wr w.heap.size (.slice ao (l.length - (j+1)) oc) out) := hO
      clear hO
      unfold maxLen at hcap
      have hi1 : ((j + 1 : Nat) : Int) - 1 = (j : Int) := by omega
      rw [hi1]
      generalize hN : l.length - (j+1) = N at *
      have hN2 : (N + 1) * 8 ≤ 140737488355328 := by omega
      go_wp2_with (at_builtin; go_must (refine wpList_append_own _ rfl _ _ 22 rfl w.heap.size 3 i0 (.int .i64 0) 1 8 Try.underlying22 HI.out.1 HI.out.2.1 HI.out.2.2.1 HI.out.2.2.2 rfl (by decide) _ N (out.map (Value.int .i64)) rfl (World.ownsRow.alloc (HO.out.rows HL.out rfl) _) ⟨wr.heap.size, 0, none⟩ 1 1 [.int .i64 p] rfl rfl (by exact new_one _ _ _) (one_cell _) (by unfold maxLen; omega) (by omega) (by have := hbel.size; simp; omega) ?_; intro v2 w2 hown' hgrow _; have R := own_append2 HO.out HL.out hbel (Nat.le_refl _) hown' hgrow; clear hown' hgrow))
      go_roundw
      case rel => exact ⟨j, by omega, by first | rfl | go_num, by rw [HS.out]; exact R.1, R.2⟩
      case measure => simp [intOf] <;> omega
end Go.Proofs.Ytkhjpelghlchnaa
