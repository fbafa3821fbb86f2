/- The walks of graph.setOf and graph.has: sets of nodes as bits. -/
import Derived.Test.YtmibnceadciidaaGNum
import Derived.Test.YtmibnceadciidaaOpened
namespace Go.Proofs.Ytmibnceadciidaa
set_option maxRecDepth 100000
open Go.RowKit

set_option maxHeartbeats 1000000 in
theorem setof_any (v : Value) (l : List Int) (w : World) (hv : IsInts w v l) (hl : allIn l) :
    Calls Try.prog 30 #[v] w fun e w' => e = .returned (.int .i64 (setM l)) ∧ w' = w := by
  have HA : Hid (allIn l) := hl
  obtain ⟨ao, cap, rfl, hcap, ho⟩ := hv.opened
  have HO : Hid (∀ k, k < l.length → ∃ b off, ao = some ⟨b, off, none⟩ ∧ l.length ≤ cap ∧ b < w.heap.size ∧ ∀ j, j < l.length → w.cell? ⟨b, off + j, none⟩ = some (.int .i64 (l[j]?.getD 0))) := ho
  clear hl ho hv
  unfold maxLen at hcap
  have hlm : l.length ≤ 9223372036854775807 := by
    by_cases h : 0 < l.length
    · obtain ⟨_, _, _, hlc, _⟩ := HO.out 0 h
      omega
    · omega
  go_enter Try.func30, Try.ntmps30
  go_wp2
  go_loop [3, 8] (fun n i => ∃ k : Nat, k ≤ l.length ∧ i = .int .i64 k ∧ n = .int .i64 (setM (l.take k))) (fun _ i => l.length - (intOf i).toNat)
  case atStart => exact ⟨0, by omega, rfl, rfl⟩
  case round =>
    obtain ⟨k, hk, rfl, rfl⟩ := hrel
    have hm16 := (setM_take_msk HA.out k hk).1
    by_cases hlt : k < l.length
    · obtain ⟨b, off, rfl, hlc, _, hcell⟩ := HO.out k hlt
      have hck := hcell k hlt
      clear hcell
      have hp : 0 ≤ l[k]?.getD 0 ∧ l[k]?.getD 0 < 16 := by rw [List.getElem?_eq_getElem hlt]; exact HA.out _ (List.getElem_mem _)
      have HS : Hid (setM (l.take (k+1)) = setM (l.take k) ||| 2 ^ (l[k]?.getD 0).toNat) := setM_take hlt
      have h2 := two_pow_lt hp.1 hp.2
      obtain ⟨hp0, hp1⟩ := hp
      have HW : Hid (wrap64 (2 ^ (l[k]?.getD 0).toNat) = ((2 ^ (l[k]?.getD 0).toNat : Nat) : Int)) := pow64 h2
      have HQ : Hid (bits .or .i64 (setM (l.take k) : Int) ((2 ^ (l[k]?.getD 0).toNat : Nat) : Int) = ((setM (l.take k) ||| 2 ^ (l[k]?.getD 0).toNat : Nat) : Int)) := or64 _ _ (by omega) (by omega)
      clear h2
      generalize l[k]?.getD 0 = p at *
      generalize setM (l.take k) = m at *
      go_wp2
      go_round
      case rel => exact ⟨k + 1, by omega, by go_num, by rw [HW.out, HQ.out, HS.out]⟩
      case measure => simp [intOf]; omega
    · have HM : Hid (setM (l.take k) = setM l) := by rw [List.take_of_length_le (by omega)]; rfl
      generalize setM (l.take k) = m at *
      go_wp2
      go_ret
      exact ⟨by rw [HM.out]; rfl, rfl⟩
theorem setof_at {v : Value} {l : List Int} {m : Nat} {w0 : World} (hv : IsInts w0 v l) (hl : allIn l) (hm : setM l = m) (w : World) (hh : w.heap = w0.heap) :
    Calls Try.prog 30 #[v] w fun e w' => e = .returned (.int .i64 m) ∧ w' = w := by
  subst hm; exact setof_any v l w (hv.heap hh) hl

theorem ghas_any (m i : Nat) (hm : m < 65536) (hi : i < 16) (w : World) :
    Calls Try.prog 31 #[.int .i64 (m : Nat), .int .i64 (i : Nat)] w fun e w' => e = .returned (.bool (m.testBit i)) ∧ w' = w := by
  have HB : Hid ((bits .and .i64 ((m : Int) / 2 ^ i) 1 == 1) = m.testBit i) := bit64 hm
  go_enter Try.func31, Try.ntmps31
  go_wp2
  go_ret
  exact ⟨by rw [HB.out]; rfl, rfl⟩
end Go.Proofs.Ytmibnceadciidaa
