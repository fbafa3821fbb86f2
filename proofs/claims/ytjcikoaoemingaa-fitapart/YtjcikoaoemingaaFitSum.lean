/- The walk of larderwicksame.Sum at the sizes of blocks; lists of packed blocks. -/
import Derived.Test.YtjcikoaoemingaaFitN
import Derived.Test.YtjcikoaoemingaaOpened
namespace Go.Proofs.Ytjcikoaoemingaa
open Go.RowKit Go.Sort

theorem packF_get : ∀ (p : Nat) (F : List (Nat × Nat)) (i : Nat) (h : i < F.length), blkAt (packF p F) i = (p + sumF (F.take i), (F[i]).2)
  | p, b :: r, 0, _ => by simp [packF, blkAt, sumF]
  | p, b :: r, i + 1, h => by
    have := packF_get (p + b.2) r i (by simpa using h)
    rw [List.take_succ_cons, sumF, ← Nat.add_assoc, List.getElem_cons_succ, ← this]
    simp [packF, blkAt]
theorem ordsI_pack (p : Nat) (F : List (Nat × Nat)) : ordsI (packF p F) = ordsI F := by
  have := congrArg (List.map fun x : Nat => (x : Int)) (packF_sizes p F)
  rw [List.map_map, List.map_map] at this
  exact this
theorem ats_blk {L : List (Nat × Nat)} {k : Nat} (hk : k < L.length) : (atsI L)[k]?.getD 0 = ((blkAt L k).1 : Int) := by rw [atsI_get hk, blkAt_lt hk]
theorem ords_blk {L : List (Nat × Nat)} {k : Nat} (hk : k < L.length) : (ordsI L)[k]?.getD 0 = ((blkAt L k).2 : Int) := by rw [ordsI_get hk, blkAt_lt hk]

set_option maxHeartbeats 1000000 in
theorem sumS_any (v : Value) (L : List (Nat × Nat)) (hL : LaidF 0 L) (w : World) (hv : IsInts w v (ordsI L)) :
    Calls Try.prog 10 #[v] w fun e w' => e = .returned (.int .i64 (sumF L : Nat)) ∧ w' = w := by
  obtain ⟨ao, cap, rfl, hcap, ho⟩ := hv.opened
  rw [ordsI_length] at ho ⊢
  have HO : Hid (∀ k, k < L.length → ∃ b off, ao = some ⟨b, off, none⟩ ∧ L.length ≤ cap ∧ b < w.heap.size ∧ ∀ j, j < L.length → w.cell? ⟨b, off + j, none⟩ = some (.int .i64 ((ordsI L)[j]?.getD 0))) := ho
  have HL : Hid (LaidF 0 L) := hL
  have hlm := laid_len hL
  clear ho hv hL
  unfold maxLen at hcap
  go_enter Try.func10, Try.ntmps10
  go_wp2
  go_loopw [3, 4] (fun s i wr => ∃ k : Nat, k ≤ L.length ∧ i = .int .i64 (k : Nat) ∧ s = .int .i64 (sumF (L.take k) : Nat) ∧ wr = w) (fun _ i _ => L.length - (intOf i).toNat)
  case atStart => exact ⟨0, Nat.zero_le _, rfl, rfl, rfl⟩
  case round =>
    obtain ⟨k, hk, rfl, rfl, rfl⟩ := hrel
    by_cases hkl : k < L.length
    · obtain ⟨b, off, rfl, hlc, hbw, hc⟩ := HO.out k hkl
      have hck := hc k hkl
      rw [ords_blk hkl] at hck
      have hlt : (k : Int) < (L.length : Int) := by omega
      have HS : Hid (sumF (L.take (k+1)) = sumF (L.take k) + (blkAt L k).2) := by unfold Hid; rw [blkAt_lt hkl]; exact sumF_take hkl
      have h1 := sumF_part HL.out k
      have h2 := sumF_part HL.out (k+1)
      rw [HS.out] at h2
      clear hc
      generalize (blkAt L k).2 = y at *
      generalize sumF (L.take k) = q at *
      go_wp2
      go_roundw
      case rel => exact ⟨k + 1, by omega, by go_num, by rw [HS.out]; go_num, trivial⟩
      case measure => simp [intOf]; omega
    · have hlt : ¬ (k : Int) < (L.length : Int) := by omega
      have HS : Hid (sumF (L.take k) = sumF L) := by unfold Hid; rw [List.take_of_length_le (by omega)]
      go_wp2
      go_ret
      exact ⟨by rw [← HS.out]; rfl, rfl⟩
end Go.Proofs.Ytjcikoaoemingaa
