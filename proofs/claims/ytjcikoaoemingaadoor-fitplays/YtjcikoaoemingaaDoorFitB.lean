/- Lists of packed blocks; the numbers of a block, in the rows that tell of blocks. -/
import Derived.Test.YtjcikoaoemingaaDoorFitN
namespace Go.Proofs.YtjcikoaoemingaaDoor

theorem packF_get : ∀ (p : Nat) (F : List (Nat × Nat)) (i : Nat) (h : i < F.length), blkAt (packF p F) i = (p + sumF (F.take i), (F[i]).2)
  | p, b :: r, 0, _ => by simp [packF, blkAt, sumF]
  | p, b :: r, i + 1, h => by
    have := packF_get (p + b.2) r i (by simpa using h)
    rw [List.take_succ_cons, sumF, ← Nat.add_assoc, List.getElem_cons_succ, ← this]
    simp [packF, blkAt]
theorem ordsI_pack (p : Nat) (F : List (Nat × Nat)) : ordsI (packF p F) = ordsI F := by
  have := congrArg (List.map fun x : Nat => (x : Int)) (packF_sizes p F)
  rw [List.map_map, List.map_map] at this
  exact this
theorem ats_blk {L : List (Nat × Nat)} {k : Nat} (hk : k < L.length) : (atsI L)[k]?.getD 0 = ((blkAt L k).1 : Int) := by rw [atsI_get hk, blkAt_lt hk]
theorem ords_blk {L : List (Nat × Nat)} {k : Nat} (hk : k < L.length) : (ordsI L)[k]?.getD 0 = ((blkAt L k).2 : Int) := by rw [ordsI_get hk, blkAt_lt hk]
end Go.Proofs.YtjcikoaoemingaaDoor
