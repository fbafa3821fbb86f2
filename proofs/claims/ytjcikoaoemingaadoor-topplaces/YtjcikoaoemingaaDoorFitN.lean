/- Lists alone, for chapter 16: lending, giving back and packing, as the program does. -/
import Derived.Test.YtjcikoaoemingaaDoorFArena
namespace Go.Proofs.YtjcikoaoemingaaDoor

def lendG (L : List (Nat × Nat)) (z : Int) : Nat × Nat × List (Nat × Nat) :=
  if z < 1 ∨ 64 < z then (0, 1, L) else match roomF 0 L z.toNat with
    | none => (0, 4, L)
    | some q => (q, 0, putF q z.toNat L)
def backG (L : List (Nat × Nat)) (z : Int) : Nat × List (Nat × Nat) := if isF L z = true then (0, L.eraseIdx (posF L z)) else (5, L)
theorem insF_put (q n : Nat) : ∀ L : List (Nat × Nat), L.take (posF L (q : Nat)) ++ (q, n) :: L.drop (posF L (q : Nat)) = putF q n L
  | [] => rfl
  | b :: r => by
    unfold posF putF
    by_cases h : b.1 < q
    · rw [if_pos (by omega), if_pos h, List.take_succ_cons, List.drop_succ_cons, List.cons_append, insF_put q n r]
    · rw [if_neg (by omega), if_neg h]; rfl
theorem posF_put {q n : Nat} : ∀ {L : List (Nat × Nat)}, posF (putF q n L) (q : Nat) = posF L (q : Nat)
  | [] => by simp [putF, posF]
  | b :: r => by
    unfold putF
    by_cases h : b.1 < q
    · rw [if_pos h]
      unfold posF
      rw [if_pos (by omega), posF_put, if_pos (by omega)]
    · rw [if_neg h]
      rw [show posF (b :: r) (q : Nat) = 0 from if_neg (by omega)]
      exact if_neg (by simp)
theorem lendG_laid {L : List (Nat × Nat)} (h : LaidF 0 L) (z : Int) : LaidF 0 (lendG L z).2.2 := by
  unfold lendG
  split
  · exact h
  · rename_i hz
    split
    · exact h
    · rename_i q e
      obtain ⟨h1, h2, _⟩ := roomF_some (by omega) h e
      exact putF_laid (by omega) h h1 h2
theorem backG_laid {L : List (Nat × Nat)} (h : LaidF 0 L) (z : Int) : LaidF 0 (backG L z).2 := by
  unfold backG
  split
  · exact eraseIdx_laid _ h
  · exact h
theorem packG_laid {L : List (Nat × Nat)} (h : LaidF 0 L) : LaidF 0 (packF 0 L) := packF_laid (fun b hb => (h.mem b hb).2.1) (laid_sum h)
/-- The first hole that is as great. -/
theorem holes_hit {L : List (Nat × Nat)} (hL : LaidF 0 L) {n k : Nat} (hn : 1 ≤ n) (hk : k < (holes 0 L).length) (h : n ≤ (blkAt (holes 0 L) k).2) (ha : ∀ j, j < k → ¬ n ≤ (blkAt (holes 0 L) j).2) : roomF 0 L n = some (blkAt (holes 0 L) k).1 := by
  rw [roomF_holes hn hL]
  have : (holes 0 L).find? (fun h => decide (n ≤ h.2)) = some (holes 0 L)[k] := by
    rw [List.find?_eq_some_iff_getElem]
    refine ⟨by rw [blkAt_lt hk] at h; simpa using h, k, hk, rfl, fun j hj => ?_⟩
    have := ha j hj
    rw [blkAt_lt (by omega)] at this
    simpa using this
  rw [this, blkAt_lt hk]
  rfl
theorem holes_miss {L : List (Nat × Nat)} (hL : LaidF 0 L) {n : Nat} (hn : 1 ≤ n) (ha : ∀ j, j < (holes 0 L).length → ¬ n ≤ (blkAt (holes 0 L) j).2) : roomF 0 L n = none := by
  rw [roomF_holes hn hL]
  have : (holes 0 L).find? (fun h => decide (n ≤ h.2)) = none := by
    rw [List.find?_eq_none]
    intro x hx
    obtain ⟨j, hj, rfl⟩ := List.getElem_of_mem hx
    have := ha j hj
    rw [blkAt_lt hj] at this
    simpa using this
  rw [this]
  rfl
/-- Packed as far as block i. -/
def packTo (L : List (Nat × Nat)) (i : Nat) : List (Nat × Nat) := packF 0 (L.take i) ++ L.drop i
theorem packF_length : ∀ (p : Nat) (F : List (Nat × Nat)), (packF p F).length = F.length
  | _, [] => rfl
  | p, b :: r => by rw [packF, List.length_cons, packF_length, List.length_cons]
theorem packF_add : ∀ (p : Nat) (F : List (Nat × Nat)) (b : Nat × Nat), packF p (F ++ [b]) = packF p F ++ [(p + sumF F, b.2)]
  | p, [], b => by simp [packF, sumF]
  | p, c :: r, b => by rw [List.cons_append, packF, packF_add, packF, sumF, List.cons_append, Nat.add_assoc]
theorem sumF_add : ∀ (F : List (Nat × Nat)) (b : Nat × Nat), sumF (F ++ [b]) = sumF F + b.2
  | [], b => by simp [sumF]
  | c :: r, b => by rw [List.cons_append, sumF, sumF_add, sumF, Nat.add_assoc]
theorem packTo_zero (L : List (Nat × Nat)) : packTo L 0 = L := rfl
theorem packTo_all (L : List (Nat × Nat)) : packTo L L.length = packF 0 L := by unfold packTo; rw [List.take_length, List.drop_length, List.append_nil]
theorem packTo_length (L : List (Nat × Nat)) (i : Nat) : (packTo L i).length = L.length := by
  unfold packTo
  rw [List.length_append, packF_length, ← List.length_append, List.take_append_drop]
theorem packTo_at {L : List (Nat × Nat)} {i : Nat} (hi : i < L.length) : blkAt (packTo L i) i = L[i] := by
  have hl : (packF 0 (L.take i)).length = i := by rw [packF_length, List.length_take]; omega
  unfold blkAt packTo
  rw [List.getElem?_append_right (by omega), hl, Nat.sub_self, List.getElem?_drop, Nat.add_zero, List.getElem?_eq_getElem hi]
  rfl
theorem packTo_succ {L : List (Nat × Nat)} {i : Nat} (hi : i < L.length) : (packTo L i).set i (sumF (L.take i), (L[i]).2) = packTo L (i+1) := by
  have hl : (packF 0 (L.take i)).length = i := by rw [packF_length, List.length_take]; omega
  unfold packTo
  rw [List.set_append_right _ _ (by omega), hl, Nat.sub_self, List.drop_eq_getElem_cons hi, List.set_cons_zero, List.take_succ_eq_append_getElem hi, packF_add, Nat.zero_add, List.append_assoc]
  rfl
theorem sumF_take {L : List (Nat × Nat)} {i : Nat} (hi : i < L.length) : sumF (L.take (i+1)) = sumF (L.take i) + (L[i]).2 := by
  rw [List.take_succ_eq_append_getElem hi, sumF_add]
theorem sumF_part {L : List (Nat × Nat)} (h : LaidF 0 L) (i : Nat) : sumF (L.take i) ≤ 64 := by
  have := laid_sum (laid_take i h)
  omega
end Go.Proofs.YtjcikoaoemingaaDoor
