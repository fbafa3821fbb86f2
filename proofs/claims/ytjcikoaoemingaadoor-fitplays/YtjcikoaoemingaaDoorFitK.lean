/- Lists alone, for chapter 16: giving back as the program does, and as the document says. -/
import Derived.Test.YtjcikoaoemingaaDoorFitN
import Derived.Test.YtjcikoaoemingaaDoorBuddyS
namespace Go.Proofs.YtjcikoaoemingaaDoor

theorem posF_lt : ∀ {L : List (Nat × Nat)} {z : Int} {k : Nat}, k < posF L z → ((blkAt L k).1 : Int) < z
  | [], z, k, h => by simp [posF] at h
  | b :: r, z, k, h => by
    unfold posF at h
    split at h
    · rename_i hb
      cases k with
      | zero => simpa [blkAt] using hb
      | succ k =>
        have := posF_lt (L := r) (z := z) (k := k) (by omega)
        simpa [blkAt] using this
    · omega
theorem posF_at : ∀ {L : List (Nat × Nat)} {z : Int}, posF L z < L.length → z ≤ ((blkAt L (posF L z)).1 : Int)
  | [], z, h => by simp at h
  | b :: r, z, h => by
    unfold posF at h ⊢
    by_cases hb : (b.1 : Int) < z
    · rw [if_pos hb] at h ⊢
      have := posF_at (L := r) (z := z) (by simpa using h)
      simpa [blkAt] using this
    · rw [if_neg hb]
      simp [blkAt]; omega
theorem laid_up {p : Nat} : ∀ {L : List (Nat × Nat)}, LaidF p L → Up L
  | [], _ => List.Pairwise.nil
  | b :: r, h => List.Pairwise.cons (fun c hc => by have := h.2.2.mem c hc; have := h.2.1; omega) (laid_up h.2.2)
theorem delP_none {p : Nat} {L : List (Nat × Nat)} (h : ∀ b, b ∈ L → b.1 ≠ p) : delP p L = L := by
  unfold delP
  rw [List.filter_eq_self]
  intro b hb
  simp [h b hb]
theorem delP_at {L : List (Nat × Nat)} (hU : Up L) {i : Nat} (hi : i < L.length) : delP (L[i]).1 L = L.eraseIdx i := by
  have hp := List.pairwise_iff_getElem.1 hU
  have e : L = L.take i ++ L[i] :: L.drop (i+1) := by rw [← List.drop_eq_getElem_cons hi, List.take_append_drop]
  have h1 : delP (L[i]).1 (L.take i) = L.take i := delP_none fun b hb he => by
    obtain ⟨j, hj, rfl⟩ := List.getElem_of_mem hb
    rw [List.length_take] at hj
    rw [List.getElem_take] at he
    have := hp j i (by omega) hi (by omega)
    omega
  have h2 : delP (L[i]).1 (L.drop (i+1)) = L.drop (i+1) := delP_none fun b hb he => by
    obtain ⟨j, hj, rfl⟩ := List.getElem_of_mem hb
    rw [List.length_drop] at hj
    rw [List.getElem_drop] at he
    have := hp i (i + 1 + j) hi (by omega) (by omega)
    omega
  rw [List.eraseIdx_eq_take_drop_succ]
  have h3 : delP (L[i]).1 (L.take i ++ L[i] :: L.drop (i+1)) = delP (L[i]).1 (L.take i) ++ delP (L[i]).1 (L.drop (i+1)) := by
    unfold delP
    rw [List.filter_append, List.filter_cons]
    simp
  rw [← e, h1, h2] at h3
  exact h3
theorem back_same {L : List (Nat × Nat)} (h : LaidF 0 L) (z : Int) : backG L z = backF L z := by
  have hU := laid_up h
  unfold backG backF
  cases hi : isF L z with
  | true =>
    unfold isF at hi
    rw [Bool.and_eq_true, decide_eq_true_eq, beq_iff_eq] at hi
    obtain ⟨h1, h2⟩ := hi
    rw [blkAt_lt h1] at h2
    have hm : ((L[posF L z]).1, (L[posF L z]).2) ∈ L := List.getElem_mem h1
    have hl := look_of hU hm
    rw [h2] at hl
    rw [hl, if_pos rfl]
    show _ = (0, delP z.toNat L)
    have hz : z.toNat = (L[posF L z]).1 := by omega
    rw [hz, delP_at hU h1]
  | false =>
    rw [if_neg (by simp)]
    cases hl : look L z with
    | none => rfl
    | some o =>
      obtain ⟨p, hz, hm⟩ := look_some hl
      obtain ⟨j, hj, hjm⟩ := List.getElem_of_mem hm
      have hb : blkAt L j = (p, o) := by rw [blkAt_lt hj, hjm]
      have h1 : ¬ j < posF L z := fun hlt => by
        have := posF_lt hlt
        rw [hb] at this
        simp only at this
        omega
      have h2 : posF L z < L.length := by omega
      have h3 := posF_at h2
      have h4 : ((blkAt L (posF L z)).1 : Int) = z := by
        by_cases e : posF L z = j
        · rw [e, hb, hz]
        · have := laid_lt h (posF L z) j (by omega) hj
          rw [hb] at this
          simp only at this
          omega
      unfold isF at hi
      rw [decide_eq_true h2, h4] at hi
      simp at hi
end Go.Proofs.YtjcikoaoemingaaDoor
