/- Lists alone, for chapter 16: going from place to place, block by block and hole by hole. -/
import Derived.Test.YtjcikoaoemingaaFitN
namespace Go.Proofs.Ytjcikoaoemingaa

/-- Where one stands: at the place p, ahead of block i and hole k. -/
structure Stand (L : List (Nat × Nat)) (p i k : Nat) (h : Bool) : Prop where
  most : p ≤ 64
  il : i ≤ L.length
  kl : k ≤ (holes 0 L).length
  laid : LaidF p (L.drop i)
  same : holes p (L.drop i) = (holes 0 L).drop k
  behind : h = true → (L.drop i = [] → p = 64) ∧ ∀ b, (L.drop i).head? = some b → b.1 = p
theorem Stand.start {L : List (Nat × Nat)} (h : LaidF 0 L) : Stand L 0 0 0 false := ⟨by omega, Nat.zero_le _, Nat.zero_le _, by simpa using h, by simp, fun e => by cases e⟩
theorem Stand.end_ {L : List (Nat × Nat)} {p i k : Nat} {h : Bool} (s : Stand L p i k h) (hp : ¬ p < 64) : p = 64 ∧ i = L.length ∧ k = (holes 0 L).length := by
  have hm := s.most
  obtain rfl : p = 64 := by omega
  have h1 : L.drop i = [] := by
    cases hd : L.drop i with
    | nil => rfl
    | cons b r =>
      have := s.laid
      rw [hd] at this
      obtain ⟨h1, h2, h3⟩ := this
      have := h3.le
      omega
  have h2 := s.same
  rw [h1] at h2
  have h3 : (holes 0 L).drop k = [] := by rw [← h2]; rfl
  have h4 := List.drop_eq_nil_iff.1 h1
  have h5 := List.drop_eq_nil_iff.1 h3
  have := s.il
  have := s.kl
  exact ⟨rfl, by omega, by omega⟩
theorem drop_head {L : List (Nat × Nat)} {i : Nat} (hi : i < L.length) : L.drop i = blkAt L i :: L.drop (i+1) := by rw [List.drop_eq_getElem_cons hi, blkAt_lt hi]
theorem Stand.block {L : List (Nat × Nat)} {p i k : Nat} {h : Bool} (s : Stand L p i k h) (hi : i < L.length) (hb : (blkAt L i).1 = p) : 1 ≤ (blkAt L i).2 ∧ p + (blkAt L i).2 ≤ 64 ∧ Stand L (p + (blkAt L i).2) (i+1) k false := by
  have h1 := s.laid
  have h2 := s.same
  rw [drop_head hi] at h1 h2
  obtain ⟨_, h3, h4⟩ := h1
  rw [hb] at h4
  have h5 := h4.le
  rw [← hb, holes_block, hb] at h2
  exact ⟨h3, h5, ⟨h5, hi, s.kl, h4, h2, fun e => by cases e⟩⟩
theorem Stand.hole {L : List (Nat × Nat)} {p i k : Nat} {h : Bool} (s : Stand L p i k h) (hp : p < 64) (hn : i < L.length → (blkAt L i).1 ≠ p) : h = false ∧ k < (holes 0 L).length ∧ (blkAt (holes 0 L) k).1 = p ∧ 1 ≤ (blkAt (holes 0 L) k).2 ∧ p + (blkAt (holes 0 L) k).2 ≤ 64 ∧ Stand L (p + (blkAt (holes 0 L) k).2) i (k+1) true := by
  have hne : ∀ b, (L.drop i).head? = some b → b.1 ≠ p := fun b hb => by
    have hi : i < L.length := by
      refine Nat.lt_of_not_le fun h => ?_
      rw [List.drop_eq_nil_of_le h] at hb
      cases hb
    rw [drop_head hi] at hb
    simp at hb
    rw [← hb]
    exact hn hi
  obtain ⟨q, h1, h2, h3, h4, h5, h6⟩ := holes_gap s.laid hp hne
  have h7 := s.same
  rw [h3] at h7
  have hk : k < (holes 0 L).length := by
    refine Nat.lt_of_not_le fun h => ?_
    rw [List.drop_eq_nil_of_le h] at h7
    cases h7
  rw [drop_head hk] at h7
  injection h7 with h8 h9
  rw [← h8]
  have e : p + (q - p) = q := by omega
  refine ⟨?_, hk, rfl, by show 1 ≤ q - p; omega, by show p + (q - p) ≤ 64; omega, ?_⟩
  · cases h with
    | false => rfl
    | true =>
      obtain ⟨h10, h11⟩ := s.behind rfl
      cases hd : L.drop i with
      | nil => have := h10 hd; omega
      | cons b r => exact absurd (h11 b (by rw [hd]; rfl)) (hne b (by rw [hd]; rfl))
  · show Stand L (p + (q - p)) i (k+1) true
    rw [e]
    exact ⟨h2, s.il, hk, h4, h9, fun _ => ⟨h6, h5⟩⟩
end Go.Proofs.Ytjcikoaoemingaa
