/- Lists and numbers alone, for chapter 15: blocks that are halved. What is lent is a list of blocks (where it begins, its order); what is free hangs on that alone. -/
import Derived.Test.YtjcikoaoemingaaDoorBase
namespace Go.Proofs.YtjcikoaoemingaaDoor

/-- A block: of an order from 0 to 6, at a multiple of its size, within the 64 places. -/
def Blk (p k : Nat) : Prop := k ≤ 6 ∧ p % 2 ^ k = 0 ∧ p + 2 ^ k ≤ 64
/-- Two blocks have a place in common. -/
def Meet (p k q j : Nat) : Prop := p < q + 2 ^ j ∧ q < p + 2 ^ k
theorem Meet.symm {p k q j : Nat} (h : Meet p k q j) : Meet q j p k := ⟨h.2, h.1⟩
theorem pow_pos2 (k : Nat) : 0 < 2 ^ k := Nat.two_pow_pos k
theorem six {k : Nat} (h : k ≤ 6) : k = 0 ∨ k = 1 ∨ k = 2 ∨ k = 3 ∨ k = 4 ∨ k = 5 ∨ k = 6 := by omega

/-- Blocks lie one in the other, or apart. -/
theorem nest {p k q j : Nat} (hp : Blk p k) (hq : Blk q j) (hjk : j ≤ k) (h : Meet p k q j) : p ≤ q ∧ q + 2 ^ j ≤ p + 2 ^ k := by
  obtain ⟨hk, hp1, hp2⟩ := hp
  obtain ⟨hj, hq1, hq2⟩ := hq
  obtain ⟨h1, h2⟩ := h
  obtain ⟨d, rfl⟩ : ∃ d, k = j + d := ⟨k - j, by omega⟩
  obtain ⟨a, rfl⟩ : ∃ a, q = 2 ^ j * a := ⟨q / 2 ^ j, by have := Nat.div_add_mod q (2 ^ j); omega⟩
  obtain ⟨b, rfl⟩ : ∃ b, p = 2 ^ (j + d) * b := ⟨p / 2 ^ (j + d), by have := Nat.div_add_mod p (2 ^ (j + d)); omega⟩
  rw [Nat.pow_add, Nat.mul_assoc] at *
  have h1' : 2 ^ j * (2 ^ d * b) < 2 ^ j * (a + 1) := by rw [Nat.mul_add]; omega
  have h2' : 2 ^ j * a < 2 ^ j * (2 ^ d * b + 2 ^ d) := by rw [Nat.mul_add]; omega
  have e1 := Nat.lt_of_mul_lt_mul_left h1'
  have e2 := Nat.lt_of_mul_lt_mul_left h2'
  constructor
  · exact Nat.mul_le_mul_left _ (by omega)
  · have := Nat.mul_le_mul_left (2 ^ j) (show a + 1 ≤ 2 ^ d * b + 2 ^ d by omega)
    rw [Nat.mul_add, Nat.mul_add] at this
    omega

/-- The block of the next order that a block is half of. -/
def up (p k : Nat) : Nat := p - p % 2 ^ (k+1)
/-- The other half. -/
def mate (p k : Nat) : Nat := if p % 2 ^ (k+1) = 0 then p + 2 ^ k else p - 2 ^ k
theorem half_mod {p k : Nat} (h : p % 2 ^ k = 0) : p % 2 ^ (k+1) = 0 ∨ p % 2 ^ (k+1) = 2 ^ k := by
  have e : 2 ^ (k+1) = 2 ^ k * 2 := Nat.pow_succ ..
  have hp := pow_pos2 k
  obtain ⟨a, rfl⟩ : ∃ a, p = 2 ^ k * a := ⟨p / 2 ^ k, by have := Nat.div_add_mod p (2 ^ k); omega⟩
  rw [e, Nat.mul_mod_mul_left]
  have := Nat.mod_two_eq_zero_or_one a
  rcases this with h | h <;> rw [h] <;> simp
theorem up_blk {p k : Nat} (hp : Blk p k) (hk : k < 6) : Blk (up p k) (k+1) := by
  obtain ⟨_, h1, h2⟩ := hp
  refine ⟨hk, ?_, ?_⟩
  · unfold up
    have := Nat.div_add_mod p (2 ^ (k+1))
    rw [show p - p % 2 ^ (k+1) = 2 ^ (k+1) * (p / 2 ^ (k+1)) by omega]
    exact Nat.mul_mod_right _ _
  · unfold up
    rcases six (show k ≤ 6 by omega) with rfl | rfl | rfl | rfl | rfl | rfl | rfl <;> simp at h1 h2 ⊢ <;> omega
theorem up_in {p k : Nat} (hp : Blk p k) : up p k ≤ p ∧ p + 2 ^ k ≤ up p k + 2 ^ (k+1) := by
  obtain ⟨_, h1, _⟩ := hp
  have e : 2 ^ (k+1) = 2 ^ k * 2 := Nat.pow_succ ..
  have hpp := pow_pos2 k
  unfold up
  have := Nat.mod_le p (2 ^ (k+1))
  rcases half_mod h1 with h | h <;> rw [h] at this ⊢ <;> omega
theorem mate_blk {p k : Nat} (hp : Blk p k) (hk : k < 6) : Blk (mate p k) k := by
  obtain ⟨_, h1, h2⟩ := hp
  refine ⟨by omega, ?_, ?_⟩
  · unfold mate
    rcases six (show k ≤ 6 by omega) with rfl | rfl | rfl | rfl | rfl | rfl | rfl <;> simp at h1 h2 ⊢ <;> split <;> omega
  · unfold mate
    rcases six (show k ≤ 6 by omega) with rfl | rfl | rfl | rfl | rfl | rfl | rfl <;> simp at h1 h2 ⊢ <;> split <;> omega
theorem mate_up {p k : Nat} (hp : Blk p k) (hk : k < 6) : up (mate p k) k = up p k := by
  obtain ⟨_, h1, h2⟩ := hp
  unfold mate up
  rcases six (show k ≤ 6 by omega) with rfl | rfl | rfl | rfl | rfl | rfl | rfl <;> simp at h1 h2 ⊢ <;> split <;> omega
theorem mate_mate {p k : Nat} (hp : Blk p k) (hk : k < 6) : mate (mate p k) k = p := by
  obtain ⟨_, h1, h2⟩ := hp
  unfold mate
  rcases six (show k ≤ 6 by omega) with rfl | rfl | rfl | rfl | rfl | rfl | rfl <;> simp at h1 h2 ⊢ <;> (repeat' split) <;> omega
theorem mate_apart {p k : Nat} (hp : Blk p k) (hk : k < 6) : ¬ Meet p k (mate p k) k := by
  obtain ⟨_, h1, h2⟩ := hp
  unfold mate Meet
  rcases six (show k ≤ 6 by omega) with rfl | rfl | rfl | rfl | rfl | rfl | rfl <;> simp at h1 h2 ⊢ <;> split <;> omega
/-- A place of the next order's block lies in the one half or in the other. -/
theorem up_halves {p k x : Nat} (hp : Blk p k) (hk : k < 6) (h1 : up p k ≤ x) (h2 : x < up p k + 2 ^ (k+1)) : (p ≤ x ∧ x < p + 2 ^ k) ∨ (mate p k ≤ x ∧ x < mate p k + 2 ^ k) := by
  obtain ⟨_, g1, g2⟩ := hp
  unfold mate
  unfold up at h1 h2
  rcases six (show k ≤ 6 by omega) with rfl | rfl | rfl | rfl | rfl | rfl | rfl <;> simp at g1 g2 h1 h2 ⊢ <;> split <;> omega

/-- All of a block is free. -/
def FreeB (L : List (Nat × Nat)) (p k : Nat) : Prop := ∀ b, b ∈ L → ¬ Meet p k b.1 b.2
/-- A free block: all of it is free, and it is not half of a greater one that is. -/
def MaxF (L : List (Nat × Nat)) (p k : Nat) : Prop := Blk p k ∧ FreeB L p k ∧ (k = 6 ∨ ¬ FreeB L (up p k) (k+1))
/-- What is lent: blocks, two by two apart. -/
def Okay (L : List (Nat × Nat)) : Prop := (∀ b, b ∈ L → Blk b.1 b.2) ∧ L.Pairwise fun b c => ¬ Meet b.1 b.2 c.1 c.2
theorem FreeB.sub {L : List (Nat × Nat)} {p k q j : Nat} (h : FreeB L p k) (h1 : p ≤ q) (h2 : q + 2 ^ j ≤ p + 2 ^ k) : FreeB L q j := fun b hb hm =>
  h b hb ⟨by have := hm.1; omega, by have := hm.2; omega⟩
theorem free_halves {L : List (Nat × Nat)} {p k : Nat} (hp : Blk p k) (hk : k < 6) : FreeB L (up p k) (k+1) ↔ FreeB L p k ∧ FreeB L (mate p k) k := by
  constructor
  · intro h
    have h1 := up_in hp
    have h2 := up_in (mate_blk hp hk)
    rw [mate_up hp hk] at h2
    exact ⟨h.sub h1.1 h1.2, h.sub h2.1 h2.2⟩
  · rintro ⟨ha, hb⟩ b hbL hm
    -- a place in common
    obtain ⟨x, x1, x2, x3, x4⟩ : ∃ x, up p k ≤ x ∧ x < up p k + 2 ^ (k+1) ∧ b.1 ≤ x ∧ x < b.1 + 2 ^ b.2 := by
      have := hm.1
      have := hm.2
      have := pow_pos2 b.2
      have := pow_pos2 (k+1)
      by_cases h : up p k ≤ b.1
      · exact ⟨b.1, h, by omega, by omega, by omega⟩
      · exact ⟨up p k, by omega, by omega, by omega, by omega⟩
    rcases up_halves hp hk x1 x2 with ⟨y1, y2⟩ | ⟨y1, y2⟩
    · exact ha b hbL ⟨by omega, by omega⟩
    · exact hb b hbL ⟨by omega, by omega⟩
end Go.Proofs.YtjcikoaoemingaaDoor
