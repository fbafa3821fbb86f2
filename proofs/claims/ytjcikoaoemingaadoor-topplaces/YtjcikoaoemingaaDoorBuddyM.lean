/- Lists and numbers alone, for chapter 15: free blocks part what is not lent; what lending and giving back do to them. -/
import Derived.Test.YtjcikoaoemingaaDoorBuddyL
namespace Go.Proofs.YtjcikoaoemingaaDoor

theorem in_up {L : List (Nat × Nat)} {p k q j : Nat} (hp : Blk p k) (hq : Blk q j) (hjk : j < k) (hm : Meet p k q j) (hf : FreeB L p k) : FreeB L (up q j) (j+1) := by
  have hk := hp.1
  have hu := up_blk hq (by omega)
  have hi := up_in hq
  have hm2 : Meet p k (up q j) (j+1) := ⟨by have := hm.1; omega, by have := hm.2; omega⟩
  have := nest hp hu (by omega) hm2
  exact hf.sub this.1 this.2
/-- Two free blocks are apart, or one. -/
theorem maxF_apart {L : List (Nat × Nat)} {p k q j : Nat} (hp : MaxF L p k) (hq : MaxF L q j) (hm : Meet p k q j) : p = q ∧ k = j := by
  rcases Nat.lt_trichotomy j k with h | h | h
  · exfalso
    have := in_up hp.1 hq.1 h hm hp.2.1
    rcases hq.2.2 with e | e
    · have := hp.1.1; omega
    · exact e this
  · subst h
    have a := nest hp.1 hq.1 (Nat.le_refl _) hm
    have b := nest hq.1 hp.1 (Nat.le_refl _) hm.symm
    exact ⟨by omega, rfl⟩
  · exfalso
    have := in_up hq.1 hp.1 h hm.symm hq.2.1
    rcases hp.2.2 with e | e
    · have := hq.1.1; omega
    · exact e this
theorem meet_self (p k j : Nat) : Meet p k p j := ⟨by have := pow_pos2 j; omega, by have := pow_pos2 k; omega⟩
theorem meet_in {p k q j : Nat} (h1 : p ≤ q) (h2 : q + 2 ^ j ≤ p + 2 ^ k) : Meet p k q j := ⟨by have := pow_pos2 j; omega, by have := pow_pos2 j; omega⟩
/-- A free block that holds a block all of which is free. -/
theorem maxF_above {L : List (Nat × Nat)} : ∀ d {p k : Nat}, Blk p k → k + d = 6 → FreeB L p k → ∃ P K, MaxF L P K ∧ k ≤ K ∧ P ≤ p ∧ p + 2 ^ k ≤ P + 2 ^ K
  | 0, p, k, hp, hd, hf => ⟨p, k, ⟨hp, hf, .inl (by omega)⟩, Nat.le_refl _, Nat.le_refl _, Nat.le_refl _⟩
  | d + 1, p, k, hp, hd, hf => by
    by_cases h : FreeB L (up p k) (k+1)
    · obtain ⟨P, K, hM, h1, h2, h3⟩ := maxF_above d (up_blk hp (by omega)) (by omega) h
      have := up_in hp
      exact ⟨P, K, hM, by omega, by omega, by omega⟩
    · exact ⟨p, k, ⟨hp, hf, .inr h⟩, Nat.le_refl _, Nat.le_refl _, Nat.le_refl _⟩
/-- Each place is in a block that is lent, or in a free one. -/
theorem covered {L : List (Nat × Nat)} {x : Nat} (hx : x < 64) : (∃ b, b ∈ L ∧ b.1 ≤ x ∧ x < b.1 + 2 ^ b.2) ∨ ∃ P K, MaxF L P K ∧ P ≤ x ∧ x < P + 2 ^ K := by
  by_cases h : FreeB L x 0
  · obtain ⟨P, K, hM, _, h2, h3⟩ := maxF_above 6 ⟨by omega, Nat.mod_one x, by simp; omega⟩ rfl h
    simp at h3
    exact .inr ⟨P, K, hM, h2, by omega⟩
  · refine .inl (Classical.byContradiction fun hn => h fun b hb hm => hn ⟨b, hb, ?_, ?_⟩)
    · have := hm.2; simp at this; omega
    · exact hm.1
theorem free_cons {L : List (Nat × Nat)} {p o q j : Nat} : FreeB ((p, o) :: L) q j ↔ ¬ Meet q j p o ∧ FreeB L q j := by
  constructor
  · exact fun h => ⟨h (p, o) (by simp), fun b hb => h b (by simp [hb])⟩
  · rintro ⟨h1, h2⟩ b hb
    rcases List.mem_cons.1 hb with rfl | hb
    · exact h1
    · exact h2 b hb
theorem free_perm {L M : List (Nat × Nat)} (h : ∀ b, b ∈ L ↔ b ∈ M) {p k : Nat} : FreeB L p k ↔ FreeB M p k :=
  ⟨fun f b hb => f b ((h b).2 hb), fun f b hb => f b ((h b).1 hb)⟩
theorem maxF_perm {L M : List (Nat × Nat)} (h : ∀ b, b ∈ L ↔ b ∈ M) {p k : Nat} : MaxF L p k ↔ MaxF M p k := by
  unfold MaxF
  rw [free_perm h, free_perm h]
theorem pow_le {j k : Nat} (h : j ≤ k) : 2 ^ j ≤ 2 ^ k := Nat.pow_le_pow_right (by omega) h
theorem pow_dbl (j : Nat) : 2 ^ (j+1) = 2 ^ j + 2 ^ j := by rw [Nat.pow_succ]; omega
theorem mod_less {p j k : Nat} (h : j ≤ k) (hp : p % 2 ^ k = 0) : p % 2 ^ j = 0 := by
  obtain ⟨d, rfl⟩ : ∃ d, k = j + d := ⟨k - j, by omega⟩
  obtain ⟨a, rfl⟩ : ∃ a, p = 2 ^ (j + d) * a := ⟨p / 2 ^ (j + d), by have := Nat.div_add_mod p (2 ^ (j + d)); omega⟩
  rw [Nat.pow_add, Nat.mul_assoc]
  exact Nat.mul_mod_right _ _
/-- A block's second half, and so on down: what halving leaves. -/
theorem half_blk {p k j : Nat} (hp : Blk p k) (hjk : j < k) : Blk (p + 2 ^ j) j ∧ up (p + 2 ^ j) j = p := by
  obtain ⟨h1, h2, h3⟩ := hp
  have e := pow_dbl j
  have hl := pow_le (show j + 1 ≤ k by omega)
  have m1 := mod_less (show j ≤ k by omega) h2
  have m2 := mod_less (show j + 1 ≤ k by omega) h2
  have hp := pow_pos2 j
  have hm : (p + 2 ^ j) % 2 ^ (j+1) = 2 ^ j := by
    rw [Nat.add_mod, m2, Nat.zero_add, Nat.mod_mod]
    exact Nat.mod_eq_of_lt (by omega)
  refine ⟨⟨by omega, by rw [Nat.add_mod_right]; exact m1, by omega⟩, ?_⟩
  unfold up
  rw [hm]
  omega
/-- What lending does: of the free block (p, k) the first part, of the order o, is lent. -/
theorem lend_maxF {L : List (Nat × Nat)} {p k o : Nat} (hM : MaxF L p k) (hok : o ≤ k) (q j : Nat) :
    MaxF ((p, o) :: L) q j ↔ (MaxF L q j ∧ ¬ (q = p ∧ j = k)) ∨ (o ≤ j ∧ j < k ∧ q = p + 2 ^ j) := by
  have hk6 := hM.1.1
  have hpo : 2 ^ o ≤ 2 ^ k := pow_le hok
  constructor
  · rintro ⟨hb, hf, hu⟩
    rw [free_cons] at hf
    have hj6 := hb.1
    by_cases hm : Meet p k q j
    · right
      have hjk : j < k := by
        refine Nat.lt_of_not_le fun h => hf.1 ?_
        have := nest hb hM.1 h hm.symm
        exact meet_in this.1 (by omega)
      have hin := nest hM.1 hb (by omega) hm
      have hub := up_blk hb (by omega)
      have hui := up_in hb
      have hmu : Meet p k (up q j) (j+1) := ⟨by have := hm.1; omega, by have := hm.2; omega⟩
      have hun := nest hM.1 hub (by omega) hmu
      have hmo : Meet (up q j) (j+1) p o := by
        rcases hu with h | h
        · omega
        · exact Classical.byContradiction fun hn => h (free_cons.2 ⟨hn, hM.2.1.sub hun.1 hun.2⟩)
      have hbo : Blk p o := ⟨by omega, mod_less hok hM.1.2.1, by have := hM.1.2.2; omega⟩
      have hoj : o ≤ j := by
        refine Nat.le_of_not_lt fun h => hf.1 ?_
        have := nest hbo hub (by omega) hmo.symm
        exact (meet_in (by omega) (by omega) : Meet p o q j).symm
      have hun2 := nest hub hbo (by omega) hmo
      have hup : up q j = p := by omega
      have hqp : q ≠ p := fun e => hf.1 (by rw [e]; exact meet_self _ _ _)
      refine ⟨hoj, hjk, ?_⟩
      have hmod := half_mod hb.2.1
      unfold up at hup
      rcases hmod with h | h <;> rw [h] at hup
      · omega
      · have := Nat.mod_le q (2 ^ (j+1)); omega
    · left
      refine ⟨⟨hb, hf.2, ?_⟩, ?_⟩
      · by_cases hj : j = 6
        · exact .inl hj
        · right
          intro hfu
          rcases hu with h | h
          · exact hj h
          · apply h
            rw [free_cons]
            refine ⟨fun hmo => ?_, hfu⟩
            have hub := up_blk hb (by omega)
            have hui := up_in hb
            have hmp : Meet (up q j) (j+1) p k := ⟨by have := hmo.1; omega, hmo.2⟩
            by_cases hjk : j + 1 ≤ k
            · have := nest hM.1 hub hjk hmp.symm
              exact hm (meet_in (by omega) (by omega))
            · have := in_up hub hM.1 (by omega) hmp hfu
              rcases hM.2.2 with e | e
              · omega
              · exact e this
      · rintro ⟨rfl, rfl⟩
        exact hm (meet_self _ _ _)
  · rintro (⟨hq, hne⟩ | ⟨h1, h2, rfl⟩)
    · have hap : ¬ Meet q j p k := fun hm => hne (by have := maxF_apart hq hM hm; exact this)
      refine ⟨hq.1, free_cons.2 ⟨fun hm => hap ⟨by have := hm.1; omega, hm.2⟩, hq.2.1⟩, ?_⟩
      rcases hq.2.2 with e | e
      · exact .inl e
      · exact .inr fun h => e (free_cons.1 h).2
    · have hh := half_blk hM.1 h2
      have e := pow_dbl j
      have hl := pow_le (show j + 1 ≤ k by omega)
      have ho := pow_le h1
      have hp2 := pow_pos2 j
      refine ⟨hh.1, free_cons.2 ⟨fun hm => ?_, hM.2.1.sub (by omega) (by omega)⟩, .inr fun h => ?_⟩
      · have := hm.1; omega
      · rw [hh.2] at h
        exact (free_cons.1 h).1 (meet_self _ _ _)

theorem lend_okay {L : List (Nat × Nat)} {p k o : Nat} (hL : Okay L) (hM : MaxF L p k) (hok : o ≤ k) : Okay ((p, o) :: L) := by
  have hpo : 2 ^ o ≤ 2 ^ k := pow_le hok
  have hk6 := hM.1.1
  refine ⟨fun b hb => ?_, List.pairwise_cons.2 ⟨fun b hb hm => ?_, hL.2⟩⟩
  · rcases List.mem_cons.1 hb with rfl | hb
    · exact ⟨by show o ≤ 6; omega, mod_less hok hM.1.2.1, by have := hM.1.2.2; show p + 2 ^ o ≤ 64; omega⟩
    · exact hL.1 b hb
  · exact hM.2.1 b hb ⟨hm.1, by have := hm.2; simp only at this; omega⟩

/-- Giving back: M is what is lent without the block (p0, o0), which was lent in L. -/
structure Gone (L M : List (Nat × Nat)) (p0 o0 : Nat) : Prop where
  here : (p0, o0) ∈ L
  sub : ∀ b, b ∈ M → b ∈ L
  rest : ∀ b, b ∈ L → b = (p0, o0) ∨ b ∈ M
  blk : Blk p0 o0
  apart : FreeB M p0 o0
theorem Gone.free {L M : List (Nat × Nat)} {p0 o0 q j : Nat} (g : Gone L M p0 o0) : FreeB L q j ↔ ¬ Meet q j p0 o0 ∧ FreeB M q j := by
  constructor
  · exact fun h => ⟨h (p0, o0) g.here, fun b hb => h b (g.sub b hb)⟩
  · rintro ⟨h1, h2⟩ b hb
    rcases g.rest b hb with rfl | hb
    · exact h1
    · exact h2 b hb
/-- The other half is a free block just if both together are free then. -/
theorem Gone.mate {L M : List (Nat × Nat)} {p0 o0 p o : Nat} (g : Gone L M p0 o0) (hp : Blk p o) (ho : o < 6) (hf : FreeB M p o) (h1 : p ≤ p0) (h2 : p0 + 2 ^ o0 ≤ p + 2 ^ o) :
    MaxF L (mate p o) o ↔ FreeB M (up p o) (o+1) := by
  rw [free_halves hp ho]
  have hmb := mate_blk hp ho
  have hap := mate_apart hp ho
  constructor
  · exact fun h => ⟨hf, (g.free.1 h.2.1).2⟩
  · rintro ⟨_, hm⟩
    refine ⟨hmb, g.free.2 ⟨fun h => hap ?_, hm⟩, .inr fun h => ?_⟩
    · exact ⟨by have := h.2; omega, by have := h.1; omega⟩
    · rw [mate_up hp ho] at h
      have hu := up_in hp
      exact (g.free.1 h).1 (meet_in (by omega) (by omega))
/-- Free blocks that are apart from what was put together so far: one step more. -/
theorem merge_step {L : List (Nat × Nat)} {p o : Nat} (hp : Blk p o) (ho : o < 6) (hM : MaxF L (mate p o) o) (q j : Nat) :
    (MaxF L q j ∧ ¬ Meet q j (up p o) (o+1)) ↔ (MaxF L q j ∧ ¬ Meet q j p o) ∧ ¬ (q = mate p o ∧ j = o) := by
  have hu := up_in hp
  have hmu := up_in (mate_blk hp ho)
  rw [mate_up hp ho] at hmu
  constructor
  · rintro ⟨h1, h2⟩
    refine ⟨⟨h1, fun hm => h2 ⟨by have := hm.1; omega, by have := hm.2; omega⟩⟩, ?_⟩
    rintro ⟨rfl, rfl⟩
    exact h2 (meet_in (by omega) (by omega) : Meet (up p j) (j+1) (Go.Proofs.YtjcikoaoemingaaDoor.mate p j) j).symm
  · rintro ⟨⟨h1, h2⟩, h3⟩
    refine ⟨h1, fun hm => ?_⟩
    obtain ⟨x, x1, x2, x3, x4⟩ : ∃ x, up p o ≤ x ∧ x < up p o + 2 ^ (o+1) ∧ q ≤ x ∧ x < q + 2 ^ j := by
      have := hm.1
      have := hm.2
      have := pow_pos2 j
      have := pow_pos2 (o+1)
      by_cases h : up p o ≤ q
      · exact ⟨q, h, by omega, by omega, by omega⟩
      · exact ⟨up p o, by omega, by omega, by omega, by omega⟩
    rcases up_halves hp ho x1 x2 with ⟨y1, y2⟩ | ⟨y1, y2⟩
    · exact h2 ⟨by omega, by omega⟩
    · exact h3 (maxF_apart h1 hM ⟨by omega, by omega⟩)
theorem merge_start {L : List (Nat × Nat)} {p0 o0 : Nat} (h : (p0, o0) ∈ L) (q j : Nat) : (MaxF L q j ∧ ¬ Meet q j p0 o0) ↔ MaxF L q j :=
  ⟨fun h => h.1, fun hq => ⟨hq, hq.2.1 (p0, o0) h⟩⟩
/-- What giving back does: (P, O) is the block that was put together. -/
theorem Gone.maxF {L M : List (Nat × Nat)} {p0 o0 P O : Nat} (g : Gone L M p0 o0) (hM : MaxF M P O) (h1 : P ≤ p0) (h2 : p0 + 2 ^ o0 ≤ P + 2 ^ O) (q j : Nat) :
    MaxF M q j ↔ (MaxF L q j ∧ ¬ Meet q j P O) ∨ (q = P ∧ j = O) := by
  constructor
  · intro hq
    by_cases he : q = P ∧ j = O
    · exact .inr he
    · have hap : ¬ Meet q j P O := fun hm => he (maxF_apart hq hM hm)
      refine .inl ⟨⟨hq.1, g.free.2 ⟨fun hm => hap ⟨by have := hm.1; omega, by have := hm.2; omega⟩, hq.2.1⟩, ?_⟩, hap⟩
      rcases hq.2.2 with e | e
      · exact .inl e
      · exact .inr fun h => e (g.free.1 h).2
  · rintro (⟨hq, hap⟩ | ⟨rfl, rfl⟩)
    · refine ⟨hq.1, (g.free.1 hq.2.1).2, ?_⟩
      by_cases hj : j = 6
      · exact .inl hj
      · right
        intro hf
        have hb6 := hq.1.1
        have hub := up_blk hq.1 (by omega)
        have hui := up_in hq.1
        rcases hq.2.2 with e | e
        · exact hj e
        · apply e
          refine g.free.2 ⟨fun hm => ?_, hf⟩
          have hmp : Meet (up q j) (j+1) P O := ⟨by have := hm.1; omega, by have := hm.2; omega⟩
          have hO6 := hM.1.1
          by_cases hjk : j + 1 ≤ O
          · have := nest hM.1 hub hjk hmp.symm
            exact hap (meet_in (by omega) (by omega) : Meet P O q j).symm
          · have := in_up hub hM.1 (by omega) hmp hf
            rcases hM.2.2 with e | e
            · omega
            · exact e this
    · exact hM
end Go.Proofs.YtjcikoaoemingaaDoor
