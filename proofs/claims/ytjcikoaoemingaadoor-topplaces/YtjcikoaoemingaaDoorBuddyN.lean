/- Lists alone, for chapter 15: the free blocks of an order, rising; each place is in just one block. -/
import Derived.Test.YtjcikoaoemingaaDoorBuddyM
namespace Go.Proofs.YtjcikoaoemingaaDoor

def freeT (L : List (Nat × Nat)) (p k : Nat) : Bool := L.all fun b => !(decide (b.1 < p + 2 ^ k) && decide (p < b.1 + 2 ^ b.2))
theorem freeT_iff (L : List (Nat × Nat)) (p k : Nat) : freeT L p k = true ↔ FreeB L p k := by
  unfold freeT FreeB Meet
  rw [List.all_eq_true]
  constructor
  · intro h b hb hm
    have := h b hb
    simp [hm.1, hm.2] at this
  · intro h b hb
    have := h b hb
    simp only [Bool.not_eq_true', Bool.and_eq_false_iff, decide_eq_false_iff_not]
    by_cases h1 : b.1 < p + 2 ^ k
    · exact .inr fun h2 => this ⟨h2, h1⟩
    · exact .inl h1
def maxT (L : List (Nat × Nat)) (p k : Nat) : Bool := freeT L p k && (k == 6 || !freeT L (up p k) (k+1))
theorem maxT_iff {L : List (Nat × Nat)} {p k : Nat} (hb : Blk p k) : maxT L p k = true ↔ MaxF L p k := by
  unfold maxT MaxF
  rw [Bool.and_eq_true, freeT_iff, Bool.or_eq_true, beq_iff_eq, Bool.not_eq_true', ← Bool.not_eq_true, freeT_iff]
  exact ⟨fun h => ⟨hb, h⟩, fun h => h.2⟩
/-- Where the free blocks of an order begin, rising. -/
def freeL (L : List (Nat × Nat)) (k : Nat) : List Nat := ((List.range (64 / 2 ^ k)).map (· * 2 ^ k)).filter (maxT L · k)
theorem grid_mem {k : Nat} (hk : k ≤ 6) {q : Nat} : q ∈ (List.range (64 / 2 ^ k)).map (· * 2 ^ k) ↔ Blk q k := by
  rw [List.mem_map]
  constructor
  · rintro ⟨i, hi, rfl⟩
    rw [List.mem_range] at hi
    refine ⟨hk, Nat.mul_mod_left _ _, ?_⟩
    rcases six hk with rfl | rfl | rfl | rfl | rfl | rfl | rfl <;> simp at hi ⊢ <;> omega
  · rintro ⟨_, h1, h2⟩
    refine ⟨q / 2 ^ k, ?_, ?_⟩
    · rw [List.mem_range]
      rcases six hk with rfl | rfl | rfl | rfl | rfl | rfl | rfl <;> simp at h1 h2 ⊢ <;> omega
    · have := Nat.div_add_mod q (2 ^ k)
      rw [Nat.mul_comm]; omega
theorem mem_freeL {L : List (Nat × Nat)} {k : Nat} (hk : k ≤ 6) {q : Nat} : q ∈ freeL L k ↔ MaxF L q k := by
  unfold freeL
  rw [List.mem_filter, grid_mem hk]
  constructor
  · exact fun h => (maxT_iff h.1).1 h.2
  · exact fun h => ⟨h.1, (maxT_iff h.1).2 h⟩
theorem freeL_rising (L : List (Nat × Nat)) (k : Nat) : (freeL L k).Pairwise (· < ·) := by
  unfold freeL
  refine List.Pairwise.filter _ ?_
  rw [List.pairwise_map]
  refine List.Pairwise.imp ?_ (List.pairwise_lt_range)
  intro a b hab
  exact Nat.mul_lt_mul_of_pos_right hab (pow_pos2 k)
/-- Rising lists with the same numbers are one. -/
theorem rising_eq : ∀ {A B : List Nat}, A.Pairwise (· < ·) → B.Pairwise (· < ·) → (∀ x, x ∈ A ↔ x ∈ B) → A = B
  | [], [], _, _, _ => rfl
  | [], b :: B, _, _, h => by have := (h b).2 (by simp); simp at this
  | a :: A, [], _, _, h => by have := (h a).1 (by simp); simp at this
  | a :: A, b :: B, hA, hB, h => by
    rw [List.pairwise_cons] at hA hB
    have hab : a = b := by
      rcases List.mem_cons.1 ((h a).1 (by simp)) with e | e
      · exact e
      · rcases List.mem_cons.1 ((h b).2 (by simp)) with e' | e'
        · exact e'.symm
        · have := hB.1 a e
          have := hA.1 b e'
          omega
    subst hab
    congr 1
    refine rising_eq hA.2 hB.2 fun x => ?_
    constructor
    · intro hx
      rcases List.mem_cons.1 ((h x).1 (by simp [hx])) with e | e
      · have := hA.1 x hx; omega
      · exact e
    · intro hx
      rcases List.mem_cons.1 ((h x).2 (by simp [hx])) with e | e
      · have := hB.1 x hx; omega
      · exact e
theorem freeL_eq {L M : List (Nat × Nat)} {k : Nat} (hk : k ≤ 6) (h : ∀ q, MaxF L q k ↔ MaxF M q k) : freeL L k = freeL M k :=
  rising_eq (freeL_rising L k) (freeL_rising M k) fun x => by rw [mem_freeL hk, mem_freeL hk, h]
/-- A rising list that holds just the free blocks of an order. -/
theorem freeL_is {L : List (Nat × Nat)} {k : Nat} (hk : k ≤ 6) {A : List Nat} (hA : A.Pairwise (· < ·)) (h : ∀ q, q ∈ A ↔ MaxF L q k) : A = freeL L k :=
  rising_eq hA (freeL_rising L k) fun x => by rw [mem_freeL hk, h]
theorem freeL_most (L : List (Nat × Nat)) (k : Nat) : (freeL L k).length ≤ 64 := by
  unfold freeL
  refine Nat.le_trans (List.length_filter_le _ _) ?_
  rw [List.length_map, List.length_range]
  exact Nat.div_le_self _ _
/-- Nothing is lent. -/
theorem maxF_none (q j : Nat) : MaxF [] q j ↔ q = 0 ∧ j = 6 := by
  constructor
  · rintro ⟨hb, _, h⟩
    rcases h with rfl | h
    · obtain ⟨_, _, h2⟩ := hb
      simp at h2
      exact ⟨by omega, rfl⟩
    · exact absurd (fun b hb => by simp at hb) h
  · rintro ⟨rfl, rfl⟩
    exact ⟨⟨by omega, by simp, by simp⟩, fun b hb => by simp at hb, .inl rfl⟩
theorem freeL_none {k : Nat} (hk : k ≤ 6) : freeL [] k = if k = 6 then [0] else [] := by
  symm
  refine freeL_is hk ?_ fun q => ?_
  · split <;> simp
  · rw [maxF_none]
    split
    · rename_i h; simp [h]
    · rename_i h; simp [h]
/-- No two halves of one are both free. -/
theorem no_halves {L : List (Nat × Nat)} {a k : Nat} (h1 : MaxF L a k) (h2 : MaxF L (a + 2 ^ k) k) : a % 2 ^ (k+1) ≠ 0 := by
  intro hm
  have hk := h1.1.1
  by_cases h6 : k = 6
  · subst h6
    have := h2.1.2.2
    simp at this
  · have e : mate a k = a + 2 ^ k := by unfold mate; rw [if_pos hm]
    rcases h1.2.2 with h | h
    · exact h6 h
    · exact h ((free_halves h1.1 (by omega)).2 ⟨h1.2.1, by rw [e]; exact h2.2.1⟩)

/-- All blocks, lent or free. -/
def allB (L : List (Nat × Nat)) : List (Nat × Nat) := L ++ (List.range 7).flatMap fun k => (freeL L k).map fun p => (p, k)
theorem mem_allB {L : List (Nat × Nat)} {b : Nat × Nat} : b ∈ allB L ↔ b ∈ L ∨ MaxF L b.1 b.2 := by
  unfold allB
  rw [List.mem_append, List.mem_flatMap]
  constructor
  · rintro (h | ⟨k, hk, h⟩)
    · exact .inl h
    · rw [List.mem_range] at hk
      obtain ⟨p, hp, rfl⟩ := List.mem_map.1 h
      exact .inr ((mem_freeL (by omega)).1 hp)
  · rintro (h | h)
    · exact .inl h
    · have hk := h.1.1
      exact .inr ⟨b.2, by rw [List.mem_range]; omega, List.mem_map.2 ⟨b.1, (mem_freeL hk).2 h, rfl⟩⟩
theorem allB_blk {L : List (Nat × Nat)} (hL : Okay L) {b : Nat × Nat} (hb : b ∈ allB L) : Blk b.1 b.2 := by
  rcases mem_allB.1 hb with h | h
  · exact hL.1 b h
  · exact h.1
theorem freeAll_nodup (L : List (Nat × Nat)) : ∀ n, ((List.range n).flatMap fun k => (freeL L k).map fun p => (p, k)).Nodup
  | 0 => by simp
  | n + 1 => by
    rw [List.range_succ, List.flatMap_append, List.nodup_append]
    refine ⟨freeAll_nodup L n, ?_, ?_⟩
    · rw [List.flatMap_singleton]
      refine List.Pairwise.map _ ?_ (freeL_rising L n)
      intro a b hab e
      have := congrArg Prod.fst e
      simp at this
      omega
    · intro a ha b hb e
      rw [List.mem_flatMap] at ha
      obtain ⟨k, hk, h⟩ := ha
      rw [List.mem_range] at hk
      obtain ⟨p, _, rfl⟩ := List.mem_map.1 h
      rw [List.flatMap_singleton] at hb
      obtain ⟨q, _, rfl⟩ := List.mem_map.1 hb
      have := congrArg Prod.snd e
      simp at this
      omega
theorem okay_nodup {L : List (Nat × Nat)} (hL : Okay L) : L.Nodup := by
  refine List.Pairwise.imp ?_ hL.2
  intro a b h e
  subst e
  exact h (meet_self _ _ _)
theorem allB_nodup {L : List (Nat × Nat)} (hL : Okay L) : (allB L).Nodup := by
  unfold allB
  refine List.nodup_append.2 ⟨okay_nodup hL, freeAll_nodup L 7, ?_⟩
  intro a ha b hb e
  subst e
  obtain ⟨k, hk, h⟩ := List.mem_flatMap.1 hb
  rw [List.mem_range] at hk
  obtain ⟨p, hp, rfl⟩ := List.mem_map.1 h
  exact ((mem_freeL (by omega)).1 hp).2.1 _ ha (meet_self _ _ _)
theorem okay_one : ∀ {L : List (Nat × Nat)}, Okay L → ∀ {b c : Nat × Nat}, b ∈ L → c ∈ L → Meet b.1 b.2 c.1 c.2 → b = c
  | [], _, _, _, hb, _, _ => by simp at hb
  | a :: L, hL, b, c, hb, hc, hm => by
    have hL2 : Okay L := ⟨fun x hx => hL.1 x (by simp [hx]), (List.pairwise_cons.1 hL.2).2⟩
    have ha := (List.pairwise_cons.1 hL.2).1
    rcases List.mem_cons.1 hb with e | hb'
    · rcases List.mem_cons.1 hc with e' | hc'
      · rw [e, e']
      · subst e; exact absurd hm (ha c hc')
    · rcases List.mem_cons.1 hc with e' | hc'
      · subst e'; exact absurd hm.symm (ha b hb')
      · exact okay_one hL2 hb' hc' hm
def inB2 (x : Nat) (b : Nat × Nat) : Bool := decide (b.1 ≤ x) && decide (x < b.1 + 2 ^ b.2)
theorem count_one {α : Type} {P : α → Bool} : ∀ {l : List α}, l.Nodup → ∀ {a : α}, a ∈ l → P a = true → (∀ b, b ∈ l → P b = true → b = a) → l.countP P = 1
  | [], _, _, ha, _, _ => by simp at ha
  | c :: l, hn, a, ha, hP, hu => by
    rw [List.nodup_cons] at hn
    rw [List.countP_cons]
    by_cases hc : P c = true
    · have e : c = a := hu c (by simp) hc
      subst e
      have : l.countP P = 0 := by
        rw [List.countP_eq_zero]
        intro b hb hPb
        have := hu b (by simp [hb]) hPb
        subst this
        exact hn.1 hb
      rw [this, if_pos hc]
    · rw [if_neg hc, Nat.add_zero]
      have ha2 : a ∈ l := by
        rcases List.mem_cons.1 ha with rfl | h
        · exact absurd hP hc
        · exact h
      exact count_one hn.2 ha2 hP fun b hb => hu b (by simp [hb])
/-- Knowlton: blocks part the places. -/
theorem buddy_apart {L : List (Nat × Nat)} (hL : Okay L) {x : Nat} (hx : x < 64) : (allB L).countP (inB2 x) = 1 := by
  obtain ⟨a, ha, h1, h2⟩ : ∃ a, a ∈ allB L ∧ a.1 ≤ x ∧ x < a.1 + 2 ^ a.2 := by
    rcases covered (L := L) hx with ⟨b, hb, h1, h2⟩ | ⟨P, K, hM, h1, h2⟩
    · exact ⟨b, mem_allB.2 (.inl hb), h1, h2⟩
    · exact ⟨(P, K), mem_allB.2 (.inr hM), h1, h2⟩
  refine count_one (allB_nodup hL) ha (by simp [inB2, h1, h2]) fun b hb hP => ?_
  have hP : b.1 ≤ x ∧ x < b.1 + 2 ^ b.2 := by simpa [inB2] using hP
  have hm : Meet b.1 b.2 a.1 a.2 := ⟨by omega, by omega⟩
  rcases mem_allB.1 hb with h | h
  · rcases mem_allB.1 ha with g | g
    · exact okay_one hL h g hm
    · exact absurd hm.symm (g.2.1 b h)
  · rcases mem_allB.1 ha with g | g
    · exact absurd hm (h.2.1 a g)
    · have := maxF_apart h g hm
      exact Prod.ext this.1 this.2
end Go.Proofs.YtjcikoaoemingaaDoor
