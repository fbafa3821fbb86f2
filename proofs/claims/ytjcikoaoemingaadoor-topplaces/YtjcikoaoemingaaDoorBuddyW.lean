/- Lists and numbers alone, for chapter 15: a set of places as a number of 64 bits; what is lent, by rising places. -/
import Derived.Test.YtjcikoaoemingaaDoorBuddyN
import Derived.Lib.TrailingZeros
namespace Go.Proofs.YtjcikoaoemingaaDoor

/-- The number x has the places of S as its bits. -/
def Bits (x : Nat) (S : Nat → Prop) : Prop := x < 18446744073709551616 ∧ ∀ q, x.testBit q = true ↔ S q
theorem Bits.lt64 {x : Nat} {S : Nat → Prop} (h : Bits x S) {q : Nat} (hq : S q) : q < 64 := by
  refine Nat.lt_of_not_le fun hle => ?_
  have h1 := (h.2 q).2 hq
  rw [Nat.testBit_lt_two_pow (Nat.lt_of_lt_of_le h.1 (by have : 2 ^ 64 ≤ 2 ^ q := Nat.pow_le_pow_right (by decide) hle; exact this))] at h1
  cases h1
theorem Bits.congr {x : Nat} {S T : Nat → Prop} (h : Bits x S) (e : ∀ q, S q ↔ T q) : Bits x T := ⟨h.1, fun q => (h.2 q).trans (e q)⟩
theorem one_lt {at_ : Nat} (h : at_ < 64) : 2 ^ at_ < 18446744073709551616 := by
  have : 2 ^ at_ < 2 ^ 64 := Nat.pow_lt_pow_right (by decide) h
  exact this
/-- One place more. -/
theorem Bits.put {x p : Nat} {S : Nat → Prop} (h : Bits x S) (hp : p < 64) : Bits (x ||| 2 ^ p) fun q => S q ∨ q = p := by
  refine ⟨Nat.or_lt_two_pow (n := 64) h.1 (one_lt hp), fun q => ?_⟩
  rw [Nat.testBit_or, Bool.or_eq_true, h.2, Nat.testBit_two_pow, decide_eq_true_eq]
  exact ⟨fun h => h.imp id Eq.symm, fun h => h.imp id Eq.symm⟩
/-- One place less. -/
theorem Bits.drop {x p : Nat} {S : Nat → Prop} (h : Bits x S) (hp : p < 64) : Bits (x &&& (18446744073709551615 - 2 ^ p)) fun q => S q ∧ q ≠ p := by
  refine ⟨Nat.lt_of_le_of_lt Nat.and_le_left h.1, fun q => ?_⟩
  rw [Nat.testBit_and, Bool.and_eq_true, h.2]
  have e : 18446744073709551615 - 2 ^ p = 2 ^ 64 - (2 ^ p + 1) := by omega
  constructor
  · rintro ⟨h1, h2⟩
    refine ⟨h1, fun hq => ?_⟩
    rw [e, Nat.testBit_two_pow_sub_succ (one_lt hp), Nat.testBit_two_pow] at h2
    simp [hq] at h2
  · rintro ⟨h1, h2⟩
    refine ⟨h1, ?_⟩
    have hq := h.lt64 h1
    rw [e, Nat.testBit_two_pow_sub_succ (one_lt hp), Nat.testBit_two_pow]
    simp [hq, Ne.symm h2]
/-- Is a place there? -/
theorem Bits.has {x : Nat} {S : Nat → Prop} (h : Bits x S) (p : Nat) : (x / 2 ^ p) % 2 = 1 ↔ S p := by
  rw [← h.2, Nat.testBit_eq_decide_div_mod_eq, decide_eq_true_eq]
theorem Bits.zero {x : Nat} {S : Nat → Prop} (h : Bits x S) : x = 0 ↔ ∀ q, ¬ S q := by
  constructor
  · rintro rfl q hq
    have := (h.2 q).2 hq
    simp at this
  · intro hn
    refine Nat.eq_of_testBit_eq fun q => ?_
    have : x.testBit q = false := by
      cases hb : x.testBit q
      · rfl
      · exact absurd ((h.2 q).1 hb) (hn q)
    rw [this, Nat.zero_testBit]
/-- The least place. -/
theorem Bits.first {x : Nat} {S : Nat → Prop} (h : Bits x S) (h0 : x ≠ 0) : S (Lib.ctz 64 x) ∧ Lib.ctz 64 x < 64 ∧ ∀ q, S q → Lib.ctz 64 x ≤ q := by
  obtain ⟨m, hm, hlt⟩ := Lib.ctzFrom_spec 64 x (by omega) h.1
  have e : Lib.ctz 64 x = Lib.ctzFrom 64 x := by unfold Lib.ctz; rw [if_neg h0]
  rw [e]
  generalize Lib.ctzFrom 64 x = c at hm hlt
  refine ⟨(h.2 c).1 ?_, hlt, fun q hq => Nat.le_of_not_lt fun hlt2 => ?_⟩
  · rw [hm, Nat.mul_comm, Nat.testBit_mul_two_pow]
    simp [Nat.testBit_zero]
  · have := (h.2 q).2 hq
    rw [hm, Nat.mul_comm, Nat.testBit_mul_two_pow] at this
    simp at this
    omega
/-- The bits of a number, rising. -/
def bitsUp (x : Nat) : List Nat := (List.range 64).filter x.testBit
theorem Bits.mem {x : Nat} {S : Nat → Prop} (h : Bits x S) {q : Nat} : q ∈ bitsUp x ↔ S q := by
  unfold bitsUp
  rw [List.mem_filter, h.2, List.mem_range]
  exact ⟨fun h => h.2, fun hq => ⟨h.lt64 hq, hq⟩⟩
theorem bitsUp_rising (x : Nat) : (bitsUp x).Pairwise (· < ·) := List.Pairwise.filter _ List.pairwise_lt_range
theorem bitsUp_zero : bitsUp 0 = [] := by unfold bitsUp; rw [List.filter_eq_nil_iff]; intro a _; simp
/-- The first one, and the rest. -/
theorem Bits.up {x : Nat} {S : Nat → Prop} (h : Bits x S) (h0 : x ≠ 0) : bitsUp x = Lib.ctz 64 x :: bitsUp (x &&& (18446744073709551615 - 2 ^ Lib.ctz 64 x)) := by
  obtain ⟨h1, h2, h3⟩ := h.first h0
  have hd := h.drop h2
  refine rising_eq (bitsUp_rising x) (List.pairwise_cons.2 ⟨fun q hq => ?_, bitsUp_rising _⟩) fun q => ?_
  · have := hd.mem.1 hq
    have := h3 q this.1
    omega
  · rw [h.mem, List.mem_cons, hd.mem]
    constructor
    · intro hq
      by_cases e : q = Lib.ctz 64 x
      · exact .inl e
      · exact .inr ⟨hq, e⟩
    · rintro (rfl | h)
      · exact h1
      · exact h.1

/-- x xor 2^k at a multiple of 2^k. -/
theorem xor_mate : ∀ p, p < 64 → ∀ k, k < 7 → p ^^^ 2 ^ k = if p / 2 ^ k % 2 = 0 then p + 2 ^ k else p - 2 ^ k := by decide +kernel
theorem xor_is_mate {p k : Nat} (h : Blk p k) : p ^^^ 2 ^ k = mate p k := by
  obtain ⟨hk, h1, h2⟩ := h
  have := pow_pos2 k
  rw [xor_mate p (by omega) k (by omega)]
  unfold mate
  have e : p % 2 ^ (k+1) = 0 ↔ p / 2 ^ k % 2 = 0 := by
    rw [Nat.pow_succ, Nat.mod_mul, h1, Nat.zero_add]
    constructor
    · intro h
      rcases Nat.mul_eq_zero.1 h with h | h
      · omega
      · exact h
    · intro h; rw [h]; rfl
  by_cases hc : p / 2 ^ k % 2 = 0
  · rw [if_pos hc, if_pos (e.2 hc)]
  · rw [if_neg hc, if_neg (fun h => hc (e.1 h))]

/-! What is lent, by rising places. -/
def Up (L : List (Nat × Nat)) : Prop := L.Pairwise fun b c => b.1 < c.1
def insP (p o : Nat) : List (Nat × Nat) → List (Nat × Nat)
  | [] => [(p, o)]
  | b :: L => if b.1 < p then b :: insP p o L else (p, o) :: b :: L
theorem mem_insP {p o : Nat} : ∀ {L : List (Nat × Nat)} {b : Nat × Nat}, b ∈ insP p o L ↔ b = (p, o) ∨ b ∈ L
  | [], b => by simp [insP]
  | c :: L, b => by
    unfold insP
    split
    · rw [List.mem_cons, mem_insP, List.mem_cons]
      exact ⟨fun h => by rcases h with h | h | h <;> simp [h], fun h => by rcases h with h | h | h <;> simp [h]⟩
    · rw [List.mem_cons]
theorem insP_up {p o : Nat} : ∀ {L : List (Nat × Nat)}, Up L → (∀ b, b ∈ L → b.1 ≠ p) → Up (insP p o L)
  | [], _, _ => by simp [insP, Up]
  | c :: L, h, hn => by
    obtain ⟨h1, h2⟩ := List.pairwise_cons.1 h
    unfold insP
    split
    · rename_i hc
      refine List.pairwise_cons.2 ⟨fun b hb => ?_, insP_up h2 fun b hb => hn b (by simp [hb])⟩
      rcases mem_insP.1 hb with rfl | hb
      · exact hc
      · exact h1 b hb
    · rename_i hc
      have := hn c (by simp)
      refine List.pairwise_cons.2 ⟨fun b hb => ?_, h⟩
      rcases List.mem_cons.1 hb with rfl | hb
      · show p < b.1; omega
      · have := h1 b hb; show p < b.1; omega
theorem Okay.perm {L M : List (Nat × Nat)} (h : Okay L) (hp : L.Perm M) : Okay M :=
  ⟨fun b hb => h.1 b (hp.mem_iff.2 hb), (hp.pairwise_iff (fun {a b} (h : ¬ Meet a.1 a.2 b.1 b.2) hm => h hm.symm)).1 h.2⟩
theorem insP_perm {p o : Nat} : ∀ {L : List (Nat × Nat)}, (insP p o L).Perm ((p, o) :: L)
  | [] => by simp [insP]
  | c :: L => by
    unfold insP
    split
    · exact (List.Perm.cons c (insP_perm (L := L))).trans (List.Perm.swap ..)
    · exact List.Perm.refl _
/-- Which order is lent from a place on? -/
def look (L : List (Nat × Nat)) (z : Int) : Option Nat := (L.find? fun b => (b.1 : Int) == z).map (·.2)
theorem look_some {L : List (Nat × Nat)} {z : Int} {o : Nat} (h : look L z = some o) : ∃ p : Nat, z = p ∧ (p, o) ∈ L := by
  unfold look at h
  obtain ⟨b, hb, rfl⟩ := Option.map_eq_some_iff.1 h
  have h1 := List.find?_some hb
  exact ⟨b.1, by simpa using (beq_iff_eq.1 h1).symm, List.mem_of_find?_eq_some hb⟩
theorem look_none {L : List (Nat × Nat)} {z : Int} (h : look L z = none) : ∀ b, b ∈ L → (b.1 : Int) ≠ z := by
  unfold look at h
  rw [Option.map_eq_none_iff, List.find?_eq_none] at h
  intro b hb e
  exact h b hb (by simp [e])
theorem up_one : ∀ {L : List (Nat × Nat)}, Up L → ∀ {p o o' : Nat}, (p, o) ∈ L → (p, o') ∈ L → o = o'
  | [], _, _, _, _, h, _ => by simp at h
  | c :: L, h, p, o, o', h1, h2 => by
    obtain ⟨g1, g2⟩ := List.pairwise_cons.1 h
    rcases List.mem_cons.1 h1 with e | h1'
    · rcases List.mem_cons.1 h2 with e' | h2'
      · have := e.trans e'.symm
        exact congrArg Prod.snd this
      · have := g1 _ h2'
        rw [← e] at this
        simp at this
    · rcases List.mem_cons.1 h2 with e' | h2'
      · have := g1 _ h1'
        rw [← e'] at this
        simp at this
      · exact up_one g2 h1' h2'
theorem look_of {L : List (Nat × Nat)} (hL : Up L) {p o : Nat} (h : (p, o) ∈ L) : look L p = some o := by
  cases hl : look L p with
  | none => exact absurd rfl (look_none hl _ h)
  | some o' =>
    obtain ⟨p', e, h'⟩ := look_some hl
    have : p = p' := by omega
    subst this
    rw [up_one hL h h']
/-- Without the block at a place. -/
def delP (p : Nat) (L : List (Nat × Nat)) : List (Nat × Nat) := L.filter fun b => !(b.1 == p)
theorem mem_delP {p : Nat} {L : List (Nat × Nat)} {b : Nat × Nat} : b ∈ delP p L ↔ b ∈ L ∧ b.1 ≠ p := by
  unfold delP
  rw [List.mem_filter]
  simp
theorem delP_up {p : Nat} {L : List (Nat × Nat)} (h : Up L) : Up (delP p L) := List.Pairwise.filter _ h
theorem delP_okay {p : Nat} {L : List (Nat × Nat)} (h : Okay L) : Okay (delP p L) := ⟨fun b hb => h.1 b (mem_delP.1 hb).1, List.Pairwise.filter _ h.2⟩
theorem gone_of {L : List (Nat × Nat)} (hU : Up L) (hL : Okay L) {p o : Nat} (h : (p, o) ∈ L) : Gone L (delP p L) p o where
  here := h
  sub b hb := (mem_delP.1 hb).1
  rest b hb := by
    by_cases e : b.1 = p
    · left
      obtain ⟨b1, b2⟩ := b
      simp only at e
      subst e
      rw [up_one hU hb h]
    · exact .inr (mem_delP.2 ⟨hb, e⟩)
  blk := hL.1 _ h
  apart b hb hm := by
    obtain ⟨h1, h2⟩ := mem_delP.1 hb
    have := okay_one hL h1 h hm.symm
    rw [this] at h2
    exact h2 rfl
/-- Lent, and given back at once. -/
theorem del_ins {p o : Nat} {L : List (Nat × Nat)} (h : ∀ b, b ∈ L → b.1 ≠ p) : delP p (insP p o L) = L := by
  induction L with
  | nil => simp [insP, delP]
  | cons c L ih =>
    have hc := h c (by simp)
    have hf : delP p L = L := by
      unfold delP
      rw [List.filter_eq_self]
      intro b hb
      have := h b (by simp [hb])
      simp [this]
    have hi := ih fun b hb => h b (by simp [hb])
    unfold insP
    split
    · unfold delP at hi ⊢
      rw [List.filter_cons, hi]
      simp [hc]
    · unfold delP at hf ⊢
      rw [List.filter_cons, List.filter_cons, hf]
      simp [hc]
theorem free_apart {L : List (Nat × Nat)} {p k : Nat} (h : MaxF L p k) : ∀ b, b ∈ L → b.1 ≠ p := by
  intro b hb e
  exact h.2.1 b hb (by rw [← e]; exact meet_self _ _ _)
theorem lent_most {L : List (Nat × Nat)} (hU : Up L) (hL : Okay L) : L.length ≤ 64 := by
  have h : ∀ n, ∀ l : List (Nat × Nat), l.Pairwise (fun b c => b.1 < c.1) → (∀ b, b ∈ l → b.1 < n) → l.length ≤ n := by
    intro n
    induction n with
    | zero => intro l _ h; cases l with | nil => simp | cons b l => exact absurd (h b (by simp)) (Nat.not_lt_zero _)
    | succ n ih =>
      intro l hp hlt
      have := ih (l.filter fun b => decide (b.1 < n)) (hp.filter _) fun b hb => by simpa using (List.mem_filter.1 hb).2
      have h2 : l.length ≤ (l.filter fun b => decide (b.1 < n)).length + 1 := by
        clear this ih
        induction l with
        | nil => simp
        | cons c l ih =>
          obtain ⟨g1, g2⟩ := List.pairwise_cons.1 hp
          have hi := ih g2 fun b hb => hlt b (by simp [hb])
          by_cases hc : c.1 < n
          · rw [List.filter_cons_of_pos (by simp [hc])]; simp; omega
          · have hl : l = [] := by
              cases l with
              | nil => rfl
              | cons d l =>
                have := g1 d (by simp)
                have := hlt d (by simp)
                omega
            subst hl; simp
      omega
  refine h 64 L hU fun b hb => ?_
  have := hL.1 b hb
  have := this.2.2
  have := pow_pos2 b.2
  omega
end Go.Proofs.YtjcikoaoemingaaDoor
