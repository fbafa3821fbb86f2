/- Lists and numbers alone, for chapter 10: the document's table of sets, as a row of 64 numbers. -/
import Derived.Test.YtedmfehjifknbaaDoorLandT
namespace Go.Proofs.YtedmfehjifknbaaDoor
set_option maxRecDepth 100000

/-- A cost, or none. -/
def vN : Option Nat → Int
  | none => -1
  | some x => x
def rowN (T : Nat → Option Nat) : List Int := (List.range 64).map fun m => vN (T m)
theorem rowN_length (T : Nat → Option Nat) : (rowN T).length = 64 := by unfold rowN; rw [List.length_map, List.length_range]
theorem rowN_get (T : Nat → Option Nat) {m : Nat} (h : m < 64) : (rowN T)[m]?.getD 0 = vN (T m) := by
  unfold rowN
  rw [List.getElem?_map, List.getElem?_range h]; rfl
def minO : Option Nat → Nat → Option Nat
  | none, y => some y
  | some z, y => if y < z then some y else some z
def offN (T : Nat → Option Nat) (j x : Nat) : Nat → Option Nat := fun m => if m = j then minO (T j) x else T m
theorem rowN_set (T : Nat → Option Nat) {j : Nat} (x : Nat) : (rowN T).set j (vN (minO (T j) x)) = rowN (offN T j x) := by
  refine List.ext_getElem? fun i => ?_
  rw [List.getElem?_set]
  unfold rowN
  rw [List.getElem?_map, List.getElem?_map, List.length_map, List.length_range]
  by_cases hi : i < 64
  · rw [List.getElem?_range hi]
    by_cases e : j = i
    · subst e; rw [if_pos rfl, if_pos hi]; simp [offN]
    · rw [if_neg e]; simp [offN, Ne.symm e]
  · rw [List.getElem?_eq_none (by rw [List.length_range]; omega)]
    by_cases e : j = i
    · subst e; rw [if_pos rfl, if_neg hi]; rfl
    · rw [if_neg e]; rfl
def MadeN (os : List (Nat × Nat)) (T : Nat → Option Nat) : Prop := (∀ t z, T t = some z → (t, z) ∈ os) ∧ ∀ t z, (t, z) ∈ os → ∃ y, T t = some y ∧ y ≤ z
theorem madeN_none : MadeN [] (fun _ => none) := ⟨fun _ _ h => (by cases h), fun _ _ h => (by cases h)⟩
theorem madeN_off {os : List (Nat × Nat)} {T : Nat → Option Nat} (h : MadeN os T) (s : Nat) (x : Nat) : MadeN (os ++ [(s, x)]) (offN T s x) := by
  refine ⟨fun t z e => ?_, fun t z e => ?_⟩
  · unfold offN at e
    by_cases ht : t = s
    · subst ht
      rw [if_pos rfl] at e
      cases hT : T t with
      | none => rw [hT] at e; simp [minO] at e; subst e; simp
      | some y =>
        rw [hT] at e
        simp only [minO] at e
        split at e
        · simp at e; subst e; simp
        · simp at e; subst e; exact List.mem_append.2 (.inl (h.1 t _ hT))
    · rw [if_neg ht] at e
      exact List.mem_append.2 (.inl (h.1 t z e))
  · unfold offN
    rcases List.mem_append.1 e with e | e
    · obtain ⟨y, hy, hle⟩ := h.2 t z e
      by_cases ht : t = s
      · subst ht
        rw [if_pos rfl, hy]
        simp only [minO]
        split
        · exact ⟨x, rfl, by omega⟩
        · exact ⟨y, rfl, hle⟩
      · rw [if_neg ht]; exact ⟨y, hy, hle⟩
    · simp at e
      obtain ⟨rfl, rfl⟩ := e
      rw [if_pos rfl]
      cases hT : T t with
      | none => exact ⟨z, rfl, Nat.le_refl _⟩
      | some y =>
        simp only [minO]
        split
        · exact ⟨z, rfl, Nat.le_refl _⟩
        · exact ⟨y, rfl, by omega⟩
def goesO (m p cst x : Nat) : Nat → List (Nat × Nat)
  | 0 => []
  | k + 1 => if m / 2 ^ k % 2 = 1 then goesO m p cst x k ++ [(m - 2 ^ k + 2 ^ p, x + cst)] else goesO m p cst x k
def stepO (s p cst m x : Nat) : List (Nat × Nat) := if m / 2 ^ p % 2 = 1 then [(m, x)] else if cnt 16 m < s then [(m + 2 ^ p, x + cst)] else goesO m p cst x 6
def offsN (T : Nat → Option Nat) (s p cst : Nat) : Nat → List (Nat × Nat)
  | 0 => []
  | k + 1 => offsN T s p cst k ++ (match T k with | none => [] | some x => stepO s p cst k x)
theorem goesO_mem {m p cst x t z : Nat} : ∀ {k : Nat}, (t, z) ∈ goesO m p cst x k ↔ ∃ q, q < k ∧ m / 2 ^ q % 2 = 1 ∧ t = m - 2 ^ q + 2 ^ p ∧ z = x + cst
  | 0 => by simp [goesO]
  | k + 1 => by
    have ih := goesO_mem (m := m) (p := p) (cst := cst) (x := x) (t := t) (z := z) (k := k)
    unfold goesO
    by_cases hb : m / 2 ^ k % 2 = 1
    · rw [if_pos hb, List.mem_append, ih, List.mem_singleton, Prod.mk.injEq]
      constructor
      · rintro (⟨q, hq, r⟩ | r)
        · exact ⟨q, by omega, r⟩
        · exact ⟨k, by omega, hb, r⟩
      · rintro ⟨q, hq, hq2, r⟩
        by_cases e : q = k
        · subst e; exact .inr r
        · exact .inl ⟨q, by omega, hq2, r⟩
    · rw [if_neg hb, ih]
      constructor
      · rintro ⟨q, hq, r⟩; exact ⟨q, by omega, r⟩
      · rintro ⟨q, hq, hq2, r⟩
        have : q ≠ k := fun e => hb (e ▸ hq2)
        exact ⟨q, by omega, hq2, r⟩
theorem offsN_mem {T : Nat → Option Nat} {s p cst t z : Nat} : ∀ {k : Nat}, (t, z) ∈ offsN T s p cst k ↔ ∃ m x, m < k ∧ T m = some x ∧ (t, z) ∈ stepO s p cst m x
  | 0 => by simp [offsN]
  | k + 1 => by
    unfold offsN
    rw [List.mem_append, offsN_mem (k := k)]
    constructor
    · rintro (⟨m, x, hm, r⟩ | r)
      · exact ⟨m, x, by omega, r⟩
      · cases hT : T k with
        | none => rw [hT] at r; cases r
        | some x => rw [hT] at r; exact ⟨k, x, by omega, hT, r⟩
    · rintro ⟨m, x, hm, hT, r⟩
      by_cases e : m = k
      · subst e; right; rw [hT]; exact r
      · exact .inl ⟨m, x, by omega, hT, r⟩
theorem can_64 {s : Nat} {c : Int → Nat} {l : List Int} (hl : ∀ x, x ∈ l → 0 ≤ x ∧ x < 6) {n m x : Nat} (h : Can s c l n m x) : m < 64 := by
  have hA : allIn l := fun p hp => by have := hl p hp; omega
  have h1 := can_lt hA h
  obtain ⟨S, hS, rfl⟩ := h
  have F := hS.facts
  have hb : ∀ i, 6 ≤ i → i < 16 → setN S / 2 ^ i % 2 = 0 := fun i h6 h16 => (bit_cases _ _).resolve_right fun e => by
    have := (setN_bit F.2.1 (lazy_allIn hA hS) (p := (i : Int)) (by omega)).1 (by rw [Int.toNat_natCast]; exact e)
    have := hl _ (F.2.2.2 _ this)
    omega
  have b6 := hb 6 (by omega) (by omega)
  have b7 := hb 7 (by omega) (by omega)
  have b8 := hb 8 (by omega) (by omega)
  have b9 := hb 9 (by omega) (by omega)
  have b10 := hb 10 (by omega) (by omega)
  have b11 := hb 11 (by omega) (by omega)
  have b12 := hb 12 (by omega) (by omega)
  have b13 := hb 13 (by omega) (by omega)
  have b14 := hb 14 (by omega) (by omega)
  have b15 := hb 15 (by omega) (by omega)
  generalize setN S = m at *
  simp only [Nat.reducePow] at b6 b7 b8 b9 b10 b11 b12 b13 b14 b15
  omega
theorem tab_made {s : Nat} {c : Int → Nat} {l : List Int} (hl : ∀ x, x ∈ l → 0 ≤ x ∧ x < 6) {n : Nat} (hn : n < l.length) {p : Nat} (hp : l[n]?.getD 0 = (p : Int)) {cst : Nat} (hc : cst = c (p : Int)) {T T' : Nat → Option Nat} (h : Tab s c l n T) (hm : MadeN (offsN T s p cst 64) T') : Tab s c l (n+1) T' := by
  have hA : allIn l := fun p hp => by have := hl p hp; omega
  refine tab_succ hA hn h (fun m' x' e => ?_) fun m x m' x' hT hs => ?_
  · obtain ⟨m, x, hm64, hT, hs⟩ := offsN_mem.1 (hm.1 m' x' e)
    refine ⟨m, x, hT, ?_⟩
    rw [hp]
    have hcn := can_cnt hA (h.1 m x hT)
    unfold stepO at hs
    by_cases hb : m / 2 ^ p % 2 = 1
    · rw [if_pos hb] at hs
      simp at hs
      obtain ⟨rfl, rfl⟩ := hs
      exact .there (by rw [Int.toNat_natCast]; exact hb)
    · have hb0 : m / 2 ^ p % 2 = 0 := (bit_cases m p).resolve_right hb
      rw [if_neg hb] at hs
      by_cases hr : cnt 16 m < s
      · rw [if_pos hr] at hs
        simp at hs
        obtain ⟨rfl, rfl⟩ := hs
        have := MStep.room (s := s) (c := c) (p := (p : Int)) (m := m) (x := x) (by rw [Int.toNat_natCast]; exact hb0) hr
        rw [Int.toNat_natCast] at this
        rw [hc]; exact this
      · rw [if_neg hr] at hs
        obtain ⟨q, hq, hq2, rfl, rfl⟩ := goesO_mem.1 hs
        have := MStep.goes (s := s) (c := c) (p := (p : Int)) (m := m) (x := x) (q := q) (by rw [Int.toNat_natCast]; exact hb0) (by omega) (by omega) hq2
        rw [Int.toNat_natCast] at this
        rw [hc]; exact this
  · rw [hp] at hs
    have hm64 := can_64 hl (h.1 m x hT)
    refine hm.2 m' x' (offsN_mem.2 ⟨m, x, hm64, hT, ?_⟩)
    unfold stepO
    cases hs with
    | there hb =>
      rw [Int.toNat_natCast] at hb
      rw [if_pos hb]; simp
    | room hb hr =>
      rw [Int.toNat_natCast] at hb ⊢
      rw [if_neg (by omega), if_pos hr, hc]; simp
    | @goes q hb hr hq16 hq =>
      rw [Int.toNat_natCast] at hb ⊢
      rw [if_neg (by omega), if_neg (by omega)]
      refine goesO_mem.2 ⟨q, ?_, hq, rfl, by rw [hc]⟩
      rcases Nat.lt_or_ge q 6 with h6 | h6
      · exact h6
      · exfalso
        have : m / 2 ^ q = 0 := Nat.div_eq_of_lt (Nat.lt_of_lt_of_le hm64 (Nat.pow_le_pow_right (n := 2) (by omega) h6))
        rw [this] at hq; cases hq
/-- The least of the first k. -/
def lowN (T : Nat → Option Nat) : Nat → Option Nat
  | 0 => none
  | k + 1 => match T k with
    | none => lowN T k
    | some x => minO (lowN T k) x
theorem lowN_facts (T : Nat → Option Nat) : ∀ k, (∀ z, lowN T k = some z → ∃ m, m < k ∧ T m = some z) ∧ ∀ m x, m < k → T m = some x → ∃ z, lowN T k = some z ∧ z ≤ x
  | 0 => ⟨fun _ h => (by cases h), fun _ _ h => absurd h (Nat.not_lt_zero _)⟩
  | k + 1 => by
    obtain ⟨h1, h2⟩ := lowN_facts T k
    unfold lowN
    cases hT : T k with
    | none =>
      refine ⟨fun z e => ?_, fun m x hm e => ?_⟩
      · obtain ⟨m, hm, r⟩ := h1 z e; exact ⟨m, by omega, r⟩
      · have : m ≠ k := fun e2 => by subst e2; rw [hT] at e; cases e
        exact h2 m x (by omega) e
    | some y =>
      simp only []
      cases hl : lowN T k with
      | none =>
        refine ⟨fun z e => ?_, fun m x hm e => ?_⟩
        · simp [minO] at e; subst e; exact ⟨k, by omega, hT⟩
        · by_cases e2 : m = k
          · subst e2; rw [hT] at e; cases e; exact ⟨y, rfl, Nat.le_refl _⟩
          · obtain ⟨z, hz, _⟩ := h2 m x (by omega) e
            rw [hl] at hz; cases hz
      | some z0 =>
        refine ⟨fun z e => ?_, fun m x hm e => ?_⟩
        · simp only [minO] at e
          split at e
          · simp at e; subst e; exact ⟨k, by omega, hT⟩
          · simp at e; subst e
            obtain ⟨m, hm, r⟩ := h1 z0 hl; exact ⟨m, by omega, r⟩
        · simp only [minO]
          by_cases e2 : m = k
          · subst e2; rw [hT] at e; cases e
            split
            · exact ⟨y, rfl, Nat.le_refl _⟩
            · exact ⟨z0, rfl, by omega⟩
          · obtain ⟨z, hz, hle⟩ := h2 m x (by omega) e
            rw [hl] at hz; cases hz
            split
            · exact ⟨y, rfl, by omega⟩
            · exact ⟨z0, rfl, hle⟩
theorem low_least {s : Nat} (hs : 1 ≤ s) {c : Int → Nat} {l : List Int} (hl : ∀ x, x ∈ l → 0 ≤ x ∧ x < 6) {T : Nat → Option Nat} (h : Tab s c l l.length T) : ∃ x, lowN T 64 = some x ∧ IsLeast s c l x := by
  obtain ⟨f1, f2⟩ := lowN_facts T 64
  obtain ⟨S, x0, hS⟩ := can_some hs c l l.length (Nat.le_refl _)
  obtain ⟨y, hy, _⟩ := h.2 _ _ ⟨S, hS, rfl⟩
  obtain ⟨z, hz, _⟩ := f2 _ y (can_64 hl (h.1 _ _ hy)) hy
  refine ⟨z, hz, tab_least h ?_ fun m y e => ?_⟩
  · obtain ⟨m, _, hm⟩ := f1 z hz; exact ⟨m, hm⟩
  · obtain ⟨z2, hz2, hle⟩ := f2 m y (can_64 hl (h.1 m y e)) e
    rw [hz] at hz2; cases hz2; exact hle
theorem tab_most {s : Nat} {c : Int → Nat} {l : List Int} (hc : ∀ p, c p ≤ 20) {n : Nat} {T : Nat → Option Nat} (h : Tab s c l n T) : ∀ m x, T m = some x → x ≤ 20 * n := fun m x e => by
  obtain ⟨S, hS, _⟩ := h.1 m x e
  have : ∀ {n S x}, Lazy s c l n S x → x ≤ 20 * n := fun hS => by
    induction hS with
    | start => exact Nat.le_refl _
    | there _ _ _ ih => omega
    | @room n _ _ _ _ _ _ ih => have := hc (l[n]?.getD 0); omega
    | @goes n _ _ _ _ _ _ _ _ ih => have := hc (l[n]?.getD 0); omega
  exact this hS
end Go.Proofs.YtedmfehjifknbaaDoor
