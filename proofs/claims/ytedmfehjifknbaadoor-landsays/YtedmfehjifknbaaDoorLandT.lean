/- Lists and numbers alone, for chapter 10: the least from state to state, where a state is a set of pages as a number. -/
import Derived.Test.YtedmfehjifknbaaDoorLists2
import Derived.Test.YtedmfehjifknbaaDoorWsetL
namespace Go.Proofs.YtedmfehjifknbaaDoor

theorem setN_erase {q : Int} : ∀ {S : List Int}, q ∈ S → setN S = 2 ^ q.toNat + setN (S.erase q)
  | [], h => by cases h
  | x :: S, h => by
    by_cases hx : x = q
    · subst hx; rw [List.erase_cons_head, setN]
    · rw [List.erase_cons_tail (by simpa using hx), setN, setN, setN_erase (S := S) (by simpa [Ne.symm hx] using h)]
      omega
theorem setN_bit {S : List Int} (hn : S.Nodup) (ha : allIn S) {p : Int} (hp : 0 ≤ p ∧ p < 16) : setN S / 2 ^ p.toNat % 2 = 1 ↔ p ∈ S := by
  have := msk_half (setN_msk hn ha) (i := p.toNat) (by omega)
  rwa [Int.toNat_of_nonneg hp.1] at this
theorem setN_cnt {S : List Int} (hn : S.Nodup) (ha : allIn S) : cnt 16 (setN S) = S.length := cnt_all (setN_msk hn ha) hn ha
theorem bit_cases (m i : Nat) : m / 2 ^ i % 2 = 0 ∨ m / 2 ^ i % 2 = 1 := Nat.mod_two_eq_zero_or_one _

/-- One request p, from the set m, at x paid, to m', at x'. -/
inductive MStep (s : Nat) (c : Int → Nat) (p : Int) (m x : Nat) : Nat → Nat → Prop
  | there : m / 2 ^ p.toNat % 2 = 1 → MStep s c p m x m x
  | room : m / 2 ^ p.toNat % 2 = 0 → cnt 16 m < s → MStep s c p m x (m + 2 ^ p.toNat) (x + c p)
  | goes {q : Nat} : m / 2 ^ p.toNat % 2 = 0 → cnt 16 m = s → q < 16 → m / 2 ^ q % 2 = 1 → MStep s c p m x (m - 2 ^ q + 2 ^ p.toNat) (x + c p)
/-- Behind n requests the set m can be there, at x paid. -/
def Can (s : Nat) (c : Int → Nat) (l : List Int) (n m x : Nat) : Prop := ∃ S, Lazy s c l n S x ∧ setN S = m
theorem can_start {s : Nat} {c : Int → Nat} {l : List Int} {m x : Nat} : Can s c l 0 m x ↔ m = 0 ∧ x = 0 := by
  constructor
  · rintro ⟨S, h, e⟩
    cases h
    exact ⟨e.symm, rfl⟩
  · rintro ⟨rfl, rfl⟩
    exact ⟨[], .start, rfl⟩
theorem lazy_allIn {s : Nat} {c : Int → Nat} {l : List Int} (hl : allIn l) {n : Nat} {S : List Int} {x : Nat} (h : Lazy s c l n S x) : allIn S := fun p hp => hl p (h.facts.2.2.2 p hp)
theorem can_lt {s : Nat} {c : Int → Nat} {l : List Int} (hl : allIn l) {n m x : Nat} (h : Can s c l n m x) : m < 65536 := by
  obtain ⟨S, hS, rfl⟩ := h
  exact (setN_msk hS.facts.2.1 (lazy_allIn hl hS)).1
theorem can_succ {s : Nat} {c : Int → Nat} {l : List Int} (hl : allIn l) {n : Nat} (hn : n < l.length) {m' x' : Nat} : Can s c l (n+1) m' x' ↔ ∃ m x, Can s c l n m x ∧ MStep s c (l[n]?.getD 0) m x m' x' := by
  have hp : 0 ≤ l[n]?.getD 0 ∧ l[n]?.getD 0 < 16 := by
    rw [List.getElem?_eq_getElem hn]; exact hl _ (List.getElem_mem hn)
  constructor
  · rintro ⟨S', h, e⟩
    cases h with
    | @there _ S x h _ hin =>
      have f := h.facts
      exact ⟨setN S', x', ⟨S', h, rfl⟩, by rw [← e]; exact .there ((setN_bit f.2.1 (lazy_allIn hl h) hp).2 hin)⟩
    | @room _ S x h _ hout hr =>
      have f := h.facts
      have ha := lazy_allIn hl h
      have hb : setN S / 2 ^ (l[n]?.getD 0).toNat % 2 = 0 := (bit_cases _ _).resolve_right fun h1 => hout ((setN_bit f.2.1 ha hp).1 h1)
      refine ⟨setN S, x, ⟨S, h, rfl⟩, ?_⟩
      have := MStep.room (s := s) (c := c) (x := x) hb (by rw [setN_cnt f.2.1 ha]; exact hr)
      rw [← e, setN, Nat.add_comm (2 ^ _)]; exact this
    | @goes _ S x q h _ hout hr hq =>
      have f := h.facts
      have ha := lazy_allIn hl h
      have hb : setN S / 2 ^ (l[n]?.getD 0).toNat % 2 = 0 := (bit_cases _ _).resolve_right fun h1 => hout ((setN_bit f.2.1 ha hp).1 h1)
      refine ⟨setN S, x, ⟨S, h, rfl⟩, ?_⟩
      have hq2 := ha q hq
      have := MStep.goes (s := s) (c := c) (x := x) (q := q.toNat) hb (by rw [setN_cnt f.2.1 ha]; exact hr) (by omega) ((setN_bit f.2.1 ha hq2).2 hq)
      have e2 := setN_erase hq
      rw [← e, setN, Nat.add_comm (2 ^ _), show setN (S.erase q) = setN S - 2 ^ q.toNat by omega]
      exact this
  · rintro ⟨m, x, ⟨S, h, rfl⟩, hs⟩
    have f := h.facts
    have ha := lazy_allIn hl h
    cases hs with
    | there hb => exact ⟨S, .there h hn ((setN_bit f.2.1 ha hp).1 hb), rfl⟩
    | room hb hr =>
      have hout : l[n]?.getD 0 ∉ S := fun hin => by have := (setN_bit f.2.1 ha hp).2 hin; omega
      exact ⟨_, .room h hn hout (by rw [setN_cnt f.2.1 ha] at hr; exact hr), by rw [setN]; omega⟩
    | @goes q hb hr hq16 hq =>
      have hout : l[n]?.getD 0 ∉ S := fun hin => by have := (setN_bit f.2.1 ha hp).2 hin; omega
      have hqS : (q : Int) ∈ S := (setN_bit f.2.1 ha (p := (q : Int)) (by omega)).1 (by rw [Int.toNat_natCast]; exact hq)
      have e2 := setN_erase hqS
      rw [Int.toNat_natCast] at e2
      exact ⟨_, .goes h hn hout (by rw [setN_cnt f.2.1 ha] at hr; exact hr) hqS, by rw [setN]; omega⟩
theorem can_cnt {s : Nat} {c : Int → Nat} {l : List Int} (hl : allIn l) {n m x : Nat} (h : Can s c l n m x) : cnt 16 m ≤ s := by
  obtain ⟨S, hS, rfl⟩ := h
  rw [setN_cnt hS.facts.2.1 (lazy_allIn hl hS)]; exact hS.facts.2.2.1

/-- T tells of each set the least that it can be there at, if it can. -/
def Tab (s : Nat) (c : Int → Nat) (l : List Int) (n : Nat) (T : Nat → Option Nat) : Prop :=
  (∀ m x, T m = some x → Can s c l n m x) ∧ ∀ m x, Can s c l n m x → ∃ y, T m = some y ∧ y ≤ x
theorem tab_start {s : Nat} {c : Int → Nat} {l : List Int} {T : Nat → Option Nat} (h0 : T 0 = some 0) (h : ∀ m, m ≠ 0 → T m = none) : Tab s c l 0 T := by
  refine ⟨fun m x e => can_start.2 ?_, fun m x e => ?_⟩
  · by_cases hm : m = 0
    · subst hm; rw [h0] at e; exact ⟨rfl, (Option.some.inj e).symm⟩
    · rw [h m hm] at e; cases e
  · obtain ⟨rfl, rfl⟩ := can_start.1 e
    exact ⟨0, h0, Nat.le_refl _⟩
theorem MStep.more {s : Nat} {c : Int → Nat} {p : Int} {m x m' x' y : Nat} (h : MStep s c p m x m' x') (hy : y ≤ x) : ∃ y', MStep s c p m y m' y' ∧ y' ≤ x' := by
  cases h with
  | there hb => exact ⟨y, .there hb, hy⟩
  | room hb hr => exact ⟨y + c p, .room hb hr, by omega⟩
  | goes hb hr hq hq2 => exact ⟨y + c p, .goes hb hr hq hq2, by omega⟩
/-- One request, for the whole table: what is told comes from a state, and from each state all is told. -/
theorem tab_succ {s : Nat} {c : Int → Nat} {l : List Int} (hl : allIn l) {n : Nat} (hn : n < l.length) {T T' : Nat → Option Nat} (h : Tab s c l n T)
    (h1 : ∀ m' x', T' m' = some x' → ∃ m x, T m = some x ∧ MStep s c (l[n]?.getD 0) m x m' x') (h2 : ∀ m x m' x', T m = some x → MStep s c (l[n]?.getD 0) m x m' x' → ∃ y, T' m' = some y ∧ y ≤ x') : Tab s c l (n+1) T' := by
  refine ⟨fun m' x' e => ?_, fun m' x' e => ?_⟩
  · obtain ⟨m, x, hm, hs⟩ := h1 m' x' e
    exact (can_succ hl hn).2 ⟨m, x, h.1 m x hm, hs⟩
  · obtain ⟨m, x, hm, hs⟩ := (can_succ hl hn).1 e
    obtain ⟨y, hy, hle⟩ := h.2 m x hm
    obtain ⟨y', hs', hle'⟩ := hs.more hle
    obtain ⟨z, hz, hz2⟩ := h2 m y m' y' hy hs'
    exact ⟨z, hz, by omega⟩
/-- At the end the least of all is the least. -/
theorem tab_least {s : Nat} {c : Int → Nat} {l : List Int} {T : Nat → Option Nat} (h : Tab s c l l.length T) {x : Nat} (h1 : ∃ m, T m = some x) (h2 : ∀ m y, T m = some y → x ≤ y) : IsLeast s c l x := by
  obtain ⟨m, hm⟩ := h1
  obtain ⟨S, hS, _⟩ := h.1 m x hm
  refine least_lazy ⟨S, hS⟩ fun S' y hy => ?_
  obtain ⟨z, hz, hle⟩ := h.2 (setN S') y ⟨S', hy, rfl⟩
  have := h2 _ z hz
  omega
end Go.Proofs.YtedmfehjifknbaaDoor
