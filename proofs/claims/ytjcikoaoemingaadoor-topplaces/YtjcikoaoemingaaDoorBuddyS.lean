/- Lists alone, for chapter 15: what lending and giving back answer. -/
import Derived.Test.YtjcikoaoemingaaDoorBuddyW
namespace Go.Proofs.YtjcikoaoemingaaDoor

/-- The least order from j on that has a free block: where its first one is, and the order. -/
def roomAt (L : List (Nat × Nat)) : Nat → Nat → Option (Nat × Nat)
  | 0, _ => none
  | d + 1, j => match freeL L j with
    | [] => roomAt L d (j+1)
    | p :: _ => some (p, j)
def room (L : List (Nat × Nat)) (k : Nat) : Option (Nat × Nat) := roomAt L (7 - k) k
/-- Lending: where it is, what is wrong, what is lent then. -/
def lendF (L : List (Nat × Nat)) (k : Int) : Nat × Nat × List (Nat × Nat) :=
  if k < 0 ∨ 6 < k then (0, 1, L) else match room L k.toNat with
    | none => (0, 4, L)
    | some (p, _) => (p, 0, insP p k.toNat L)
/-- Where the free blocks of an order begin, as numbers; nothing, if there is no such order. -/
def freeI (L : List (Nat × Nat)) (k : Int) : List Int := if k < 0 ∨ 6 < k then [] else (freeL L k.toNat).map fun x : Nat => (x : Int)
/-- Giving back: what is wrong, what is lent then. -/
def backF (L : List (Nat × Nat)) (z : Int) : Nat × List (Nat × Nat) := match look L z with
  | none => (5, L)
  | some _ => (0, delP z.toNat L)
theorem roomAt_some {L : List (Nat × Nat)} : ∀ (d j : Nat) {p i : Nat}, d + j = 7 → roomAt L d j = some (p, i) → j ≤ i ∧ i ≤ 6 ∧ MaxF L p i ∧ (∀ q, MaxF L q i → p ≤ q) ∧ ∀ m, j ≤ m → m < i → ∀ q, ¬ MaxF L q m
  | 0, j, p, i, _, h => by cases h
  | d + 1, j, p, i, hd, h => by
    unfold roomAt at h
    cases hf : freeL L j with
    | nil =>
      rw [hf] at h
      obtain ⟨h1, h2, h3, h4, h5⟩ := roomAt_some d (j+1) (by omega) h
      refine ⟨by omega, h2, h3, h4, fun m hm1 hm2 q hq => ?_⟩
      by_cases e : m = j
      · subst e
        have := (mem_freeL (by omega)).2 hq
        rw [hf] at this
        cases this
      · exact h5 m (by omega) hm2 q hq
    | cons p' r =>
      rw [hf] at h
      simp only [Option.some.injEq, Prod.mk.injEq] at h
      obtain ⟨rfl, rfl⟩ := h
      have hr := freeL_rising L j
      rw [hf] at hr
      refine ⟨Nat.le_refl _, by omega, (mem_freeL (by omega)).1 (by rw [hf]; simp), fun q hq => ?_, fun m h1 h2 => by omega⟩
      have := (mem_freeL (by omega)).2 hq
      rw [hf] at this
      rcases List.mem_cons.1 this with e | e
      · omega
      · have := (List.pairwise_cons.1 hr).1 q e; omega
theorem roomAt_none {L : List (Nat × Nat)} : ∀ (d j : Nat), d + j = 7 → roomAt L d j = none → ∀ m, j ≤ m → m ≤ 6 → ∀ q, ¬ MaxF L q m
  | 0, j, _, _ => fun m h1 h2 => by omega
  | d + 1, j, hd, h => by
    intro m h1 h2 q hq
    unfold roomAt at h
    cases hf : freeL L j with
    | nil =>
      rw [hf] at h
      by_cases e : m = j
      · subst e
        have := (mem_freeL (by omega)).2 hq
        rw [hf] at this
        cases this
      · exact roomAt_none d (j+1) (by omega) h m (by omega) h2 q hq
    | cons p' r => rw [hf] at h; cases h
/-- No block of an order: one goes on with the next order. -/
theorem roomAt_skip {L : List (Nat × Nat)} {d j : Nat} (hj : j ≤ 6) (h : ∀ q, ¬ MaxF L q j) : roomAt L (d+1) j = roomAt L d (j+1) := by
  have : freeL L j = [] := by
    rw [List.eq_nil_iff_forall_not_mem]
    exact fun q hq => h q ((mem_freeL hj).1 hq)
  conv => lhs; unfold roomAt
  rw [this]
theorem roomAt_here {L : List (Nat × Nat)} {d j p : Nat} (hj : j ≤ 6) (h : MaxF L p j) (hm : ∀ q, MaxF L q j → p ≤ q) : roomAt L (d+1) j = some (p, j) := by
  unfold roomAt
  have hp := (mem_freeL hj).2 h
  cases hf : freeL L j with
  | nil => rw [hf] at hp; cases hp
  | cons p' r =>
    have h1 := hm p' ((mem_freeL hj).1 (by rw [hf]; simp))
    have hr := freeL_rising L j
    rw [hf] at hp hr
    have : p' = p := by
      rcases List.mem_cons.1 hp with e | e
      · exact e.symm
      · have := (List.pairwise_cons.1 hr).1 p e; omega
    subst this
    rfl
/-- Room for a block just if one is free that is as great. -/
theorem room_iff {L : List (Nat × Nat)} {k : Nat} (hk : k ≤ 6) : room L k = none ↔ ∀ j, k ≤ j → j ≤ 6 → freeL L j = [] := by
  constructor
  · intro h j h1 h2
    rw [List.eq_nil_iff_forall_not_mem]
    exact fun q hq => roomAt_none _ _ (by omega) h j h1 h2 q ((mem_freeL h2).1 hq)
  · intro h
    cases hr : room L k with
    | none => rfl
    | some x =>
      obtain ⟨p, i⟩ := x
      obtain ⟨h1, h2, h3, _⟩ := roomAt_some _ _ (by omega) hr
      have := (mem_freeL h2).2 h3
      rw [h i h1 h2] at this
      cases this
/-- What is lent, lending done. -/
theorem lent_ok {L : List (Nat × Nat)} (hU : Up L) (hL : Okay L) {p i o : Nat} (h : MaxF L p i) (ho : o ≤ i) : Up (insP p o L) ∧ Okay (insP p o L) :=
  ⟨insP_up hU (free_apart h), (lend_okay hL h ho).perm insP_perm.symm⟩
theorem lend_words {L : List (Nat × Nat)} {p i o : Nat} (h : MaxF L p i) (ho : o ≤ i) (q j : Nat) : MaxF (insP p o L) q j ↔ (MaxF L q j ∧ ¬ (q = p ∧ j = i)) ∨ (o ≤ j ∧ j < i ∧ q = p + 2 ^ j) := by
  rw [maxF_perm (M := (p, o) :: L) (fun b => insP_perm.mem_iff), lend_maxF h ho]
end Go.Proofs.YtjcikoaoemingaaDoor
