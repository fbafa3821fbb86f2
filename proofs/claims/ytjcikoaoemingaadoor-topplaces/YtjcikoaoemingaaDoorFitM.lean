/- Lists alone, for chapter 16: holes found by looking at each place; each place is in a block or in a hole. -/
import Derived.Test.YtjcikoaoemingaaDoorFitL
namespace Go.Proofs.YtjcikoaoemingaaDoor

/-- One place looked at: what was found so far, and how many are free just ahead. -/
def look1 (f : Nat → Bool) (st : List (Nat × Nat) × Nat) (p : Nat) : List (Nat × Nat) × Nat :=
  if f p then (if st.2 = 0 then (st.1 ++ [(p, 1)], 1) else (st.1.dropLast ++ [((st.1.getLast?.getD (0, 0)).1, st.2 + 1)], st.2 + 1)) else (st.1, 0)
def lookF (f : Nat → Bool) : Nat → List (Nat × Nat) × Nat
  | 0 => ([], 0)
  | p + 1 => look1 f (lookF f p) p
theorem look_busy {f : Nat → Bool} {p : Nat} {A : List (Nat × Nat)} {n : Nat} (h : lookF f p = (A, n)) : ∀ d, 1 ≤ d → (∀ x, p ≤ x → x < p + d → f x = false) → lookF f (p + d) = (A, 0)
  | 0, hd, _ => by omega
  | d + 1, _, hf => by
    have e : f (p + d) = false := hf (p + d) (by omega) (by omega)
    have h2 : (lookF f (p + d)).1 = A := by
      by_cases hd : d = 0
      · subst hd; rw [Nat.add_zero, h]
      · rw [look_busy h d (by omega) fun x h1 h2 => hf x h1 (by omega)]
    show look1 f (lookF f (p + d)) (p + d) = (A, 0)
    unfold look1
    rw [if_neg (by rw [e]; simp), h2]
theorem look_free {f : Nat → Bool} {p : Nat} {A : List (Nat × Nat)} (h : lookF f p = (A, 0)) : ∀ d, 1 ≤ d → (∀ x, p ≤ x → x < p + d → f x = true) → lookF f (p + d) = (A ++ [(p, d)], d)
  | 0, hd, _ => by omega
  | d + 1, _, hf => by
    have e : f (p + d) = true := hf (p + d) (by omega) (by omega)
    show look1 f (lookF f (p + d)) (p + d) = (A ++ [(p, d + 1)], d + 1)
    unfold look1
    rw [if_pos e]
    by_cases hd : d = 0
    · subst hd
      rw [Nat.add_zero, h]; rfl
    · rw [look_free h d (by omega) fun x h1 h2 => hf x h1 (by omega)]
      simp only
      rw [if_neg hd, List.dropLast_concat, List.getLast?_concat]; rfl
/-- Whether a place is free. -/
def openAt (F : List (Nat × Nat)) (p : Nat) : Bool := F.all fun b => !(decide (b.1 < p + 1) && decide (p < b.1 + b.2))
theorem openAt_iff {F : List (Nat × Nat)} {p : Nat} (hp : p < 64) : openAt F p = true ↔ Fits F p 1 := by
  unfold openAt Fits
  rw [List.all_eq_true]
  constructor
  · intro h
    refine ⟨by omega, fun b hb hm => ?_⟩
    have := h b hb
    simp [hm.1, hm.2] at this
  · rintro ⟨_, h⟩ b hb
    have := h b hb
    simp only [Bool.not_eq_true', Bool.and_eq_false_iff, decide_eq_false_iff_not]
    by_cases h1 : b.1 < p + 1
    · exact .inr fun h2 => this ⟨h1, h2⟩
    · exact .inl h1
/-- From a place on where a block ends, or from the first place on: looking goes as the holes say. -/
theorem look_holes {f : Nat → Bool} : ∀ {p : Nat} {F : List (Nat × Nat)} {A : List (Nat × Nat)}, LaidF p F → (∀ x, p ≤ x → x < 64 → f x = openAt F x) → lookF f p = (A, 0) → (lookF f 64).1 = A ++ holes p F
  | p, [], A, h, hf, e => by
    have hp : p ≤ 64 := h
    unfold holes
    by_cases h1 : p < 64
    · have := look_free e (64 - p) (by omega) fun x h2 h3 => by rw [hf x h2 (by omega)]; rfl
      rw [show p + (64 - p) = 64 by omega] at this
      rw [if_pos h1, this]
    · have : p = 64 := by omega
      subst this
      rw [if_neg h1, e, List.append_nil]
  | p, b :: r, A, h, hf, e => by
    obtain ⟨h1, h2, h3⟩ := h
    have hle := h3.le
    have hr : ∀ x, b.1 + b.2 ≤ x → x < 64 → f x = openAt r x := fun x g1 g2 => by
      rw [hf x (by omega) g2]
      unfold openAt
      rw [List.all_cons, decide_eq_false (by omega : ¬ x < b.1 + b.2)]
      simp
    have hbusy : ∀ x, b.1 ≤ x → x < b.1 + b.2 → f x = false := fun x g1 g2 => by
      rw [hf x (by omega) (by omega)]
      unfold openAt
      rw [List.all_cons, decide_eq_true (by omega : b.1 < x + 1), decide_eq_true g2]
      simp
    unfold holes
    by_cases hp : p < b.1
    · have hfree : ∀ x, p ≤ x → x < p + (b.1 - p) → f x = true := fun x g1 g2 => by
        rw [hf x g1 (by omega), openAt_iff (by omega)]
        refine ⟨by omega, fun c hc => ?_⟩
        rcases List.mem_cons.1 hc with rfl | hc
        · rintro ⟨k1, k2⟩; omega
        · have := h3.mem c hc
          rintro ⟨k1, k2⟩; omega
      have e1 := look_free e (b.1 - p) (by omega) hfree
      rw [show p + (b.1 - p) = b.1 by omega] at e1
      have e2 := look_busy e1 b.2 h2 hbusy
      rw [if_pos hp, look_holes h3 hr e2, List.append_assoc]; rfl
    · have hpb : p = b.1 := by omega
      rw [if_neg hp]
      rw [hpb] at e
      exact look_holes h3 hr (look_busy e b.2 h2 hbusy)
theorem look_all {F : List (Nat × Nat)} (h : LaidF 0 F) : (lookF (openAt F) 64).1 = holes 0 F := by
  have := look_holes (f := openAt F) (A := []) h (fun _ _ _ => rfl) rfl
  simpa using this
theorem holes_len : ∀ (p : Nat) (F : List (Nat × Nat)), (holes p F).length ≤ F.length + 1
  | p, [] => by unfold holes; split <;> simp
  | p, b :: r => by
    have := holes_len (b.1 + b.2) r
    unfold holes
    split
    · rw [List.length_cons, List.length_cons]; omega
    · rw [List.length_cons]; omega
theorem laid_len : ∀ {p : Nat} {F : List (Nat × Nat)}, LaidF p F → p + F.length ≤ 64
  | p, [], h => h
  | p, b :: r, h => by
    have := laid_len h.2.2
    have := h.1
    have := h.2.1
    rw [List.length_cons]; omega
/-- A hole, where no block begins. -/
theorem holes_gap {p : Nat} {F : List (Nat × Nat)} (h : LaidF p F) (hp : p < 64) (hn : ∀ b, F.head? = some b → b.1 ≠ p) : ∃ q, p < q ∧ q ≤ 64 ∧ holes p F = (p, q - p) :: holes q F ∧ LaidF q F ∧ (∀ b, F.head? = some b → b.1 = q) ∧ (F = [] → q = 64) := by
  cases F with
  | nil => exact ⟨64, hp, Nat.le_refl _, by simp [holes, hp], Nat.le_refl 64, fun b hb => by simp at hb, fun _ => rfl⟩
  | cons b r =>
    obtain ⟨h1, h2, h3⟩ := h
    have hb := hn b rfl
    have hle := h3.le
    refine ⟨b.1, by omega, by omega, ?_, ⟨Nat.le_refl _, h2, h3⟩, fun c hc => by simp at hc; rw [hc], fun e => by simp at e⟩
    rw [holes, if_pos (by omega), holes, if_neg (Nat.lt_irrefl _)]
theorem holes_block {b : Nat × Nat} {r : List (Nat × Nat)} : holes b.1 (b :: r) = holes (b.1 + b.2) r := by rw [holes, if_neg (Nat.lt_irrefl _)]
end Go.Proofs.YtjcikoaoemingaaDoor
