/- Lists alone: what any store of so many slots may hold, request by request; who lets go of what is asked for latest has as much as anybody. -/
import Derived.Test.YtmibnceadciidaaDoorKeep
namespace Go.Proofs.YtmibnceadciidaaDoor

/-- A list without a second is no longer than one that has all of it. -/
theorem length_le_of_subset : ∀ {A B : List Int}, A.Nodup → (∀ p, p ∈ A → p ∈ B) → A.length ≤ B.length
  | [], _, _, _ => Nat.zero_le _
  | x :: A, B, h, hs => by
    rw [List.nodup_cons] at h
    have hx : x ∈ B := hs x (by simp)
    have := length_le_of_subset (B := B.erase x) h.2 fun p hp => by
      have hne : p ≠ x := fun e => h.1 (e ▸ hp)
      rw [List.mem_erase_of_ne hne]
      exact hs p (by simp [hp])
    rw [List.length_erase_of_mem hx] at this
    have := List.length_pos_of_mem hx
    rw [List.length_cons]; omega

theorem same_length {A B : List Int} (ha : A.Nodup) (hb : B.Nodup) (h : ∀ x, x ∈ A ↔ x ∈ B) : A.length = B.length := by
  have a := length_le_of_subset ha fun x hx => (h x).1 hx
  have b := length_le_of_subset hb fun x hx => (h x).2 hx
  omega

/-- How many of a list pass. -/
def many (q : Int → Bool) (A : List Int) : Nat := (A.filter q).length
theorem many_mono {q : Int → Bool} {A B : List Int} (h : A.Nodup) (hs : ∀ p, p ∈ A → q p = true → p ∈ B) : many q A ≤ many q B :=
  length_le_of_subset (h.filter q) fun p hp => by
    rw [List.mem_filter] at hp ⊢
    exact ⟨hs p hp.1 hp.2, hp.2⟩
theorem many_le (q : Int → Bool) (A : List Int) : many q A ≤ A.length := List.length_filter_le _ _
theorem many_cons (q : Int → Bool) (p : Int) (A : List Int) : many q (p :: A) = (if q p then 1 else 0) + many q A := by
  unfold many
  rw [List.filter_cons]
  split
  · rw [List.length_cons]; omega
  · omega
theorem many_congr {q r : Int → Bool} {A : List Int} (h : ∀ p, p ∈ A → q p = r p) : many q A = many r A := by
  unfold many
  rw [List.filter_congr h]
theorem many_all {q : Int → Bool} {A : List Int} (h : ∀ p, p ∈ A → q p = true) : many q A = A.length := by
  unfold many
  rw [List.filter_eq_self.2 h]
theorem many_none {q : Int → Bool} {A : List Int} (h : ∀ p, p ∈ A → q p = false) : many q A = 0 := by
  unfold many
  rw [List.filter_eq_nil_iff.2 (fun p hp => by rw [h p hp]; simp)]; rfl
theorem many_erase {q : Int → Bool} {p : Int} : ∀ {A : List Int}, p ∈ A → many q A = (if q p then 1 else 0) + many q (A.erase p)
  | [], h => by simp at h
  | x :: A, h => by
    by_cases hx : x = p
    · subst hx; rw [List.erase_cons_head, many_cons]
    · rw [List.erase_cons_tail (by simpa using hx), many_cons, many_cons, many_erase (A := A) (by simpa [Ne.symm hx] using h)]
      omega

/-- The place of request k or behind it, where a page is asked for; so many as there are if there is none. -/
def ahead (l : List Int) (k : Nat) (p : Int) : Nat := k + (l.drop k).idxOf p
theorem ahead_le {l : List Int} {k : Nat} (hk : k ≤ l.length) (p : Int) : ahead l k p ≤ l.length := by
  unfold ahead
  have := List.idxOf_le_length (a := p) (l := l.drop k)
  rw [List.length_drop] at this; omega
theorem ahead_ge (l : List Int) (k : Nat) (p : Int) : k ≤ ahead l k p := Nat.le_add_right _ _
theorem drop_at {l : List Int} {k : Nat} (hk : k < l.length) : l.drop k = (l[k]?.getD 0) :: l.drop (k+1) := by
  rw [List.drop_eq_getElem_cons hk, List.getElem?_eq_getElem hk, Option.getD_some]
theorem ahead_now {l : List Int} {k : Nat} (hk : k < l.length) : ahead l k (l[k]?.getD 0) = k := by
  unfold ahead
  rw [drop_at hk, List.idxOf_cons_self]; rfl
theorem ahead_later {l : List Int} {k : Nat} (hk : k < l.length) {p : Int} (hp : p ≠ l[k]?.getD 0) : ahead l k p = ahead l (k+1) p := by
  unfold ahead
  rw [drop_at hk, List.idxOf_cons, beq_eq_false_iff_ne.2 (Ne.symm hp), cond_false]
  omega

/-- How many of the first k marks are set. -/
def hcount (h : Nat → Bool) : Nat → Nat
  | 0 => 0
  | k + 1 => hcount h k + (if h k then 1 else 0)

/-- What a store of s slots may hold ahead of each request. -/
structure Sched (s : Nat) (l : List Int) (H : Nat → List Int) : Prop where
  start : H 0 = []
  nd : ∀ k, k ≤ l.length → (H k).Nodup
  le : ∀ k, k ≤ l.length → (H k).length ≤ s
  got : ∀ k, k < l.length → l[k]?.getD 0 ∈ H (k+1)
  sub : ∀ k, k < l.length → ∀ p, p ∈ H (k+1) → p = l[k]?.getD 0 ∨ p ∈ H k
def hitOf (l : List Int) (H : Nat → List Int) (k : Nat) : Bool := (H k).contains (l[k]?.getD 0)

/-- Let go of is only what is asked for latest, and where there is no slot. -/
def Best (s : Nat) (l : List Int) (H : Nat → List Int) : Prop :=
  ∀ k, k < l.length → (∀ p, p ∈ H k → p ∈ H (k+1)) ∨
    ∃ b, b ∈ H k ∧ l[k]?.getD 0 ∉ H k ∧ (H k).length = s ∧ (∀ q, q ∈ H k → ahead l k q ≤ ahead l k b) ∧ ∀ p, p ∈ H k → p ≠ b → p ∈ H (k+1)

/-- How many of what is held are asked for ahead of place t. -/
def soon (l : List Int) (A : List Int) (k t : Nat) : Nat := many (fun p => decide (ahead l k p < t)) A
def lateBy (l : List Int) (k t : Nat) : Nat := if ahead l (k+1) (l[k]?.getD 0) < t then 1 else 0
def put (p : Int) (A : List Int) : List Int := if A.contains p then A else p :: A
theorem mem_put {p q : Int} {A : List Int} : q ∈ put p A ↔ q = p ∨ q ∈ A := by
  unfold put
  by_cases h : A.contains p = true
  · rw [if_pos h]
    constructor
    · exact .inr
    · rintro (rfl | h2)
      · exact List.contains_iff_mem.1 h
      · exact h2
  · rw [if_neg h, List.mem_cons]

theorem soon_now {l A : List Int} {k : Nat} (hk : k < l.length) (hA : A.Nodup) : soon l A k (k+1) = if A.contains (l[k]?.getD 0) then 1 else 0 := by
  have hno : ∀ B : List Int, l[k]?.getD 0 ∉ B → soon l B k (k+1) = 0 := fun B hB => many_none fun p hp => by
    have := ahead_ge l (k+1) p
    rw [ahead_later hk (fun e => hB (e ▸ hp))]
    exact decide_eq_false (by omega)
  by_cases hm : l[k]?.getD 0 ∈ A
  · have h0 := hno (A.erase (l[k]?.getD 0)) (hA.not_mem_erase)
    unfold soon at h0 ⊢
    rw [if_pos (List.contains_iff_mem.2 hm), many_erase hm, h0, ahead_now hk]
    simp
  · rw [hno A hm, if_neg (fun h => hm (List.contains_iff_mem.1 h))]

/-- One request: what was asked for just now comes to be asked for later. -/
theorem soon_step {l A : List Int} {k t : Nat} (hk : k < l.length) (ht : k < t) (hA : A.Nodup) : (if A.contains (l[k]?.getD 0) then 1 else 0) + soon l (put (l[k]?.getD 0) A) (k+1) t = soon l A k t + lateBy l k t := by
  have hsame : ∀ B : List Int, l[k]?.getD 0 ∉ B → soon l B (k+1) t = soon l B k t := fun B hB => many_congr fun p hp => by
    rw [ahead_later hk (fun e => hB (e ▸ hp))]
  unfold put lateBy
  by_cases hm : l[k]?.getD 0 ∈ A
  · have h0 := hsame (A.erase (l[k]?.getD 0)) (hA.not_mem_erase)
    have h1 : soon l A (k+1) t = _ := many_erase hm
    have h2 : soon l A k t = _ := many_erase hm
    rw [if_pos (List.contains_iff_mem.2 hm), if_pos (List.contains_iff_mem.2 hm), h1, h2]
    unfold soon at h0
    rw [h0, ahead_now hk]
    simp only [decide_eq_true_eq, if_pos ht]
    omega
  · have hm2 : ¬ (A.contains (l[k]?.getD 0) = true) := fun h => hm (List.contains_iff_mem.1 h)
    have h1 : soon l (l[k]?.getD 0 :: A) (k+1) t = _ := many_cons _ _ _
    have h0 := hsame A hm
    unfold soon at h0 h1 ⊢
    rw [if_neg hm2, if_neg hm2, h1, h0]
    simp only [decide_eq_true_eq]
    omega

theorem best_step {s : Nat} {l : List Int} {A B : Nat → List Int} (hA : Sched s l A) (hB : Sched s l B) (hb : Best s l A) : ∀ k, k ≤ l.length → ∀ t, k ≤ t → t ≤ l.length → hcount (hitOf l B) k + soon l (B k) k t ≤ hcount (hitOf l A) k + soon l (A k) k t
  | 0, _, t, _, _ => by
    rw [hA.start, hB.start]
    exact Nat.le_refl _
  | k + 1, hk, t, h1, h2 => by
    have hk' : k < l.length := by omega
    have ih := best_step hA hB hb k (by omega)
    have it := ih t (by omega) h2
    have i1 := ih (k+1) (by omega) (by omega)
    have nA := hA.nd k (by omega)
    have nB := hB.nd k (by omega)
    rw [soon_now hk' nA, soon_now hk' nB] at i1
    have sA := soon_step hk' (by omega : k < t) nA
    have sB := soon_step hk' (by omega : k < t) nB
    have hBB : soon l (B (k+1)) (k+1) t ≤ soon l (put (l[k]?.getD 0) (B k)) (k+1) t := many_mono (hB.nd (k+1) hk) fun p hp _ => mem_put.2 (hB.sub k hk' p hp)
    have eA : hcount (hitOf l A) (k+1) = hcount (hitOf l A) k + (if (A k).contains (l[k]?.getD 0) then 1 else 0) := rfl
    have eB : hcount (hitOf l B) (k+1) = hcount (hitOf l B) k + (if (B k).contains (l[k]?.getD 0) then 1 else 0) := rfl
    have hkeep : soon l (put (l[k]?.getD 0) (A k)) (k+1) t ≤ soon l (A (k+1)) (k+1) t → hcount (hitOf l B) (k+1) + soon l (B (k+1)) (k+1) t ≤ hcount (hitOf l A) (k+1) + soon l (A (k+1)) (k+1) t := by
      intro h
      omega
    have nput : (put (l[k]?.getD 0) (A k)).Nodup := by
      unfold put
      split
      · exact nA
      · rename_i h
        exact List.nodup_cons.2 ⟨fun h2 => h (List.contains_iff_mem.2 h2), nA⟩
    rcases hb k hk' with h | ⟨b, hbm, hn, hs, hmax, hrest⟩
    · refine hkeep (many_mono nput fun p hp _ => ?_)
      rcases mem_put.1 hp with rfl | hp
      · exact hA.got k hk'
      · exact h p hp
    · by_cases hbt : ahead l (k+1) b < t
      · have hq : ∀ q, q ∈ A k → ahead l (k+1) q < t := fun q hq => by
          have h1 := hmax q hq
          rw [ahead_later hk' (fun e => hn (e ▸ hq)), ahead_later hk' (fun e => hn (e ▸ hbm))] at h1
          omega
        have e1 : s - 1 + lateBy l k t ≤ soon l (A (k+1)) (k+1) t := by
          have c1 : soon l (l[k]?.getD 0 :: (A k).erase b) (k+1) t ≤ soon l (A (k+1)) (k+1) t := by
            refine many_mono (List.nodup_cons.2 ⟨fun h => hn (List.mem_of_mem_erase h), nA.erase b⟩) fun p hp _ => ?_
            rcases List.mem_cons.1 hp with rfl | hp
            · exact hA.got k hk'
            · rw [nA.mem_erase_iff] at hp
              exact hrest p hp.2 hp.1
          have c2 : soon l (l[k]?.getD 0 :: (A k).erase b) (k+1) t = _ := many_cons _ _ _
          have c3 : many (fun p => decide (ahead l (k+1) p < t)) ((A k).erase b) = ((A k).erase b).length := many_all fun p hp => decide_eq_true (hq p (List.mem_of_mem_erase hp))
          rw [c3, List.length_erase_of_mem hbm, hs] at c2
          rw [c2] at c1
          unfold lateBy
          simp only [decide_eq_true_eq] at c1
          omega
        have e2 : soon l (B (k+1)) (k+1) t ≤ s - 1 + lateBy l k t := by
          have c1 : soon l (B (k+1)) (k+1) t = _ := many_erase (hB.got k hk')
          have c2 := many_le (fun p => decide (ahead l (k+1) p < t)) ((B (k+1)).erase (l[k]?.getD 0))
          rw [List.length_erase_of_mem (hB.got k hk')] at c2
          have c3 := hB.le (k+1) hk
          simp only [decide_eq_true_eq] at c1
          unfold lateBy
          omega
        omega
      · refine hkeep (many_mono nput fun p hp hpt => ?_)
        rcases mem_put.1 hp with rfl | hp
        · exact hA.got k hk'
        · refine hrest p hp fun e => hbt ?_
          subst e
          exact of_decide_eq_true hpt

/-- Nobody has more there. -/
theorem best_most {s : Nat} {l : List Int} {A B : Nat → List Int} (hA : Sched s l A) (hB : Sched s l B) (hb : Best s l A) : hcount (hitOf l B) l.length ≤ hcount (hitOf l A) l.length := by
  have h := best_step hA hB hb l.length (Nat.le_refl _) l.length (Nat.le_refl _) (Nat.le_refl _)
  have e1 : soon l (A l.length) l.length l.length = 0 := many_none fun p _ => decide_eq_false (by have := ahead_ge l l.length p; omega)
  omega
end Go.Proofs.YtmibnceadciidaaDoor
