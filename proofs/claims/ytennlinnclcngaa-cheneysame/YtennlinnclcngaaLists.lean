/- Lists and numbers alone: several texts in one. -/
import Derived.Test.YtennlinnclcngaaKeep
/- Lists alone: what any store of so many slots may hold, request by request; who lets go of what is asked for latest has as much as anybody. -/
namespace Go.Proofs.Ytennlinnclcngaa

/-- A list without a second is no longer than one that has all of it. -/
theorem length_le_of_subset : ∀ {A B : List Int}, A.Nodup → (∀ p, p ∈ A → p ∈ B) → A.length ≤ B.length
  | [], _, _, _ => Nat.zero_le _
  | x :: A, B, h, hs => by
    rw [List.nodup_cons] at h
    have hx : x ∈ B := hs x (by simp)
    have := length_le_of_subset (B := B.erase x) h.2 fun p hp => by
      have hne : p ≠ x := fun e => h.1 (e ▸ hp)
      rw [List.mem_erase_of_ne hne]
      exact hs p (by simp [hp])
    rw [List.length_erase_of_mem hx] at this
    have := List.length_pos_of_mem hx
    rw [List.length_cons]; omega

theorem same_length {A B : List Int} (ha : A.Nodup) (hb : B.Nodup) (h : ∀ x, x ∈ A ↔ x ∈ B) : A.length = B.length := by
  have a := length_le_of_subset ha fun x hx => (h x).1 hx
  have b := length_le_of_subset hb fun x hx => (h x).2 hx
  omega

/-- How many of a list pass. -/
def many (q : Int → Bool) (A : List Int) : Nat := (A.filter q).length
theorem many_mono {q : Int → Bool} {A B : List Int} (h : A.Nodup) (hs : ∀ p, p ∈ A → q p = true → p ∈ B) : many q A ≤ many q B :=
  length_le_of_subset (h.filter q) fun p hp => by
    rw [List.mem_filter] at hp ⊢
    exact ⟨hs p hp.1 hp.2, hp.2⟩
theorem many_le (q : Int → Bool) (A : List Int) : many q A ≤ A.length := List.length_filter_le _ _
theorem many_cons (q : Int → Bool) (p : Int) (A : List Int) : many q (p :: A) = (if q p then 1 else 0) + many q A := by
  unfold many
  rw [List.filter_cons]
  split
  · rw [List.length_cons]; omega
  · omega
theorem many_congr {q r : Int → Bool} {A : List Int} (h : ∀ p, p ∈ A → q p = r p) : many q A = many r A := by
  unfold many
  rw [List.filter_congr h]
theorem many_all {q : Int → Bool} {A : List Int} (h : ∀ p, p ∈ A → q p = true) : many q A = A.length := by
  unfold many
  rw [List.filter_eq_self.2 h]
theorem many_none {q : Int → Bool} {A : List Int} (h : ∀ p, p ∈ A → q p = false) : many q A = 0 := by
  unfold many
  rw [List.filter_eq_nil_iff.2 (fun p hp => by rw [h p hp]; simp)]; rfl
theorem many_erase {q : Int → Bool} {p : Int} : ∀ {A : List Int}, p ∈ A → many q A = (if q p then 1 else 0) + many q (A.erase p)
  | [], h => by simp at h
  | x :: A, h => by
    by_cases hx : x = p
    · subst hx; rw [List.erase_cons_head, many_cons]
    · rw [List.erase_cons_tail (by simpa using hx), many_cons, many_cons, many_erase (A := A) (by simpa [Ne.symm hx] using h)]
      omega

/-- The place of request k or behind it, where a page is asked for; so many as there are if there is none. -/
def ahead (l : List Int) (k : Nat) (p : Int) : Nat := k + (l.drop k).idxOf p
theorem ahead_le {l : List Int} {k : Nat} (hk : k ≤ l.length) (p : Int) : ahead l k p ≤ l.length := by
  unfold ahead
  have := List.idxOf_le_length (a := p) (l := l.drop k)
  rw [List.length_drop] at this; omega
theorem ahead_ge (l : List Int) (k : Nat) (p : Int) : k ≤ ahead l k p := Nat.le_add_right _ _
theorem drop_at {l : List Int} {k : Nat} (hk : k < l.length) : l.drop k = (l[k]?.getD 0) :: l.drop (k+1) := by
  rw [List.drop_eq_getElem_cons hk, List.getElem?_eq_getElem hk, Option.getD_some]
theorem ahead_now {l : List Int} {k : Nat} (hk : k < l.length) : ahead l k (l[k]?.getD 0) = k := by
  unfold ahead
  rw [drop_at hk, List.idxOf_cons_self]; rfl
theorem ahead_later {l : List Int} {k : Nat} (hk : k < l.length) {p : Int} (hp : p ≠ l[k]?.getD 0) : ahead l k p = ahead l (k+1) p := by
  unfold ahead
  rw [drop_at hk, List.idxOf_cons, beq_eq_false_iff_ne.2 (Ne.symm hp), cond_false]
  omega

/-- How many of the first k marks are set. -/
def hcount (h : Nat → Bool) : Nat → Nat
  | 0 => 0
  | k + 1 => hcount h k + (if h k then 1 else 0)

/-- What a store of s slots may hold ahead of each request. -/
structure Sched (s : Nat) (l : List Int) (H : Nat → List Int) : Prop where
  start : H 0 = []
  nd : ∀ k, k ≤ l.length → (H k).Nodup
  le : ∀ k, k ≤ l.length → (H k).length ≤ s
  got : ∀ k, k < l.length → l[k]?.getD 0 ∈ H (k+1)
  sub : ∀ k, k < l.length → ∀ p, p ∈ H (k+1) → p = l[k]?.getD 0 ∨ p ∈ H k
def hitOf (l : List Int) (H : Nat → List Int) (k : Nat) : Bool := (H k).contains (l[k]?.getD 0)

/-- Let go of is only what is asked for latest, and where there is no slot. -/
def Best (s : Nat) (l : List Int) (H : Nat → List Int) : Prop :=
  ∀ k, k < l.length → (∀ p, p ∈ H k → p ∈ H (k+1)) ∨
    ∃ b, b ∈ H k ∧ l[k]?.getD 0 ∉ H k ∧ (H k).length = s ∧ (∀ q, q ∈ H k → ahead l k q ≤ ahead l k b) ∧ ∀ p, p ∈ H k → p ≠ b → p ∈ H (k+1)

/-- How many of what is held are asked for ahead of place t. -/
def soon (l : List Int) (A : List Int) (k t : Nat) : Nat := many (fun p => decide (ahead l k p < t)) A
def lateBy (l : List Int) (k t : Nat) : Nat := if ahead l (k+1) (l[k]?.getD 0) < t then 1 else 0
def put (p : Int) (A : List Int) : List Int := if A.contains p then A else p :: A
theorem mem_put {p q : Int} {A : List Int} : q ∈ put p A ↔ q = p ∨ q ∈ A := by
  unfold put
  by_cases h : A.contains p = true
  · rw [if_pos h]
    constructor
    · exact .inr
    · rintro (rfl | h2)
      · exact List.contains_iff_mem.1 h
      · exact h2
  · rw [if_neg h, List.mem_cons]

theorem soon_now {l A : List Int} {k : Nat} (hk : k < l.length) (hA : A.Nodup) : soon l A k (k+1) = if A.contains (l[k]?.getD 0) then 1 else 0 := by
  have hno : ∀ B : List Int, l[k]?.getD 0 ∉ B → soon l B k (k+1) = 0 := fun B hB => many_none fun p hp => by
    have := ahead_ge l (k+1) p
    rw [ahead_later hk (fun e => hB (e ▸ hp))]
    exact decide_eq_false (by omega)
  by_cases hm : l[k]?.getD 0 ∈ A
  · have h0 := hno (A.erase (l[k]?.getD 0)) (hA.not_mem_erase)
    unfold soon at h0 ⊢
    rw [if_pos (List.contains_iff_mem.2 hm), many_erase hm, h0, ahead_now hk]
    simp
  · rw [hno A hm, if_neg (fun h => hm (List.contains_iff_mem.1 h))]

/-- One request: what was asked for just now comes to be asked for later. -/
theorem soon_step {l A : List Int} {k t : Nat} (hk : k < l.length) (ht : k < t) (hA : A.Nodup) : (if A.contains (l[k]?.getD 0) then 1 else 0) + soon l (put (l[k]?.getD 0) A) (k+1) t = soon l A k t + lateBy l k t := by
  have hsame : ∀ B : List Int, l[k]?.getD 0 ∉ B → soon l B (k+1) t = soon l B k t := fun B hB => many_congr fun p hp => by
    rw [ahead_later hk (fun e => hB (e ▸ hp))]
  unfold put lateBy
  by_cases hm : l[k]?.getD 0 ∈ A
  · have h0 := hsame (A.erase (l[k]?.getD 0)) (hA.not_mem_erase)
    have h1 : soon l A (k+1) t = _ := many_erase hm
    have h2 : soon l A k t = _ := many_erase hm
    rw [if_pos (List.contains_iff_mem.2 hm), if_pos (List.contains_iff_mem.2 hm), h1, h2]
    unfold soon at h0
    rw [h0, ahead_now hk]
    simp only [decide_eq_true_eq, if_pos ht]
    omega
  · have hm2 : ¬ (A.contains (l[k]?.getD 0) = true) := fun h => hm (List.contains_iff_mem.1 h)
    have h1 : soon l (l[k]?.getD 0 :: A) (k+1) t = _ := many_cons _ _ _
    have h0 := hsame A hm
    unfold soon at h0 h1 ⊢
    rw [if_neg hm2, if_neg hm2, h1, h0]
    simp only [decide_eq_true_eq]
    omega

theorem best_step {s : Nat} {l : List Int} {A B : Nat → List Int} (hA : Sched s l A) (hB : Sched s l B) (hb : Best s l A) : ∀ k, k ≤ l.length → ∀ t, k ≤ t → t ≤ l.length → hcount (hitOf l B) k + soon l (B k) k t ≤ hcount (hitOf l A) k + soon l (A k) k t
  | 0, _, t, _, _ => by
    rw [hA.start, hB.start]
    exact Nat.le_refl _
  | k + 1, hk, t, h1, h2 => by
    have hk' : k < l.length := by omega
    have ih := best_step hA hB hb k (by omega)
    have it := ih t (by omega) h2
    have i1 := ih (k+1) (by omega) (by omega)
    have nA := hA.nd k (by omega)
    have nB := hB.nd k (by omega)
    rw [soon_now hk' nA, soon_now hk' nB] at i1
    have sA := soon_step hk' (by omega : k < t) nA
    have sB := soon_step hk' (by omega : k < t) nB
    have hBB : soon l (B (k+1)) (k+1) t ≤ soon l (put (l[k]?.getD 0) (B k)) (k+1) t := many_mono (hB.nd (k+1) hk) fun p hp _ => mem_put.2 (hB.sub k hk' p hp)
    have eA : hcount (hitOf l A) (k+1) = hcount (hitOf l A) k + (if (A k).contains (l[k]?.getD 0) then 1 else 0) := rfl
    have eB : hcount (hitOf l B) (k+1) = hcount (hitOf l B) k + (if (B k).contains (l[k]?.getD 0) then 1 else 0) := rfl
    have hkeep : soon l (put (l[k]?.getD 0) (A k)) (k+1) t ≤ soon l (A (k+1)) (k+1) t → hcount (hitOf l B) (k+1) + soon l (B (k+1)) (k+1) t ≤ hcount (hitOf l A) (k+1) + soon l (A (k+1)) (k+1) t := by
      intro h
      omega
    have nput : (put (l[k]?.getD 0) (A k)).Nodup := by
      unfold put
      split
      · exact nA
      · rename_i h
        exact List.nodup_cons.2 ⟨fun h2 => h (List.contains_iff_mem.2 h2), nA⟩
    rcases hb k hk' with h | ⟨b, hbm, hn, hs, hmax, hrest⟩
    · refine hkeep (many_mono nput fun p hp _ => ?_)
      rcases mem_put.1 hp with rfl | hp
      · exact hA.got k hk'
      · exact h p hp
    · by_cases hbt : ahead l (k+1) b < t
      · have hq : ∀ q, q ∈ A k → ahead l (k+1) q < t := fun q hq => by
          have h1 := hmax q hq
          rw [ahead_later hk' (fun e => hn (e ▸ hq)), ahead_later hk' (fun e => hn (e ▸ hbm))] at h1
          omega
        have e1 : s - 1 + lateBy l k t ≤ soon l (A (k+1)) (k+1) t := by
          have c1 : soon l (l[k]?.getD 0 :: (A k).erase b) (k+1) t ≤ soon l (A (k+1)) (k+1) t := by
            refine many_mono (List.nodup_cons.2 ⟨fun h => hn (List.mem_of_mem_erase h), nA.erase b⟩) fun p hp _ => ?_
            rcases List.mem_cons.1 hp with rfl | hp
            · exact hA.got k hk'
            · rw [nA.mem_erase_iff] at hp
              exact hrest p hp.2 hp.1
          have c2 : soon l (l[k]?.getD 0 :: (A k).erase b) (k+1) t = _ := many_cons _ _ _
          have c3 : many (fun p => decide (ahead l (k+1) p < t)) ((A k).erase b) = ((A k).erase b).length := many_all fun p hp => decide_eq_true (hq p (List.mem_of_mem_erase hp))
          rw [c3, List.length_erase_of_mem hbm, hs] at c2
          rw [c2] at c1
          unfold lateBy
          simp only [decide_eq_true_eq] at c1
          omega
        have e2 : soon l (B (k+1)) (k+1) t ≤ s - 1 + lateBy l k t := by
          have c1 : soon l (B (k+1)) (k+1) t = _ := many_erase (hB.got k hk')
          have c2 := many_le (fun p => decide (ahead l (k+1) p < t)) ((B (k+1)).erase (l[k]?.getD 0))
          rw [List.length_erase_of_mem (hB.got k hk')] at c2
          have c3 := hB.le (k+1) hk
          simp only [decide_eq_true_eq] at c1
          unfold lateBy
          omega
        omega
      · refine hkeep (many_mono nput fun p hp hpt => ?_)
        rcases mem_put.1 hp with rfl | hp
        · exact hA.got k hk'
        · refine hrest p hp fun e => hbt ?_
          subst e
          exact of_decide_eq_true hpt

/-- Nobody has more there. -/
theorem best_most {s : Nat} {l : List Int} {A B : Nat → List Int} (hA : Sched s l A) (hB : Sched s l B) (hb : Best s l A) : hcount (hitOf l B) l.length ≤ hcount (hitOf l A) l.length := by
  have h := best_step hA hB hb l.length (Nat.le_refl _) l.length (Nat.le_refl _) (Nat.le_refl _)
  have e1 : soon l (A l.length) l.length l.length = 0 := many_none fun p _ => decide_eq_false (by have := ahead_ge l l.length p; omega)
  omega
end Go.Proofs.Ytennlinnclcngaa

/- Lists alone, for chapter 17: what can be come to; breadth first; rings; taking away what is not pointed to. g gives the pointers of a node. -/
namespace Go.Proofs.Ytennlinnclcngaa

/-- What can be come to from some nodes. -/
inductive Come (g : Int → List Int) (R : List Int) : Int → Prop
  | root {x : Int} : x ∈ R → Come g R x
  | step {x y : Int} : Come g R x → y ∈ g x → Come g R y
theorem Come.mono {g : Int → List Int} {R S : List Int} (h : ∀ x, x ∈ R → x ∈ S) {x : Int} (hx : Come g R x) : Come g S x := by
  induction hx with
  | root h1 => exact .root (h _ h1)
  | step _ h2 ih => exact .step ih h2
theorem Come.trans {g : Int → List Int} {R S : List Int} (h : ∀ x, x ∈ S → Come g R x) {x : Int} (hx : Come g S x) : Come g R x := by
  induction hx with
  | root h1 => exact h _ h1
  | step _ h2 ih => exact .step ih h2
theorem Come.least {g : Int → List Int} {R : List Int} {C : Int → Prop} (h1 : ∀ x, x ∈ R → C x) (h2 : ∀ x y, C x → y ∈ g x → C y) {x : Int} (hx : Come g R x) : C x := by
  induction hx with
  | root h => exact h1 _ h
  | step _ h ih => exact h2 _ _ ih h
theorem come_append {g : Int → List Int} {R S : List Int} {x : Int} : Come g (R ++ S) x ↔ Come g R x ∨ Come g S x := by
  constructor
  · intro h
    induction h with
    | root h1 =>
      rcases List.mem_append.1 h1 with h | h
      · exact .inl (.root h)
      · exact .inr (.root h)
    | step _ h2 ih =>
      rcases ih with h | h
      · exact .inl (.step h h2)
      · exact .inr (.step h h2)
  · rintro (h | h)
    · exact h.mono fun x hx => List.mem_append_left _ hx
    · exact h.mono fun x hx => List.mem_append_right _ hx
theorem come_one {g : Int → List Int} {r x : Int} : Come g [r] x ↔ x = r ∨ Come g (g r) x := by
  constructor
  · intro h
    induction h with
    | root h1 => exact .inl (by simpa using h1)
    | step _ h2 ih =>
      rcases ih with rfl | h
      · exact .inr (.root h2)
      · exact .inr (.step h h2)
  · rintro (rfl | h)
    · exact .root (by simp)
    · exact h.trans fun y hy => .step (.root (by simp)) hy
/-- What is not found yet is put behind. -/
def addNew (A : List Int) : List Int → List Int
  | [] => A
  | x :: r => addNew (if A.contains x then A else A ++ [x]) r
theorem addNew_mem {x : Int} : ∀ {A l : List Int}, x ∈ addNew A l ↔ x ∈ A ∨ x ∈ l
  | A, [] => by simp [addNew]
  | A, y :: r => by
    rw [addNew, addNew_mem]
    split
    · rename_i h
      have h := List.contains_iff_mem.1 h
      rw [List.mem_cons]
      constructor
      · rintro (h' | h')
        · exact .inl h'
        · exact .inr (.inr h')
      · rintro (h' | rfl | h')
        · exact .inl h'
        · exact .inl h
        · exact .inr h'
    · rw [List.mem_append, List.mem_singleton, List.mem_cons]
      exact or_assoc
theorem addNew_nodup : ∀ {A l : List Int}, A.Nodup → (addNew A l).Nodup
  | A, [], h => h
  | A, x :: r, h => by
    rw [addNew]
    split
    · exact addNew_nodup h
    · rename_i hx
      refine addNew_nodup (List.nodup_append.2 ⟨h, by simp, fun a ha b hb => ?_⟩)
      rw [List.mem_singleton] at hb
      rintro rfl
      subst hb
      exact hx (List.contains_iff_mem.2 ha)
theorem addNew_prefix : ∀ (A l : List Int), ∃ B, addNew A l = A ++ B
  | A, [] => ⟨[], by simp [addNew]⟩
  | A, x :: r => by
    rw [addNew]
    split
    · exact addNew_prefix A r
    · obtain ⟨B, hB⟩ := addNew_prefix (A ++ [x]) r
      exact ⟨x :: B, by rw [hB, List.append_assoc]; rfl⟩
theorem addNew_get {A l : List Int} {j : Nat} (h : j < A.length) : (addNew A l)[j]?.getD 0 = A[j]?.getD 0 := by
  obtain ⟨B, hB⟩ := addNew_prefix A l
  rw [hB, List.getElem?_append_left h]
theorem addNew_snoc : ∀ (A l : List Int) (x : Int), addNew A (l ++ [x]) = (if (addNew A l).contains x then addNew A l else addNew A l ++ [x])
  | A, [], x => by simp [addNew]
  | A, y :: r, x => by rw [List.cons_append, addNew, addNew, addNew_snoc]
/-- The nodes found so far; those of the first k have been looked at. -/
structure Found (g : Int → List Int) (R A : List Int) (k : Nat) : Prop where
  le : k ≤ A.length
  nodup : A.Nodup
  come : ∀ x, x ∈ A → Come g R x
  root : ∀ x, x ∈ R → x ∈ A
  seen : ∀ j, j < k → ∀ y, y ∈ g (A[j]?.getD 0) → y ∈ A
theorem found_start (g : Int → List Int) (R : List Int) : Found g R (addNew [] R) 0 :=
  ⟨Nat.zero_le _, addNew_nodup (by simp), fun x hx => .root (by have := addNew_mem.1 hx; simpa using this), fun x hx => addNew_mem.2 (.inr hx), fun j hj => by omega⟩
theorem found_step {g : Int → List Int} {R A : List Int} {k : Nat} (h : Found g R A k) (hk : k < A.length) : Found g R (addNew A (g (A[k]?.getD 0))) (k+1) := by
  obtain ⟨B, hB⟩ := addNew_prefix A (g (A[k]?.getD 0))
  have hA : A[k]?.getD 0 ∈ A := by rw [List.getElem?_eq_getElem hk]; exact List.getElem_mem _
  refine ⟨by rw [hB, List.length_append]; omega, addNew_nodup h.nodup, fun x hx => ?_, fun x hx => addNew_mem.2 (.inl (h.root x hx)), fun j hj y hy => ?_⟩
  · rcases addNew_mem.1 hx with h1 | h1
    · exact h.come x h1
    · exact .step (h.come _ hA) h1
  · rw [addNew_get (by omega)] at hy
    by_cases e : j = k
    · subst e; exact addNew_mem.2 (.inr hy)
    · exact addNew_mem.2 (.inl (h.seen j (by omega) y hy))
theorem found_all {g : Int → List Int} {R A : List Int} {k : Nat} (h : Found g R A k) (hk : ¬ k < A.length) (x : Int) : x ∈ A ↔ Come g R x := by
  refine ⟨h.come x, fun hx => Come.least (C := fun x => x ∈ A) h.root (fun u y hu hy => ?_) hx⟩
  obtain ⟨j, hj, rfl⟩ := List.getElem_of_mem hu
  refine h.seen j (by omega) y ?_
  rw [List.getElem?_eq_getElem hj]; exact hy
/-- As long as pointers are to nodes below n, no more than n are found. -/
theorem come_below {g : Int → List Int} {R : List Int} {n : Int} (hR : ∀ x, x ∈ R → 0 ≤ x ∧ x < n) (hg : ∀ x, 0 ≤ x ∧ x < n → ∀ y, y ∈ g x → 0 ≤ y ∧ y < n) {x : Int} (h : Come g R x) : 0 ≤ x ∧ x < n :=
  Come.least (C := fun x => 0 ≤ x ∧ x < n) hR (fun x y hx hy => hg x hx y hy) h
theorem below_length {A : List Int} {n : Nat} (hn : A.Nodup) (h : ∀ x, x ∈ A → 0 ≤ x ∧ x < n) : A.length ≤ n := by
  have := length_le_of_subset (B := (List.range n).map fun i : Nat => (i : Int)) hn fun p hp => by
    have := h p hp
    exact List.mem_map.2 ⟨p.toNat, by rw [List.mem_range]; omega, by omega⟩
  simpa using this

/-- A node that can be come to from itself along one pointer or more. -/
def Ring (g : Int → List Int) (x : Int) : Prop := Come g (g x) x
/-- Where it comes from is in a ring, too. -/
theorem Ring.from {g : Int → List Int} {x : Int} (h : Ring g x) : ∃ y, Ring g y ∧ x ∈ g y ∧ (y = x ∨ Come g (g x) y) := by
  unfold Ring at h
  have key : ∀ z, Come g (g x) z → ∃ y, (y = x ∨ Come g (g x) y) ∧ z ∈ g y := fun z hz => by
    cases hz with
    | root h1 => exact ⟨x, .inl rfl, h1⟩
    | step h1 h2 => exact ⟨_, .inr h1, h2⟩
  obtain ⟨y, hy, hx⟩ := key x h
  refine ⟨y, ?_, hx, hy⟩
  rcases hy with rfl | hy
  · exact h
  · have h1 : Come g [x] y := come_one.2 (.inr hy)
    exact h1.trans fun z hz => by
      rw [List.mem_singleton] at hz
      subst hz
      exact .root hx
/-- The nodes ahead of a node, each pointed to by the next. -/
theorem chain {g : Int → List Int} {f : Int → Int} {S : List Int} (hf : ∀ x, x ∈ S → f x ∈ S ∧ x ∈ g (f x)) : ∀ (d : Nat) (a : Nat) {x : Int}, x ∈ S → Come g (g (Nat.rec x (fun _ y => f y) (a + d + 1))) (Nat.rec x (fun _ y => f y) a)
  | 0, a, x, hx => by
    have : ∀ n, (Nat.rec x (fun _ y => f y) n : Int) ∈ S := fun n => by
      induction n with
      | zero => exact hx
      | succ n ih => exact (hf _ ih).1
    exact .root (hf _ (this a)).2
  | d + 1, a, x, hx => by
    have hS : ∀ n, (Nat.rec x (fun _ y => f y) n : Int) ∈ S := fun n => by
      induction n with
      | zero => exact hx
      | succ n ih => exact (hf _ ih).1
    have ih := chain hf d a hx
    refine Come.trans (fun z hz => ?_) ih
    have h1 : (Nat.rec x (fun _ y => f y) (a + d + 1) : Int) ∈ g (Nat.rec x (fun _ y => f y) (a + (d + 1) + 1)) := (hf _ (hS (a + d + 1))).2
    exact .step (.root h1) hz
/-- Where each node of some is pointed to by one of them, one is in a ring. -/
theorem ring_of {g : Int → List Int} {S : List Int} (h0 : S ≠ []) (h : ∀ x, x ∈ S → ∃ y, y ∈ S ∧ x ∈ g y) : ∃ x, x ∈ S ∧ Ring g x := by
  have ⟨f, hf⟩ : ∃ f : Int → Int, ∀ x, x ∈ S → f x ∈ S ∧ x ∈ g (f x) :=
    ⟨fun x => if hx : x ∈ S then Classical.choose (h x hx) else 0, fun x hx => by simp only [dif_pos hx]; exact Classical.choose_spec (h x hx)⟩
  obtain ⟨x, hx⟩ := List.exists_mem_of_ne_nil S h0
  have hS : ∀ n, (Nat.rec x (fun _ y => f y) n : Int) ∈ S := fun n => by
    induction n with
    | zero => exact hx
    | succ n ih => exact (hf _ ih).1
  let c : Nat → Int := fun n => Nat.rec x (fun _ y => f y) n
  have hn : ¬ ((List.range (S.length + 1)).map c).Nodup := fun hn => by
    have := length_le_of_subset hn fun p hp => by
      obtain ⟨n, _, rfl⟩ := List.mem_map.1 hp
      exact hS n
    rw [List.length_map, List.length_range] at this
    omega
  have ⟨a, b, hab, e⟩ : ∃ a b, a < b ∧ c a = c b := by
    refine Classical.byContradiction fun hno => hn ?_
    unfold List.Nodup
    rw [List.pairwise_map]
    refine List.Pairwise.imp ?_ List.pairwise_lt_range
    intro a b hab e
    exact hno ⟨a, b, hab, e⟩
  refine ⟨c a, hS a, ?_⟩
  have := chain hf (b - a - 1) a hx
  rw [show a + (b - a - 1) + 1 = b by omega] at this
  show Come g (g (c a)) (c a)
  rw [e]
  have h2 : Come g (g (c b)) (c a) := this
  rw [e] at h2
  exact h2
end Go.Proofs.Ytennlinnclcngaa

/- Lists alone, for chapters 18 and 19: a heap of some nodes, numbered anew. -/
namespace Go.Proofs.Ytennlinnclcngaa

/-- What a node points to; nothing, if it is none. -/
def gOf (outs : List (List Int)) (x : Int) : List Int := if 0 ≤ x then outs[x.toNat]?.getD [] else []
/-- The number of a node among some. -/
def plc (nodes : List Int) (x : Int) : Int := (nodes.idxOf x : Nat)
def anewO (outs : List (List Int)) (nodes : List Int) : List (List Int) := nodes.map fun k => (gOf outs k).map (plc nodes)
def upTo (m : Nat) : List Int := (List.range m).map fun i : Nat => (i : Int)
theorem upTo_length (m : Nat) : (upTo m).length = m := by simp [upTo]
theorem upTo_mem {m : Nat} {x : Int} : x ∈ upTo m ↔ 0 ≤ x ∧ x < m := by
  unfold upTo
  rw [List.mem_map]
  constructor
  · rintro ⟨i, hi, rfl⟩
    rw [List.mem_range] at hi
    omega
  · rintro ⟨h1, h2⟩
    exact ⟨x.toNat, by rw [List.mem_range]; omega, by omega⟩
theorem upTo_get {m i : Nat} (h : i < m) : (upTo m)[i]? = some (i : Int) := by
  unfold upTo
  rw [List.getElem?_map, List.getElem?_range h]; rfl
theorem upTo_nodup (m : Nat) : (upTo m).Nodup := by
  unfold upTo List.Nodup
  rw [List.pairwise_map]
  refine List.Pairwise.imp ?_ List.pairwise_lt_range
  intro a b hab e
  omega
theorem plc_lt {nodes : List Int} {x : Int} (h : x ∈ nodes) : 0 ≤ plc nodes x ∧ plc nodes x < nodes.length := by
  unfold plc
  have := List.idxOf_lt_length_iff.2 h
  omega
theorem plc_back {nodes : List Int} {x : Int} (h : x ∈ nodes) : nodes[(plc nodes x).toNat]? = some x := by
  unfold plc
  have := List.idxOf_lt_length_iff.2 h
  rw [Int.toNat_natCast, List.getElem?_eq_getElem this]
  simp
theorem plc_inj {nodes : List Int} {x y : Int} (hx : x ∈ nodes) (hy : y ∈ nodes) (h : plc nodes x = plc nodes y) : x = y := by
  have a := plc_back hx
  have b := plc_back hy
  rw [h, b] at a
  injection a with a
  exact a.symm
theorem plc_get {nodes : List Int} (hn : nodes.Nodup) {i : Nat} (hi : i < nodes.length) : plc nodes nodes[i] = (i : Int) := by
  unfold plc
  rw [hn.idxOf_getElem]
theorem plc_upTo {m : Nat} {x : Int} (h : x ∈ upTo m) : plc (upTo m) x = x := by
  have hx := upTo_mem.1 h
  have hb := plc_back h
  have hl := plc_lt h
  rw [upTo_length] at hl
  rw [upTo_get (by omega)] at hb
  have hb := Option.some.inj hb
  omega
theorem plc_self {nodes : List Int} (hn : nodes.Nodup) : nodes.map (plc nodes) = upTo nodes.length := by
  refine List.ext_getElem (by rw [List.length_map, upTo_length]) fun i h1 h2 => ?_
  rw [List.length_map] at h1
  rw [List.getElem_map, plc_get hn h1]
  have := upTo_get h1
  rw [List.getElem?_eq_getElem h2] at this
  injection this with this
  exact this.symm
/-- Nodes that point to each other alone. -/
structure Shut (outs : List (List Int)) (roots nodes : List Int) : Prop where
  nodup : nodes.Nodup
  root : ∀ x, x ∈ roots → x ∈ nodes
  outs : ∀ x, x ∈ nodes → ∀ y, y ∈ gOf outs x → y ∈ nodes
theorem anew_length (outs : List (List Int)) (nodes : List Int) : (anewO outs nodes).length = nodes.length := by simp [anewO]
theorem anew_g {outs : List (List Int)} {nodes : List Int} {x : Int} (hx : x ∈ nodes) : gOf (anewO outs nodes) (plc nodes x) = (gOf outs x).map (plc nodes) := by
  have h1 := plc_lt hx
  have h2 := plc_back hx
  rw [gOf, if_pos h1.1]
  unfold anewO
  rw [List.getElem?_map, h2]; rfl
theorem anew_out {outs : List (List Int)} {nodes : List Int} {x : Int} (hx : ¬ (0 ≤ x ∧ x < nodes.length)) : gOf (anewO outs nodes) x = [] := by
  unfold gOf
  split
  · rename_i h
    rw [List.getElem?_eq_none (by rw [anew_length]; omega)]; rfl
  · rfl
/-- What is come to in the one heap is come to, by its number, in the other. -/
theorem anew_come {outs : List (List Int)} {roots nodes : List Int} (h : Shut outs roots nodes) {x : Int} (hx : Come (gOf outs) roots x) : x ∈ nodes ∧ Come (gOf (anewO outs nodes)) (roots.map (plc nodes)) (plc nodes x) := by
  induction hx with
  | root h1 => exact ⟨h.root _ h1, .root (List.mem_map.2 ⟨_, h1, rfl⟩)⟩
  | step _ h2 ih =>
    refine ⟨h.outs _ ih.1 _ h2, .step ih.2 ?_⟩
    rw [anew_g ih.1]
    exact List.mem_map.2 ⟨_, h2, rfl⟩
/-- All of the new heap is come to, if the nodes are just those that were. -/
theorem anew_all {outs : List (List Int)} {roots nodes : List Int} (h : Shut outs roots nodes) (hc : ∀ x, x ∈ nodes → Come (gOf outs) roots x) {k : Int} : Come (gOf (anewO outs nodes)) (roots.map (plc nodes)) k ↔ k ∈ upTo nodes.length := by
  constructor
  · intro hk
    refine Come.least (C := fun k => k ∈ upTo nodes.length) (fun x hx => ?_) (fun x y hx hy => ?_) hk
    · obtain ⟨r, hr, rfl⟩ := List.mem_map.1 hx
      exact upTo_mem.2 (plc_lt (h.root r hr))
    · have hx := upTo_mem.1 hx
      have hi : x.toNat < nodes.length := by omega
      have hp := plc_get h.nodup hi
      rw [show ((x.toNat : Nat) : Int) = x by omega] at hp
      rw [← hp, anew_g (List.getElem_mem hi)] at hy
      obtain ⟨z, hz, rfl⟩ := List.mem_map.1 hy
      exact upTo_mem.2 (plc_lt (h.outs _ (List.getElem_mem hi) z hz))
  · intro hk
    have hk := upTo_mem.1 hk
    have hi : k.toNat < nodes.length := by omega
    have := (anew_come h (hc _ (List.getElem_mem hi))).2
    rw [plc_get h.nodup hi, show ((k.toNat : Nat) : Int) = k by omega] at this
    exact this
theorem anew_shut {outs : List (List Int)} {roots nodes : List Int} (h : Shut outs roots nodes) : Shut (anewO outs nodes) (roots.map (plc nodes)) (upTo nodes.length) := by
  refine ⟨upTo_nodup _, fun x hx => ?_, fun x hx y hy => ?_⟩
  · obtain ⟨r, hr, rfl⟩ := List.mem_map.1 hx
    exact upTo_mem.2 (plc_lt (h.root r hr))
  · have hx := upTo_mem.1 hx
    have hi : x.toNat < nodes.length := by omega
    have hp := plc_get h.nodup hi
    rw [show ((x.toNat : Nat) : Int) = x by omega] at hp
    rw [← hp, anew_g (List.getElem_mem hi)] at hy
    obtain ⟨z, hz, rfl⟩ := List.mem_map.1 hy
    exact upTo_mem.2 (plc_lt (h.outs _ (List.getElem_mem hi) z hz))
/-- Numbered anew by the numbers that they have, a heap is as it is. -/
theorem anew_same {outs : List (List Int)} {roots : List Int} (h : Shut outs roots (upTo outs.length)) : anewO outs (upTo outs.length) = outs ∧ roots.map (plc (upTo outs.length)) = roots := by
  constructor
  · refine List.ext_getElem (by rw [anew_length, upTo_length]) fun i h1 h2 => ?_
    have hi2 : i < (upTo outs.length).length := by rw [upTo_length]; exact h2
    have hget : (anewO outs (upTo outs.length))[i] = (gOf outs ((upTo outs.length)[i])).map (plc (upTo outs.length)) := List.getElem_map ..
    rw [hget]
    have hg : (upTo outs.length)[i]'(by rw [upTo_length]; exact h2) = (i : Int) := by
      have := upTo_get h2
      rw [List.getElem?_eq_getElem (by rw [upTo_length]; exact h2)] at this
      injection this
    rw [hg]
    have hgo : gOf outs (i : Int) = outs[i] := by
      rw [gOf, if_pos (by omega), Int.toNat_natCast, List.getElem?_eq_getElem h2]; rfl
    rw [hgo]
    have : ∀ y, y ∈ outs[i] → plc (upTo outs.length) y = y := fun y hy => plc_upTo (h.outs (i : Int) (upTo_mem.2 (by omega)) y (by rw [hgo]; exact hy))
    rw [List.map_congr_left this]
    exact List.map_id' _
  · rw [List.map_congr_left fun y hy => plc_upTo (h.root y hy)]
    exact List.map_id' _

/-- Breadth first: what was found when the first k have been looked at. -/
def bfsA (g : Int → List Int) (R : List Int) : Nat → List Int
  | 0 => addNew [] R
  | k + 1 => if k < (bfsA g R k).length then addNew (bfsA g R k) (g ((bfsA g R k)[k]?.getD 0)) else bfsA g R k
/-- All that is found, breadth first. -/
def IsFrom (g : Int → List Int) (R A : List Int) : Prop := ∃ k, (∀ j, j < k → j < (bfsA g R j).length) ∧ k = (bfsA g R k).length ∧ A = bfsA g R k
theorem bfs_found {g : Int → List Int} {R : List Int} : ∀ k, (∀ j, j < k → j < (bfsA g R j).length) → Found g R (bfsA g R k) k
  | 0, _ => found_start g R
  | k + 1, h => by
    have hk := h k (by omega)
    have ih := bfs_found k fun j hj => h j (by omega)
    rw [bfsA, if_pos hk]
    exact found_step ih hk
theorem IsFrom.det {g : Int → List Int} {R A B : List Int} (h1 : IsFrom g R A) (h2 : IsFrom g R B) : A = B := by
  obtain ⟨k, a1, a2, a3⟩ := h1
  obtain ⟨m, b1, b2, b3⟩ := h2
  have : k = m := by
    rcases Nat.lt_trichotomy k m with h | h | h
    · have := b1 k h; omega
    · exact h
    · have := a1 m h; omega
  subst this
  rw [a3, b3]
theorem IsFrom.mem {g : Int → List Int} {R A : List Int} (h : IsFrom g R A) : A.Nodup ∧ ∀ x, x ∈ A ↔ Come g R x := by
  obtain ⟨k, a1, a2, rfl⟩ := h
  have hf := bfs_found k a1
  exact ⟨hf.nodup, found_all hf (by omega)⟩
theorem addNew_map {f : Int → Int} : ∀ {l A : List Int}, (∀ x y, (x ∈ A ∨ x ∈ l) → (y ∈ A ∨ y ∈ l) → f x = f y → x = y) → addNew (A.map f) (l.map f) = (addNew A l).map f
  | [], A, _ => rfl
  | x :: r, A, h => by
    rw [List.map_cons, addNew, addNew]
    have hc : (A.map f).contains (f x) = A.contains x := by
      rw [Bool.eq_iff_iff, List.contains_iff_mem, List.contains_iff_mem]
      constructor
      · intro hm
        obtain ⟨y, hy, e⟩ := List.mem_map.1 hm
        rw [← h y x (.inl hy) (.inr (by simp)) e]; exact hy
      · exact fun hm => List.mem_map.2 ⟨x, hm, rfl⟩
    rw [hc]
    cases A.contains x
    · rw [if_neg (by simp), if_neg (by simp), show A.map f ++ [f x] = (A ++ [x]).map f by simp]
      refine addNew_map fun y z hy hz => h y z ?_ ?_
      · rcases hy with hy | hy
        · rcases List.mem_append.1 hy with hy | hy
          · exact .inl hy
          · exact .inr (by simp at hy; simp [hy])
        · exact .inr (by simp [hy])
      · rcases hz with hz | hz
        · rcases List.mem_append.1 hz with hz | hz
          · exact .inl hz
          · exact .inr (by simp at hz; simp [hz])
        · exact .inr (by simp [hz])
    · rw [if_pos rfl, if_pos rfl]
      refine addNew_map fun y z hy hz => h y z ?_ ?_
      · rcases hy with hy | hy
        · exact .inl hy
        · exact .inr (by simp [hy])
      · rcases hz with hz | hz
        · exact .inl hz
        · exact .inr (by simp [hz])
theorem bfs_map {outs : List (List Int)} {roots nodes : List Int} (h : Shut outs roots nodes) : ∀ k, (∀ x, x ∈ bfsA (gOf outs) roots k → x ∈ nodes) ∧ bfsA (gOf (anewO outs nodes)) (roots.map (plc nodes)) k = (bfsA (gOf outs) roots k).map (plc nodes)
  | 0 => by
    refine ⟨fun x hx => ?_, ?_⟩
    · rcases addNew_mem.1 hx with hx | hx
      · simp at hx
      · exact h.root x hx
    · rw [bfsA, bfsA]
      exact addNew_map (A := []) fun x y hx hy e => by
        have hx : x ∈ roots := by simpa using hx
        have hy : y ∈ roots := by simpa using hy
        exact plc_inj (h.root x hx) (h.root y hy) e
  | k + 1 => by
    obtain ⟨ih1, ih2⟩ := bfs_map h k
    rw [bfsA, bfsA, ih2, List.length_map]
    by_cases hk : k < (bfsA (gOf outs) roots k).length
    · rw [if_pos hk, if_pos hk]
      have hm : (bfsA (gOf outs) roots k)[k] ∈ nodes := ih1 _ (List.getElem_mem hk)
      have e1 : (bfsA (gOf outs) roots k)[k]?.getD 0 = (bfsA (gOf outs) roots k)[k] := by rw [List.getElem?_eq_getElem hk]; rfl
      have e2 : ((bfsA (gOf outs) roots k).map (plc nodes))[k]?.getD 0 = plc nodes (bfsA (gOf outs) roots k)[k] := by rw [List.getElem?_map, List.getElem?_eq_getElem hk]; rfl
      rw [e1, e2, anew_g hm]
      have hin : ∀ x, (x ∈ bfsA (gOf outs) roots k ∨ x ∈ gOf outs (bfsA (gOf outs) roots k)[k]) → x ∈ nodes := fun x hx => by
        rcases hx with hx | hx
        · exact ih1 x hx
        · exact h.outs _ hm x hx
      refine ⟨fun x hx => hin x (addNew_mem.1 hx), ?_⟩
      exact addNew_map fun x y hx hy e => plc_inj (hin x hx) (hin y hy) e
    · rw [if_neg hk, if_neg hk]
      exact ⟨ih1, rfl⟩
/-- Cheney: the copy's copy has the same numbers. -/
theorem copy_twice {outs : List (List Int)} {roots A : List Int} (hF : IsFrom (gOf outs) roots A) (hS : Shut outs roots A) : IsFrom (gOf (anewO outs A)) (roots.map (plc A)) (upTo A.length) := by
  obtain ⟨k, a1, a2, a3⟩ := hF
  have hb := bfs_map hS
  refine ⟨k, fun j hj => ?_, ?_, ?_⟩
  · rw [(hb j).2, List.length_map]; exact a1 j hj
  · rw [(hb k).2, List.length_map]; exact a2
  · rw [(hb k).2, ← a3, plc_self hS.nodup]
theorem from_shut {outs : List (List Int)} {roots A : List Int} (hF : IsFrom (gOf outs) roots A) : Shut outs roots A := by
  obtain ⟨h1, h2⟩ := hF.mem
  exact ⟨h1, fun x hx => (h2 x).2 (.root hx), fun x hx y hy => (h2 y).2 (.step ((h2 x).1 hx) hy)⟩
end Go.Proofs.Ytennlinnclcngaa

/- Lists alone, for chapter 17: what is wrong with a heap. -/
namespace Go.Proofs.Ytennlinnclcngaa

def badN (n : Nat) (x : Int) : Bool := decide (x < 0) || decide ((n : Int) ≤ x)
/-- What is wrong with the pointers of one node. -/
def hRow (n : Nat) (r : List Int) : Nat := if 4 < r.length then 4 else if r.any (badN n) then 1 else 0
def hRows (n : Nat) : List (List Int) → Nat
  | [] => 0
  | r :: t => if hRow n r = 0 then hRows n t else hRow n r
def chkH (L : List (List Int)) (R : List Int) : Nat := if 12 < L.length ∨ 12 < R.length then 4 else if R.any (badN L.length) then 1 else hRows L.length L
theorem hRow_cases (n : Nat) (r : List Int) : hRow n r = 0 ∨ hRow n r = 1 ∨ hRow n r = 4 := by
  unfold hRow
  repeat' split
  all_goals simp
theorem hRows_cases (n : Nat) : ∀ L, hRows n L = 0 ∨ hRows n L = 1 ∨ hRows n L = 4
  | [] => by simp [hRows]
  | r :: t => by
    rw [hRows]
    split
    · exact hRows_cases n t
    · exact hRow_cases n r
theorem chkH_cases (L : List (List Int)) (R : List Int) : chkH L R = 0 ∨ chkH L R = 1 ∨ chkH L R = 4 := by
  unfold chkH
  repeat' split
  · simp
  · simp
  · exact hRows_cases _ _
theorem hRows_append {n : Nat} : ∀ {A B : List (List Int)}, hRows n A = 0 → hRows n (A ++ B) = hRows n B
  | [], _, _ => rfl
  | r :: t, B, h => by
    rw [hRows] at h
    rw [List.cons_append, hRows]
    split at h
    · rename_i h0
      rw [if_pos h0]; exact hRows_append h
    · rename_i h0
      exact absurd h h0
theorem rowAt_of {L : List (List Int)} {k : Nat} (hk : k < L.length) : L[k]?.getD [] = L[k] := by rw [List.getElem?_eq_getElem hk]; rfl
theorem hRows_next {n : Nat} {L : List (List Int)} {k : Nat} (hk : k < L.length) (h0 : hRows n (L.take k) = 0) (h : hRow n (L[k]?.getD []) = 0) : hRows n (L.take (k+1)) = 0 := by
  rw [rowAt_of hk] at h
  rw [List.take_succ_eq_append_getElem hk, hRows_append h0, hRows, if_pos h]; rfl
theorem hRows_here {n : Nat} {L : List (List Int)} {k : Nat} (hk : k < L.length) (h0 : hRows n (L.take k) = 0) (h : hRow n (L[k]?.getD []) ≠ 0) : hRows n L = hRow n (L[k]?.getD []) := by
  rw [rowAt_of hk] at h ⊢
  have e : L = L.take k ++ L[k] :: L.drop (k+1) := by rw [List.getElem_cons_drop, List.take_append_drop]
  have := hRows_append (n := n) (B := L[k] :: L.drop (k+1)) h0
  rw [← e, hRows, if_neg h] at this
  exact this
/-- What Check lets through. -/
structure FineH (L : List (List Int)) (R : List Int) : Prop where
  few : L.length ≤ 12
  roots : R.length ≤ 12
  root : ∀ x, x ∈ R → 0 ≤ x ∧ x < L.length
  outs : ∀ r, r ∈ L → r.length ≤ 4
  node : ∀ r, r ∈ L → ∀ x, x ∈ r → 0 ≤ x ∧ x < L.length
theorem badN_any {n : Nat} {l : List Int} : l.any (badN n) = false ↔ ∀ x, x ∈ l → 0 ≤ x ∧ x < n := by
  rw [List.any_eq_false]
  refine forall_congr' fun x => imp_congr_right fun _ => ?_
  simp [badN]
theorem hRow_zero {n : Nat} {r : List Int} : hRow n r = 0 ↔ r.length ≤ 4 ∧ ∀ x, x ∈ r → 0 ≤ x ∧ x < n := by
  unfold hRow
  rw [← badN_any]
  split
  · constructor
    · intro h; cases h
    · intro h; omega
  · cases h : r.any (badN n)
    · simp; omega
    · simp
theorem hRows_zero {n : Nat} : ∀ {L : List (List Int)}, hRows n L = 0 ↔ ∀ r, r ∈ L → hRow n r = 0
  | [] => by simp [hRows]
  | r :: t => by
    rw [hRows]
    split
    · rename_i h
      rw [hRows_zero (L := t)]
      simp [h]
    · rename_i h
      simp [h]
theorem chkH_zero {L : List (List Int)} {R : List Int} : chkH L R = 0 ↔ FineH L R := by
  unfold chkH
  split
  · rename_i h
    exact ⟨fun h => (by cases h), fun hf => by have := hf.few; have := hf.roots; omega⟩
  · rename_i h
    cases hb : R.any (badN L.length)
    · simp only [Bool.false_eq_true, if_false]
      rw [hRows_zero]
      constructor
      · intro h2
        exact ⟨by omega, by omega, badN_any.1 hb, fun r hr => (hRow_zero.1 (h2 r hr)).1, fun r hr => (hRow_zero.1 (h2 r hr)).2⟩
      · intro hf r hr
        exact hRow_zero.2 ⟨hf.outs r hr, hf.node r hr⟩
    · simp only [if_true]
      constructor
      · intro h2; cases h2
      · intro hf
        rw [badN_any.2 hf.root] at hb; cases hb
theorem FineH.root16 {L : List (List Int)} {R : List Int} (h : FineH L R) : ∀ x, x ∈ R → 0 ≤ x ∧ x < 16 := fun x hx => by
  have := h.root x hx; have := h.few; omega
theorem gOf_mem {L : List (List Int)} {x y : Int} (h : y ∈ gOf L x) : 0 ≤ x ∧ x < L.length ∧ L[x.toNat]?.getD [] ∈ L ∧ y ∈ L[x.toNat]?.getD [] := by
  unfold gOf at h
  split at h
  · rename_i h0
    by_cases hx : x.toNat < L.length
    · refine ⟨h0, by omega, ?_, h⟩
      rw [List.getElem?_eq_getElem hx]; exact List.getElem_mem hx
    · rw [List.getElem?_eq_none (by omega)] at h; simp at h
  · simp at h
theorem gOf_at {L : List (List Int)} (k : Nat) : gOf L (k : Int) = L[k]?.getD [] := by
  unfold gOf
  rw [if_pos (by omega)]; rfl
theorem gOf_out {L : List (List Int)} {x : Int} (h : x ∉ upTo L.length) : gOf L x = [] := by
  refine List.eq_nil_iff_forall_not_mem.2 fun y hy => h ?_
  have := gOf_mem hy
  exact upTo_mem.2 ⟨this.1, this.2.1⟩
theorem FineH.step {L : List (List Int)} {R : List Int} (h : FineH L R) {x y : Int} (hy : y ∈ gOf L x) : 0 ≤ y ∧ y < L.length := by
  obtain ⟨_, _, h1, h2⟩ := gOf_mem hy
  exact h.node _ h1 y h2
theorem FineH.come {L : List (List Int)} {R S : List Int} (h : FineH L R) (hS : ∀ x, x ∈ S → 0 ≤ x ∧ x < L.length) {x : Int} (hx : Come (gOf L) S x) : 0 ≤ x ∧ x < L.length :=
  Come.least (C := fun x => 0 ≤ x ∧ x < L.length) hS (fun _ _ _ hy => h.step hy) hx
theorem FineH.gOf16 {L : List (List Int)} {R : List Int} (h : FineH L R) (x : Int) : ∀ y, y ∈ gOf L x → 0 ≤ y ∧ y < 16 := fun y hy => by
  have := h.step hy; have := h.few; omega
/-- With other roots it is as well. -/
theorem FineH.with {L : List (List Int)} {R S : List Int} (h : FineH L R) (hs : S.length ≤ 12) (hS : ∀ x, x ∈ S → 0 ≤ x ∧ x < L.length) : FineH L S := ⟨h.few, hs, hS, h.outs, h.node⟩
end Go.Proofs.Ytennlinnclcngaa

/- Lists alone: what is found breadth first, step by step. -/
namespace Go.Proofs.Ytennlinnclcngaa

theorem addNew_take {A l : List Int} {k : Nat} (hk : k < l.length) : addNew A (l.take (k+1)) = if (addNew A (l.take k)).contains (l[k]?.getD 0) then addNew A (l.take k) else addNew A (l.take k) ++ [l[k]?.getD 0] := by
  rw [List.take_succ_eq_append_getElem hk, addNew_snoc, List.getElem?_eq_getElem hk]; rfl
/-- Those found so far, each of which stands ahead of all that it has found. -/
def Ahead (g : Int → List Int) (S : List Int) (k : Nat) : Prop := ∀ j, j < k → j < (bfsA g S j).length
theorem bfs_next {g : Int → List Int} {S : List Int} {k : Nat} (h : Ahead g S k) (hk : k < (bfsA g S k).length) : Ahead g S (k+1) ∧ bfsA g S (k+1) = addNew (bfsA g S k) (g ((bfsA g S k)[k]?.getD 0)) :=
  ⟨fun j hj => (by
    by_cases e : j = k
    · subst e; exact hk
    · exact h j (by omega)), by rw [bfsA, if_pos hk]⟩
theorem bfs_few {L : List (List Int)} {R S : List Int} (hf : FineH L R) (hS : ∀ x, x ∈ S → 0 ≤ x ∧ x < L.length) {k : Nat} (h : Ahead (gOf L) S k) : (bfsA (gOf L) S k).length ≤ L.length ∧ ∀ x, x ∈ bfsA (gOf L) S k → 0 ≤ x ∧ x < L.length := by
  have hF := bfs_found (g := gOf L) (R := S) k h
  have h2 : ∀ x, x ∈ bfsA (gOf L) S k → 0 ≤ x ∧ x < L.length := fun x hx => hf.come hS (hF.come x hx)
  exact ⟨below_length hF.nodup h2, h2⟩
theorem addNew_few {L : List (List Int)} {A l : List Int} (hn : A.Nodup) (hA : ∀ x, x ∈ A → 0 ≤ x ∧ x < L.length) (hl : ∀ x, x ∈ l → 0 ≤ x ∧ x < L.length) : (addNew A l).length ≤ L.length :=
  below_length (addNew_nodup hn) fun x hx => (addNew_mem.1 hx).elim (hA x) (hl x)
theorem bfs_le {g : Int → List Int} {S : List Int} {k : Nat} : ∀ {m : Nat}, k ≤ m → ∃ D, bfsA g S m = bfsA g S k ++ D
  | 0, h => by
    obtain rfl : k = 0 := by omega
    exact ⟨[], by simp⟩
  | m + 1, h => by
    by_cases e : k = m + 1
    · subst e; exact ⟨[], by simp⟩
    · obtain ⟨D, hD⟩ := bfs_le (g := g) (S := S) (k := k) (m := m) (by omega)
      rw [bfsA]
      split
      · obtain ⟨E, hE⟩ := addNew_prefix (bfsA g S m) (g ((bfsA g S m)[m]?.getD 0))
        exact ⟨D ++ E, by rw [hE, hD, List.append_assoc]⟩
      · exact ⟨D, hD⟩
theorem bfs_ahead {g : Int → List Int} {S : List Int} {k : Nat} (h : Ahead g S k) : k ≤ (bfsA g S k).length := by
  cases k with
  | zero => exact Nat.zero_le _
  | succ k =>
    have h1 := h k (by omega)
    obtain ⟨D, hD⟩ := bfs_le (g := g) (S := S) (show k ≤ k + 1 by omega)
    rw [hD, List.length_append]; omega
theorem IsFrom.begins {g : Int → List Int} {S C : List Int} (h : IsFrom g S C) {k : Nat} (ha : Ahead g S k) : ∃ D, C = bfsA g S k ++ D := by
  obtain ⟨K, h1, h2, rfl⟩ := h
  refine bfs_le ?_
  refine Decidable.byContradiction fun hn => ?_
  have := ha K (by omega)
  omega
theorem IsFrom.ends {g : Int → List Int} {S C : List Int} (h : IsFrom g S C) {k : Nat} (ha : Ahead g S k) (hk : ¬ k < (bfsA g S k).length) : bfsA g S k = C :=
  IsFrom.det ⟨k, ha, by have := bfs_ahead ha; omega, rfl⟩ h
/-- On a fine heap it comes to an end. -/
theorem from_total {L : List (List Int)} {R S : List Int} (hf : FineH L R) (hS : ∀ x, x ∈ S → 0 ≤ x ∧ x < L.length) : ∃ C, IsFrom (gOf L) S C := by
  refine Classical.byContradiction fun hn => ?_
  have key : ∀ k, Ahead (gOf L) S k := fun k => by
    induction k with
    | zero => intro j hj; omega
    | succ k ih =>
      refine (bfs_next ih (Decidable.byContradiction fun hk => hn ⟨_, k, ih, ?_, rfl⟩)).1
      have := bfs_ahead ih
      omega
  have h1 := (bfs_few hf hS (key (L.length + 1))).1
  have h2 := bfs_ahead (key (L.length + 1))
  omega
end Go.Proofs.Ytennlinnclcngaa
