/- Lists and numbers alone: several texts in one. -/
import Derived.Test.YtedmfehjifknbaaDoorKeep
import Derived.Test.YtedmfehjifknbaaDoorBools
import Derived.Test.YtedmfehjifknbaaDoorEmptied
import Derived.Test.YtedmfehjifknbaaDoorStarts
/- Lists alone: what any store of so many slots may hold, request by request; who lets go of what is asked for latest has as much as anybody. -/
namespace Go.Proofs.YtedmfehjifknbaaDoor

/-- A list without a second is no longer than one that has all of it. -/
theorem length_le_of_subset : ∀ {A B : List Int}, A.Nodup → (∀ p, p ∈ A → p ∈ B) → A.length ≤ B.length
  | [], _, _, _ => Nat.zero_le _
  | x :: A, B, h, hs => by
    rw [List.nodup_cons] at h
    have hx : x ∈ B := hs x (by simp)
    have := length_le_of_subset (B := B.erase x) h.2 fun p hp => by
      have hne : p ≠ x := fun e => h.1 (e ▸ hp)
      rw [List.mem_erase_of_ne hne]
      exact hs p (by simp [hp])
    rw [List.length_erase_of_mem hx] at this
    have := List.length_pos_of_mem hx
    rw [List.length_cons]; omega

theorem same_length {A B : List Int} (ha : A.Nodup) (hb : B.Nodup) (h : ∀ x, x ∈ A ↔ x ∈ B) : A.length = B.length := by
  have a := length_le_of_subset ha fun x hx => (h x).1 hx
  have b := length_le_of_subset hb fun x hx => (h x).2 hx
  omega

/-- How many of a list pass. -/
def many (q : Int → Bool) (A : List Int) : Nat := (A.filter q).length
theorem many_mono {q : Int → Bool} {A B : List Int} (h : A.Nodup) (hs : ∀ p, p ∈ A → q p = true → p ∈ B) : many q A ≤ many q B :=
  length_le_of_subset (h.filter q) fun p hp => by
    rw [List.mem_filter] at hp ⊢
    exact ⟨hs p hp.1 hp.2, hp.2⟩
theorem many_le (q : Int → Bool) (A : List Int) : many q A ≤ A.length := List.length_filter_le _ _
theorem many_cons (q : Int → Bool) (p : Int) (A : List Int) : many q (p :: A) = (if q p then 1 else 0) + many q A := by
  unfold many
  rw [List.filter_cons]
  split
  · rw [List.length_cons]; omega
  · omega
theorem many_congr {q r : Int → Bool} {A : List Int} (h : ∀ p, p ∈ A → q p = r p) : many q A = many r A := by
  unfold many
  rw [List.filter_congr h]
theorem many_all {q : Int → Bool} {A : List Int} (h : ∀ p, p ∈ A → q p = true) : many q A = A.length := by
  unfold many
  rw [List.filter_eq_self.2 h]
theorem many_none {q : Int → Bool} {A : List Int} (h : ∀ p, p ∈ A → q p = false) : many q A = 0 := by
  unfold many
  rw [List.filter_eq_nil_iff.2 (fun p hp => by rw [h p hp]; simp)]; rfl
theorem many_erase {q : Int → Bool} {p : Int} : ∀ {A : List Int}, p ∈ A → many q A = (if q p then 1 else 0) + many q (A.erase p)
  | [], h => by simp at h
  | x :: A, h => by
    by_cases hx : x = p
    · subst hx; rw [List.erase_cons_head, many_cons]
    · rw [List.erase_cons_tail (by simpa using hx), many_cons, many_cons, many_erase (A := A) (by simpa [Ne.symm hx] using h)]
      omega

/-- The place of request k or behind it, where a page is asked for; so many as there are if there is none. -/
def ahead (l : List Int) (k : Nat) (p : Int) : Nat := k + (l.drop k).idxOf p
theorem ahead_le {l : List Int} {k : Nat} (hk : k ≤ l.length) (p : Int) : ahead l k p ≤ l.length := by
  unfold ahead
  have := List.idxOf_le_length (a := p) (l := l.drop k)
  rw [List.length_drop] at this; omega
theorem ahead_ge (l : List Int) (k : Nat) (p : Int) : k ≤ ahead l k p := Nat.le_add_right _ _
theorem drop_at {l : List Int} {k : Nat} (hk : k < l.length) : l.drop k = (l[k]?.getD 0) :: l.drop (k+1) := by
  rw [List.drop_eq_getElem_cons hk, List.getElem?_eq_getElem hk, Option.getD_some]
theorem ahead_now {l : List Int} {k : Nat} (hk : k < l.length) : ahead l k (l[k]?.getD 0) = k := by
  unfold ahead
  rw [drop_at hk, List.idxOf_cons_self]; rfl
theorem ahead_later {l : List Int} {k : Nat} (hk : k < l.length) {p : Int} (hp : p ≠ l[k]?.getD 0) : ahead l k p = ahead l (k+1) p := by
  unfold ahead
  rw [drop_at hk, List.idxOf_cons, beq_eq_false_iff_ne.2 (Ne.symm hp), cond_false]
  omega

/-- How many of the first k marks are set. -/
def hcount (h : Nat → Bool) : Nat → Nat
  | 0 => 0
  | k + 1 => hcount h k + (if h k then 1 else 0)

/-- What a store of s slots may hold ahead of each request. -/
structure Sched (s : Nat) (l : List Int) (H : Nat → List Int) : Prop where
  start : H 0 = []
  nd : ∀ k, k ≤ l.length → (H k).Nodup
  le : ∀ k, k ≤ l.length → (H k).length ≤ s
  got : ∀ k, k < l.length → l[k]?.getD 0 ∈ H (k+1)
  sub : ∀ k, k < l.length → ∀ p, p ∈ H (k+1) → p = l[k]?.getD 0 ∨ p ∈ H k
def hitOf (l : List Int) (H : Nat → List Int) (k : Nat) : Bool := (H k).contains (l[k]?.getD 0)

/-- Let go of is only what is asked for latest, and where there is no slot. -/
def Best (s : Nat) (l : List Int) (H : Nat → List Int) : Prop :=
  ∀ k, k < l.length → (∀ p, p ∈ H k → p ∈ H (k+1)) ∨
    ∃ b, b ∈ H k ∧ l[k]?.getD 0 ∉ H k ∧ (H k).length = s ∧ (∀ q, q ∈ H k → ahead l k q ≤ ahead l k b) ∧ ∀ p, p ∈ H k → p ≠ b → p ∈ H (k+1)

/-- How many of what is held are asked for ahead of place t. -/
def soon (l : List Int) (A : List Int) (k t : Nat) : Nat := many (fun p => decide (ahead l k p < t)) A
def late (l : List Int) (k t : Nat) : Nat := if ahead l (k+1) (l[k]?.getD 0) < t then 1 else 0
def put (p : Int) (A : List Int) : List Int := if A.contains p then A else p :: A
theorem mem_put {p q : Int} {A : List Int} : q ∈ put p A ↔ q = p ∨ q ∈ A := by
  unfold put
  by_cases h : A.contains p = true
  · rw [if_pos h]
    constructor
    · exact .inr
    · rintro (rfl | h2)
      · exact List.contains_iff_mem.1 h
      · exact h2
  · rw [if_neg h, List.mem_cons]

theorem soon_now {l A : List Int} {k : Nat} (hk : k < l.length) (hA : A.Nodup) : soon l A k (k+1) = if A.contains (l[k]?.getD 0) then 1 else 0 := by
  have hno : ∀ B : List Int, l[k]?.getD 0 ∉ B → soon l B k (k+1) = 0 := fun B hB => many_none fun p hp => by
    have := ahead_ge l (k+1) p
    rw [ahead_later hk (fun e => hB (e ▸ hp))]
    exact decide_eq_false (by omega)
  by_cases hm : l[k]?.getD 0 ∈ A
  · have h0 := hno (A.erase (l[k]?.getD 0)) (hA.not_mem_erase)
    unfold soon at h0 ⊢
    rw [if_pos (List.contains_iff_mem.2 hm), many_erase hm, h0, ahead_now hk]
    simp
  · rw [hno A hm, if_neg (fun h => hm (List.contains_iff_mem.1 h))]

/-- One request: what was asked for just now comes to be asked for later. -/
theorem soon_step {l A : List Int} {k t : Nat} (hk : k < l.length) (ht : k < t) (hA : A.Nodup) : (if A.contains (l[k]?.getD 0) then 1 else 0) + soon l (put (l[k]?.getD 0) A) (k+1) t = soon l A k t + late l k t := by
  have hsame : ∀ B : List Int, l[k]?.getD 0 ∉ B → soon l B (k+1) t = soon l B k t := fun B hB => many_congr fun p hp => by
    rw [ahead_later hk (fun e => hB (e ▸ hp))]
  unfold put late
  by_cases hm : l[k]?.getD 0 ∈ A
  · have h0 := hsame (A.erase (l[k]?.getD 0)) (hA.not_mem_erase)
    have h1 : soon l A (k+1) t = _ := many_erase hm
    have h2 : soon l A k t = _ := many_erase hm
    rw [if_pos (List.contains_iff_mem.2 hm), if_pos (List.contains_iff_mem.2 hm), h1, h2]
    unfold soon at h0
    rw [h0, ahead_now hk]
    simp only [decide_eq_true_eq, if_pos ht]
    omega
  · have hm2 : ¬ (A.contains (l[k]?.getD 0) = true) := fun h => hm (List.contains_iff_mem.1 h)
    have h1 : soon l (l[k]?.getD 0 :: A) (k+1) t = _ := many_cons _ _ _
    have h0 := hsame A hm
    unfold soon at h0 h1 ⊢
    rw [if_neg hm2, if_neg hm2, h1, h0]
    simp only [decide_eq_true_eq]
    omega

theorem best_step {s : Nat} {l : List Int} {A B : Nat → List Int} (hA : Sched s l A) (hB : Sched s l B) (hb : Best s l A) : ∀ k, k ≤ l.length → ∀ t, k ≤ t → t ≤ l.length → hcount (hitOf l B) k + soon l (B k) k t ≤ hcount (hitOf l A) k + soon l (A k) k t
  | 0, _, t, _, _ => by
    rw [hA.start, hB.start]
    exact Nat.le_refl _
  | k + 1, hk, t, h1, h2 => by
    have hk' : k < l.length := by omega
    have ih := best_step hA hB hb k (by omega)
    have it := ih t (by omega) h2
    have i1 := ih (k+1) (by omega) (by omega)
    have nA := hA.nd k (by omega)
    have nB := hB.nd k (by omega)
    rw [soon_now hk' nA, soon_now hk' nB] at i1
    have sA := soon_step hk' (by omega : k < t) nA
    have sB := soon_step hk' (by omega : k < t) nB
    have hBB : soon l (B (k+1)) (k+1) t ≤ soon l (put (l[k]?.getD 0) (B k)) (k+1) t := many_mono (hB.nd (k+1) hk) fun p hp _ => mem_put.2 (hB.sub k hk' p hp)
    have eA : hcount (hitOf l A) (k+1) = hcount (hitOf l A) k + (if (A k).contains (l[k]?.getD 0) then 1 else 0) := rfl
    have eB : hcount (hitOf l B) (k+1) = hcount (hitOf l B) k + (if (B k).contains (l[k]?.getD 0) then 1 else 0) := rfl
    have hkeep : soon l (put (l[k]?.getD 0) (A k)) (k+1) t ≤ soon l (A (k+1)) (k+1) t → hcount (hitOf l B) (k+1) + soon l (B (k+1)) (k+1) t ≤ hcount (hitOf l A) (k+1) + soon l (A (k+1)) (k+1) t := by
      intro h
      omega
    have nput : (put (l[k]?.getD 0) (A k)).Nodup := by
      unfold put
      split
      · exact nA
      · rename_i h
        exact List.nodup_cons.2 ⟨fun h2 => h (List.contains_iff_mem.2 h2), nA⟩
    rcases hb k hk' with h | ⟨b, hbm, hn, hs, hmax, hrest⟩
    · refine hkeep (many_mono nput fun p hp _ => ?_)
      rcases mem_put.1 hp with rfl | hp
      · exact hA.got k hk'
      · exact h p hp
    · by_cases hbt : ahead l (k+1) b < t
      · have hq : ∀ q, q ∈ A k → ahead l (k+1) q < t := fun q hq => by
          have h1 := hmax q hq
          rw [ahead_later hk' (fun e => hn (e ▸ hq)), ahead_later hk' (fun e => hn (e ▸ hbm))] at h1
          omega
        have e1 : s - 1 + late l k t ≤ soon l (A (k+1)) (k+1) t := by
          have c1 : soon l (l[k]?.getD 0 :: (A k).erase b) (k+1) t ≤ soon l (A (k+1)) (k+1) t := by
            refine many_mono (List.nodup_cons.2 ⟨fun h => hn (List.mem_of_mem_erase h), nA.erase b⟩) fun p hp _ => ?_
            rcases List.mem_cons.1 hp with rfl | hp
            · exact hA.got k hk'
            · rw [nA.mem_erase_iff] at hp
              exact hrest p hp.2 hp.1
          have c2 : soon l (l[k]?.getD 0 :: (A k).erase b) (k+1) t = _ := many_cons _ _ _
          have c3 : many (fun p => decide (ahead l (k+1) p < t)) ((A k).erase b) = ((A k).erase b).length := many_all fun p hp => decide_eq_true (hq p (List.mem_of_mem_erase hp))
          rw [c3, List.length_erase_of_mem hbm, hs] at c2
          rw [c2] at c1
          unfold late
          simp only [decide_eq_true_eq] at c1
          omega
        have e2 : soon l (B (k+1)) (k+1) t ≤ s - 1 + late l k t := by
          have c1 : soon l (B (k+1)) (k+1) t = _ := many_erase (hB.got k hk')
          have c2 := many_le (fun p => decide (ahead l (k+1) p < t)) ((B (k+1)).erase (l[k]?.getD 0))
          rw [List.length_erase_of_mem (hB.got k hk')] at c2
          have c3 := hB.le (k+1) hk
          simp only [decide_eq_true_eq] at c1
          unfold late
          omega
        omega
      · refine hkeep (many_mono nput fun p hp hpt => ?_)
        rcases mem_put.1 hp with rfl | hp
        · exact hA.got k hk'
        · refine hrest p hp fun e => hbt ?_
          subst e
          exact of_decide_eq_true hpt

/-- Nobody has more there. -/
theorem best_most {s : Nat} {l : List Int} {A B : Nat → List Int} (hA : Sched s l A) (hB : Sched s l B) (hb : Best s l A) : hcount (hitOf l B) l.length ≤ hcount (hitOf l A) l.length := by
  have h := best_step hA hB hb l.length (Nat.le_refl _) l.length (Nat.le_refl _) (Nat.le_refl _)
  have e1 : soon l (A l.length) l.length l.length = 0 := many_none fun p _ => decide_eq_false (by have := ahead_ge l l.length p; omega)
  omega
end Go.Proofs.YtedmfehjifknbaaDoor

/- Lists alone: schedules: of more slots, of a beginning, one behind another, turned around, of one slot. -/
namespace Go.Proofs.YtedmfehjifknbaaDoor

theorem hcount_le {g h : Nat → Bool} : ∀ {k : Nat}, (∀ i, i < k → g i = true → h i = true) → hcount g k ≤ hcount h k
  | 0, _ => Nat.le_refl _
  | k + 1, H => by
    have ih := hcount_le (g := g) (h := h) (k := k) fun i hi => H i (by omega)
    have h1 := H k (by omega)
    simp only [hcount]
    cases hg : g k
    · simp; omega
    · rw [h1 hg]; simp; omega
theorem hcount_congr {g h : Nat → Bool} {k : Nat} (H : ∀ i, i < k → g i = h i) : hcount g k = hcount h k :=
  Nat.le_antisymm (hcount_le fun i hi e => by rw [← H i hi]; exact e) (hcount_le fun i hi e => by rw [H i hi]; exact e)
theorem hcount_add (h : Nat → Bool) (n : Nat) : ∀ m, hcount h (n + m) = hcount h n + hcount (fun i => h (n + i)) m
  | 0 => rfl
  | m + 1 => by
    have := hcount_add h n m
    rw [← Nat.add_assoc]
    simp only [hcount]
    omega
theorem hcount_mono (h : Nat → Bool) {n m : Nat} (hn : n ≤ m) : hcount h n ≤ hcount h m := by
  obtain ⟨d, rfl⟩ : ∃ d, m = n + d := ⟨m - n, by omega⟩
  rw [hcount_add]; omega
theorem hcount_lt (h : Nat → Bool) : ∀ k, hcount h k ≤ k
  | 0 => Nat.le_refl _
  | k + 1 => by
    have := hcount_lt h k
    simp only [hcount]
    split <;> omega
theorem hcount_turn (g : Nat → Bool) : ∀ T, hcount (fun m => g (T - 1 - m)) T = hcount g T
  | 0 => rfl
  | T + 1 => by
    have ih := hcount_turn g T
    have h1 := hcount_add (fun m => g (T + 1 - 1 - m)) 1 T
    rw [Nat.add_comm 1 T] at h1
    rw [h1]
    have h2 : hcount (fun i => (fun m => g (T + 1 - 1 - m)) (1 + i)) T = hcount (fun m => g (T - 1 - m)) T := hcount_congr fun i hi => by
      show g (T + 1 - 1 - (1 + i)) = g (T - 1 - i)
      congr 1; omega
    rw [h2, ih]
    show (0 + if g (T + 1 - 1 - 0) = true then 1 else 0) + hcount g T = hcount g T + if g T = true then 1 else 0
    have e : T + 1 - 1 - 0 = T := by omega
    simp only [e]
    omega

theorem Sched.wider {s s' : Nat} {l : List Int} {H : Nat → List Int} (h : Sched s l H) (hs : s ≤ s') : Sched s' l H :=
  ⟨h.start, h.nd, fun k hk => Nat.le_trans (h.le k hk) hs, h.got, h.sub⟩

theorem take_at {l : List Int} {n k : Nat} (hk : k < n) : (l.take n)[k]?.getD 0 = l[k]?.getD 0 := by
  rw [List.getElem?_take_of_lt hk]
theorem Sched.begin {s : Nat} {l : List Int} {H : Nat → List Int} (h : Sched s l H) {n : Nat} (hn : n ≤ l.length) : Sched s (l.take n) H := by
  have hl : (l.take n).length = n := by rw [List.length_take]; omega
  refine ⟨h.start, fun k hk => h.nd k (by omega), fun k hk => h.le k (by omega), fun k hk => ?_, fun k hk p hp => ?_⟩
  · rw [hl] at hk
    rw [take_at hk]; exact h.got k (by omega)
  · rw [hl] at hk
    rw [take_at hk]; exact h.sub k (by omega) p hp
theorem hits_begin {l : List Int} {H : Nat → List Int} {n : Nat} : hcount (hitOf (l.take n) H) n = hcount (hitOf l H) n :=
  hcount_congr fun i hi => by unfold hitOf; rw [take_at hi]

/-- One schedule, and another behind it. -/
def andThen (n : Nat) (A B : Nat → List Int) (k : Nat) : List Int := if k ≤ n then A k else B (k - n)
theorem drop_get {l : List Int} {n j : Nat} : (l.drop n)[j]?.getD 0 = l[n + j]?.getD 0 := by rw [List.getElem?_drop]
theorem Sched.andThen {s n : Nat} {l : List Int} {A B : Nat → List Int} (hn : n ≤ l.length) (hA : Sched s (l.take n) A) (hB : Sched s (l.drop n) B) : Sched s l (andThen n A B) := by
  have hl : (l.take n).length = n := by rw [List.length_take]; omega
  have hd : (l.drop n).length = l.length - n := List.length_drop
  refine ⟨?_, fun k hk => ?_, fun k hk => ?_, fun k hk => ?_, fun k hk p hp => ?_⟩
  · unfold Go.Proofs.YtedmfehjifknbaaDoor.andThen; rw [if_pos (Nat.zero_le _)]; exact hA.start
  · unfold Go.Proofs.YtedmfehjifknbaaDoor.andThen; split
    · exact hA.nd k (by omega)
    · exact hB.nd (k - n) (by omega)
  · unfold Go.Proofs.YtedmfehjifknbaaDoor.andThen; split
    · exact hA.le k (by omega)
    · exact hB.le (k - n) (by omega)
  · unfold Go.Proofs.YtedmfehjifknbaaDoor.andThen; split
    · have := hA.got k (by omega)
      rwa [take_at (by omega)] at this
    · have := hB.got (k - n) (by omega)
      rw [drop_get, show n + (k - n) = k by omega] at this
      rwa [show k + 1 - n = k - n + 1 by omega]
  · unfold Go.Proofs.YtedmfehjifknbaaDoor.andThen at hp ⊢
    by_cases h1 : k + 1 ≤ n
    · rw [if_pos h1] at hp
      rw [if_pos (by omega)]
      have := hA.sub k (by omega) p hp
      rwa [take_at (by omega)] at this
    · rw [if_neg h1, show k + 1 - n = k - n + 1 by omega] at hp
      have h2 := hB.sub (k - n) (by omega) p hp
      rw [drop_get, show n + (k - n) = k by omega] at h2
      rcases h2 with h2 | h2
      · exact .inl h2
      · by_cases h3 : k ≤ n
        · rw [show k - n = 0 by omega, hB.start] at h2; simp at h2
        · rw [if_neg h3]; exact .inr h2
theorem hits_andThen {s n : Nat} {l : List Int} {A B : Nat → List Int} (hn : n ≤ l.length) (hB : Sched s (l.drop n) B) : hcount (hitOf (l.take n) A) n + hcount (hitOf (l.drop n) B) (l.length - n) ≤ hcount (hitOf l (andThen n A B)) l.length := by
  have h1 : hcount (hitOf (l.take n) A) n = hcount (hitOf l (andThen n A B)) n := by
    rw [hits_begin]
    exact hcount_congr fun i hi => by unfold hitOf andThen; rw [if_pos (by omega)]
  have h2 : hcount (hitOf (l.drop n) B) (l.length - n) ≤ hcount (fun i => hitOf l (andThen n A B) (n + i)) (l.length - n) := hcount_le fun i hi e => by
    unfold hitOf andThen at *
    rw [drop_get] at e
    by_cases h0 : i = 0
    · subst h0; rw [hB.start] at e; simp at e
    · rw [if_neg (by omega), show n + i - n = i by omega]; exact e
  have h3 := hcount_add (hitOf l (andThen n A B)) n (l.length - n)
  rw [show n + (l.length - n) = l.length by omega] at h3
  omega

/-- A page that stays until it is asked for. -/
def Stays (l : List Int) (H : Nat → List Int) (k : Nat) (p : Int) : Prop := ahead l k p < l.length ∧ ∀ i, k ≤ i → i ≤ ahead l k p → p ∈ H i
def stays (l : List Int) (H : Nat → List Int) (k : Nat) (p : Int) : Bool := decide (ahead l k p < l.length) && (List.range (ahead l k p + 1)).all fun i => decide (i < k) || (H i).contains p
theorem stays_iff {l : List Int} {H : Nat → List Int} {k : Nat} {p : Int} : stays l H k p = true ↔ Stays l H k p := by
  unfold stays Stays
  rw [Bool.and_eq_true, decide_eq_true_iff, List.all_eq_true]
  constructor
  · rintro ⟨h1, h2⟩
    refine ⟨h1, fun i hi hi2 => ?_⟩
    have := h2 i (List.mem_range.2 (by omega))
    rw [Bool.or_eq_true, decide_eq_true_iff, List.contains_iff_mem] at this
    rcases this with h | h
    · omega
    · exact h
  · rintro ⟨h1, h2⟩
    refine ⟨h1, fun i hi => ?_⟩
    rw [Bool.or_eq_true, decide_eq_true_iff, List.contains_iff_mem]
    have := List.mem_range.1 hi
    by_cases h : i < k
    · exact .inl h
    · exact .inr (h2 i (by omega) (by omega))
def stayers (l : List Int) (H : Nat → List Int) (k : Nat) : List Int := (H k).filter (stays l H k)
theorem mem_stayers {l : List Int} {H : Nat → List Int} {k : Nat} {p : Int} : p ∈ stayers l H k ↔ Stays l H k p := by
  unfold stayers
  rw [List.mem_filter, stays_iff]
  exact ⟨fun h => h.2, fun h => ⟨h.2 k (Nat.le_refl _) (ahead_ge _ _ _), h⟩⟩
theorem stays_step {s : Nat} {l : List Int} {H : Nat → List Int} (h : Sched s l H) {k : Nat} (hk : k < l.length) {p : Int} (hp : p ≠ l[k]?.getD 0) : Stays l H k p ↔ Stays l H (k+1) p := by
  unfold Stays
  rw [ahead_later hk hp]
  constructor
  · rintro ⟨h1, h2⟩
    exact ⟨h1, fun i hi hi2 => h2 i (by omega) hi2⟩
  · rintro ⟨h1, h2⟩
    refine ⟨h1, fun i hi hi2 => ?_⟩
    by_cases he : i = k
    · subst he
      rcases h.sub i hk p (h2 (i+1) (Nat.le_refl _) (ahead_ge _ _ _)) with h3 | h3
      · exact absurd h3 hp
      · exact h3
    · exact h2 i (by omega) hi2
def stayed (l : List Int) (H : Nat → List Int) (k : Nat) : Bool := stays l H (k+1) (l[k]?.getD 0)
theorem erase_count {A : List Int} (p : Int) : A.length = (A.erase p).length + if p ∈ A then 1 else 0 := by
  split
  · rename_i h
    rw [List.length_erase_of_mem h]
    have := List.length_pos_of_mem h
    omega
  · rename_i h
    rw [List.erase_of_not_mem h]; rfl
theorem stayers_nodup {s : Nat} {l : List Int} {H : Nat → List Int} (h : Sched s l H) {k : Nat} (hk : k ≤ l.length) : (stayers l H k).Nodup := by
  unfold stayers
  exact (h.nd k hk).filter _
theorem stays_count {s : Nat} {l : List Int} {H : Nat → List Int} (h : Sched s l H) : ∀ k, k ≤ l.length → hcount (hitOf l H) k + (stayers l H k).length = hcount (stayed l H) k
  | 0, _ => by
    unfold stayers
    rw [h.start]; rfl
  | k + 1, hk => by
    have ih := stays_count h k (by omega)
    have hk' : k < l.length := by omega
    have n1 := stayers_nodup h (k := k) (by omega)
    have n2 := stayers_nodup h (k := k + 1) hk
    have e1 := erase_count (A := stayers l H k) (l[k]?.getD 0)
    have e2 := erase_count (A := stayers l H (k+1)) (l[k]?.getD 0)
    have hE : ((stayers l H k).erase (l[k]?.getD 0)).length = ((stayers l H (k+1)).erase (l[k]?.getD 0)).length := by
      apply Nat.le_antisymm
      · refine length_le_of_subset (n1.erase _) fun p hp => ?_
        rw [n1.mem_erase_iff, mem_stayers] at hp
        rw [n2.mem_erase_iff, mem_stayers]
        exact ⟨hp.1, (stays_step h hk' hp.1).1 hp.2⟩
      · refine length_le_of_subset (n2.erase _) fun p hp => ?_
        rw [n2.mem_erase_iff, mem_stayers] at hp
        rw [n1.mem_erase_iff, mem_stayers]
        exact ⟨hp.1, (stays_step h hk' hp.1).2 hp.2⟩
    have hh : (if l[k]?.getD 0 ∈ stayers l H k then 1 else 0) = (if hitOf l H k = true then 1 else 0) := by
      have : l[k]?.getD 0 ∈ stayers l H k ↔ hitOf l H k = true := by
        rw [mem_stayers]
        unfold Stays hitOf
        rw [ahead_now hk', List.contains_iff_mem]
        exact ⟨fun x => x.2 k (Nat.le_refl _) (Nat.le_refl _), fun x => ⟨hk', fun i h1 h2 => by rw [show i = k by omega]; exact x⟩⟩
      simp only [this]
    have hs : (if l[k]?.getD 0 ∈ stayers l H (k+1) then 1 else 0) = (if stayed l H k = true then 1 else 0) := by
      have : l[k]?.getD 0 ∈ stayers l H (k+1) ↔ stayed l H k = true := by
        rw [mem_stayers]
        unfold stayed
        rw [stays_iff]
      simp only [this]
    rw [hh] at e1
    rw [hs] at e2
    simp only [hcount]
    omega

/-- The schedule turned around: ahead of a request, those that stay until they were asked for. -/
def turnedS (l : List Int) (H : Nat → List Int) : Nat → List Int
  | 0 => []
  | m + 1 => (H (l.length - (m + 1) + 1)).filter fun p => decide (p = l[l.length - (m + 1)]?.getD 0) || stays l H (l.length - (m + 1)) p
theorem rev_at {l : List Int} {m : Nat} (hm : m < l.length) : l.reverse[m]?.getD 0 = l[l.length - (m + 1)]?.getD 0 := by
  rw [List.getElem?_reverse hm, show l.length - 1 - m = l.length - (m + 1) by omega]
theorem stays_next {s : Nat} {l : List Int} {H : Nat → List Int} (h : Sched s l H) {k : Nat} (hk : k < l.length) {p : Int} (hp : Stays l H k p) : p ∈ H (k+1) := by
  by_cases he : p = l[k]?.getD 0
  · subst he; exact h.got k hk
  · have h1 := ahead_ge l (k+1) p
    rw [← ahead_later hk he] at h1
    exact hp.2 (k+1) (by omega) h1
theorem turned_sched {s : Nat} {l : List Int} {H : Nat → List Int} (h : Sched s l H) : Sched s l.reverse (turnedS l H) := by
  have hl : l.reverse.length = l.length := List.length_reverse
  refine ⟨rfl, fun m hm => ?_, fun m hm => ?_, fun m hm => ?_, fun m hm p hp => ?_⟩
  · cases m with
    | zero => exact List.nodup_nil
    | succ m => exact (h.nd _ (by omega)).filter _
  · cases m with
    | zero => exact Nat.zero_le _
    | succ m => exact Nat.le_trans (List.length_filter_le _ _) (h.le _ (by omega))
  · rw [hl] at hm
    rw [rev_at hm]
    unfold turnedS
    rw [List.mem_filter, Bool.or_eq_true, decide_eq_true_iff, stays_iff]
    exact ⟨h.got _ (by omega), .inl rfl⟩
  · rw [hl] at hm
    rw [rev_at hm]
    unfold turnedS at hp
    rw [List.mem_filter, Bool.or_eq_true, decide_eq_true_iff, stays_iff] at hp
    by_cases he : p = l[l.length - (m + 1)]?.getD 0
    · exact .inl he
    · refine .inr ?_
      have hst := hp.2.resolve_left he
      have hk : l.length - (m + 1) < l.length := by omega
      have hst2 := (stays_step h hk he).1 hst
      cases m with
      | zero =>
        have h1 := hst2.1
        have h2 := ahead_ge l (l.length - (0 + 1) + 1) p
        omega
      | succ m =>
        have e : l.length - (m + 1 + 1) + 1 = l.length - (m + 1) := by omega
        rw [e] at hst2
        unfold turnedS
        rw [List.mem_filter, Bool.or_eq_true, decide_eq_true_iff, stays_iff]
        exact ⟨stays_next h (by omega) hst2, .inr hst2⟩
theorem turned_hits {s : Nat} {l : List Int} {H : Nat → List Int} (h : Sched s l H) : hcount (hitOf l H) l.length ≤ hcount (hitOf l.reverse (turnedS l H)) l.length := by
  have h1 := stays_count h l.length (Nat.le_refl _)
  have h2 : hcount (fun m => stayed l H (l.length - 1 - m)) l.length ≤ hcount (hitOf l.reverse (turnedS l H)) l.length := by
    refine hcount_le fun m hm e => ?_
    unfold stayed at e
    rw [stays_iff] at e
    unfold hitOf
    rw [rev_at hm, List.contains_iff_mem]
    rw [show l.length - 1 - m = l.length - (m + 1) by omega] at e
    cases m with
    | zero =>
      have h1 := e.1
      have h2 := ahead_ge l (l.length - (0 + 1) + 1) (l[l.length - (0 + 1)]?.getD 0)
      omega
    | succ m =>
      have e2 : l.length - (m + 1 + 1) + 1 = l.length - (m + 1) := by omega
      rw [e2] at e
      unfold turnedS
      rw [List.mem_filter, Bool.or_eq_true, decide_eq_true_iff, stays_iff]
      exact ⟨stays_next h (by omega) e, .inr e⟩
  rw [hcount_turn] at h2
  omega

/-- Turned around, the best has the same. -/
theorem best_turned {s : Nat} {l : List Int} {A B : Nat → List Int} (hA : Sched s l A) (bA : Best s l A) (hB : Sched s l.reverse B) (bB : Best s l.reverse B) : hcount (hitOf l A) l.length = hcount (hitOf l.reverse B) l.length := by
  have hl : l.reverse.length = l.length := List.length_reverse
  apply Nat.le_antisymm
  · have h1 := turned_hits hA
    have h2 := best_most hB (turned_sched hA) bB
    rw [hl] at h2
    omega
  · have h1 := turned_hits hB
    have h2 := turned_sched hB
    rw [List.reverse_reverse] at h1 h2
    have h3 := best_most hA h2 bA
    rw [hl] at h1
    omega

/-- In one slot there is what was asked for just before. -/
theorem one_slot {l : List Int} {H : Nat → List Int} (h : Sched 1 l H) {k : Nat} (hk : k < l.length) : H (k+1) = [l[k]?.getD 0] := by
  have h1 := h.le (k+1) (by omega)
  have h2 := h.got k hk
  cases hc : H (k+1) with
  | nil => rw [hc] at h2; simp at h2
  | cons x r =>
    rw [hc] at h1 h2
    have : r = [] := List.eq_nil_of_length_eq_zero (by rw [List.length_cons] at h1; omega)
    subst this
    simp at h2
    rw [h2]
theorem one_hit {l : List Int} {A B : Nat → List Int} (hA : Sched 1 l A) (hB : Sched 1 l B) {k : Nat} (hk : k < l.length) : hitOf l A k = hitOf l B k := by
  unfold hitOf
  cases k with
  | zero => rw [hA.start, hB.start]
  | succ k => rw [one_slot hA (by omega), one_slot hB (by omega)]

/-- The first request of a page finds nothing. -/
theorem first_miss {s : Nat} {l : List Int} {H : Nat → List Int} (h : Sched s l H) : ∀ k, k ≤ l.length → ∀ p, p ∈ H k → p ∈ l.take k
  | 0, _, p, hp => by rw [h.start] at hp; simp at hp
  | k + 1, hk, p, hp => by
    have hk' : k < l.length := by omega
    rw [List.take_succ_eq_append_getElem hk', List.mem_append]
    rcases h.sub k hk' p hp with rfl | h2
    · refine .inr ?_
      rw [List.getElem?_eq_getElem hk']; simp
    · exact .inl (first_miss h k (by omega) p h2)
end Go.Proofs.YtedmfehjifknbaaDoor

/- Lists alone: the pages in the order of coming, and those that came last. -/
namespace Go.Proofs.YtedmfehjifknbaaDoor
open Go.RowKit

/-- The last s of a list. -/
def lastn (s : Nat) (c : List Int) : List Int := c.drop (c.length - s)
theorem lastn_length (s : Nat) (c : List Int) : (lastn s c).length = min s c.length := by unfold lastn; rw [List.length_drop]; omega
theorem lastn_nil (s : Nat) : lastn s [] = [] := by simp [lastn]
theorem lastn_snoc {s : Nat} (hs : 1 ≤ s) (c : List Int) (p : Int) : lastn s (c ++ [p]) = (if (lastn s c).length = s then (lastn s c).drop 1 else lastn s c) ++ [p] := by
  have hl := lastn_length s c
  unfold lastn at hl ⊢
  rw [List.length_append, List.length_singleton]
  split
  · rw [List.drop_drop, List.drop_append_of_le_length (by omega), show c.length + 1 - s = c.length - s + 1 by omega]
  · rw [show c.length + 1 - s = 0 by omega, show c.length - s = 0 by omega]; simp

/-- What came, of the first k requests, in the order of coming. -/
def came (s : Nat) (l : List Int) : Nat → List Int
  | 0 => []
  | k + 1 => if (lastn s (came s l k)).contains (l[k]?.getD 0) then came s l k else came s l k ++ [l[k]?.getD 0]
def fhit (s : Nat) (l : List Int) (k : Nat) : Bool := (lastn s (came s l k)).contains (l[k]?.getD 0)
theorem came_hit {s k : Nat} {l : List Int} (h : fhit s l k = true) : came s l (k+1) = came s l k := by
  rw [came]; exact if_pos h
theorem came_miss {s k : Nat} {l : List Int} (h : fhit s l k = false) : came s l (k+1) = came s l k ++ [l[k]?.getD 0] := by
  rw [came]; exact if_neg (by unfold fhit at h; rw [h]; simp)
theorem came_le (s : Nat) (l : List Int) : ∀ k, (came s l k).length ≤ k
  | 0 => by simp [came]
  | k + 1 => by
    have := came_le s l k
    rw [came]; split
    · omega
    · simp; omega

/-- A page that is not held comes in. -/
def comesIn (s : Nat) (held : List Int) (p : Int) : List Int := (if held.length = s then held.drop 1 else held) ++ [p]
theorem held_hit {s k : Nat} {l : List Int} (h : fhit s l k = true) : lastn s (came s l (k+1)) = lastn s (came s l k) := by rw [came_hit h]
theorem held_miss {s k : Nat} {l : List Int} (hs : 1 ≤ s) (h : fhit s l k = false) : lastn s (came s l (k+1)) = comesIn s (lastn s (came s l k)) (l[k]?.getD 0) := by
  rw [came_miss h, lastn_snoc hs]; rfl

def fifoB (l : List Int) (s : Int) : List Bool := if chk l s = 0 then marks (fhit s.toNat l) l.length else []
def fifoL (l : List Int) (s : Int) : List Int := if chk l s = 0 then lastn s.toNat (came s.toNat l l.length) else []
theorem fifoB_ok {l : List Int} {s : Int} (h : chk l s = 0) : fifoB l s = marks (fhit s.toNat l) l.length := if_pos h
theorem fifoL_ok {l : List Int} {s : Int} (h : chk l s = 0) : fifoL l s = lastn s.toNat (came s.toNat l l.length) := if_pos h
theorem fifoB_bad {l : List Int} {s : Int} (h : chk l s ≠ 0) : fifoB l s = [] := if_neg h
theorem fifoL_bad {l : List Int} {s : Int} (h : chk l s ≠ 0) : fifoL l s = [] := if_neg h
end Go.Proofs.YtedmfehjifknbaaDoor

/- Lists alone: the pages in the order of the last asking, the one asked for last first. -/
namespace Go.Proofs.YtedmfehjifknbaaDoor
open Go.RowKit

/-- Of requests, the last one first: the pages in the order of the last asking. -/
def mru : List Int → List Int
  | [] => []
  | p :: r => p :: (mru r).erase p

def full (l : List Int) : List Int := mru l.reverse

theorem mru_mem {x : Int} : ∀ {r : List Int}, x ∈ mru r ↔ x ∈ r
  | [] => by simp [mru]
  | p :: r => by
    rw [mru, List.mem_cons, List.mem_cons]
    by_cases h : x = p
    · simp [h]
    · simp only [h, false_or]
      rw [List.mem_erase_of_ne h]; exact mru_mem

theorem mru_nodup : ∀ (r : List Int), (mru r).Nodup
  | [] => by simp [mru]
  | p :: r => by
    rw [mru, List.nodup_cons]
    exact ⟨(mru_nodup r).not_mem_erase, (mru_nodup r).erase p⟩

theorem full_nodup (l : List Int) : (full l).Nodup := mru_nodup _
theorem full_mem {l : List Int} {x : Int} : x ∈ full l ↔ x ∈ l := by rw [full, mru_mem, List.mem_reverse]
theorem full_snoc (l : List Int) (p : Int) : full (l ++ [p]) = p :: (full l).erase p := by
  simp [full, mru]
theorem full_succ {l : List Int} {k : Nat} (h : k < l.length) : full (l.take (k+1)) = (l[k]?.getD 0) :: (full (l.take k)).erase (l[k]?.getD 0) := by
  rw [List.take_succ_eq_append_getElem h, full_snoc, List.getElem?_eq_getElem h, Option.getD_some]

theorem take_erase_out {p : Int} : ∀ {F : List Int} {n : Nat}, p ∉ F.take n → (F.erase p).take n = F.take n
  | [], n, _ => by simp
  | x :: F, 0, _ => by simp
  | x :: F, n+1, h => by
    rw [List.take_succ_cons, List.mem_cons, not_or] at h
    rw [List.erase_cons, if_neg (by simpa using Ne.symm h.1), List.take_succ_cons, List.take_succ_cons, take_erase_out h.2]

theorem take_erase_in {p : Int} : ∀ {F : List Int} {n : Nat}, p ∈ F.take (n+1) → (F.erase p).take n = (F.take (n+1)).erase p
  | [], n, h => by simp at h
  | x :: F, n, h => by
    rw [List.take_succ_cons] at h ⊢
    by_cases hx : x = p
    · subst hx; simp
    · rw [List.erase_cons, if_neg (by simpa using hx), List.erase_cons, if_neg (by simpa using hx)]
      have h2 : p ∈ F.take n := by simpa [Ne.symm hx] using h
      cases n with
      | zero => simp at h2
      | succ n => rw [List.take_succ_cons, take_erase_in h2]

/-- One asking: the page goes to the front; who goes is the last one. -/
def front (s : Nat) (held : List Int) (p : Int) : List Int :=
  if held.contains p then p :: held.erase p else if held.length < s then p :: held else p :: held.take (held.length - 1)

theorem front_full {s k : Nat} {l : List Int} (hs : 1 ≤ s) (hk : k < l.length) : front s ((full (l.take k)).take s) (l[k]?.getD 0) = (full (l.take (k+1))).take s := by
  rw [full_succ hk]
  generalize full (l.take k) = F
  generalize l[k]?.getD 0 = p
  obtain ⟨n, rfl⟩ : ∃ n, s = n + 1 := ⟨s - 1, by omega⟩
  rw [List.take_succ_cons]
  unfold front
  by_cases h : p ∈ F.take (n+1)
  · rw [if_pos (by simpa using h), take_erase_in h]
  · rw [if_neg (by simpa using h)]
    have h2 : p ∉ F.take n := fun h3 => h (List.mem_of_mem_take (i := n) (by rw [List.take_take, Nat.min_eq_left (by omega)]; exact h3))
    rw [take_erase_out h2]
    have hl := List.length_take (i := n + 1) (l := F)
    split
    · rw [List.take_of_length_le (by omega), List.take_of_length_le (by omega)]
    · rw [List.take_take, show min ((F.take (n+1)).length - 1) (n+1) = n by omega]

/-- Was the page of request k there? -/
def hitAt (s : Nat) (l : List Int) (k : Nat) : Bool := ((full (l.take k)).take s).contains (l[k]?.getD 0)
def hits (s : Nat) (l : List Int) (k : Nat) : List Bool := (List.range k).map (hitAt s l)
theorem hits_succ (s : Nat) (l : List Int) (k : Nat) : hits s l (k+1) = hits s l k ++ [hitAt s l k] := by
  simp [hits, List.range_succ]
theorem hits_length (s : Nat) (l : List Int) (k : Nat) : (hits s l k).length = k := by simp [hits]
theorem hits_get {s : Nat} {l : List Int} {k j : Nat} (h : j < k) : (hits s l k)[j]?.getD false = hitAt s l j := by
  simp [hits, h]

def lruB (l : List Int) (s : Int) : List Bool := if chk l s = 0 then hits s.toNat l l.length else []
def lruL (l : List Int) (s : Int) : List Int := if chk l s = 0 then (full l).take s.toNat else []
theorem lruB_ok {l : List Int} {s : Int} (h : chk l s = 0) : lruB l s = hits s.toNat l l.length := if_pos h
theorem lruL_ok {l : List Int} {s : Int} (h : chk l s = 0) : lruL l s = (full l).take s.toNat := if_pos h
theorem lruB_bad {l : List Int} {s : Int} (h : chk l s ≠ 0) : lruB l s = [] := if_neg h
theorem lruL_bad {l : List Int} {s : Int} (h : chk l s ≠ 0) : lruL l s = [] := if_neg h

end Go.Proofs.YtedmfehjifknbaaDoor

/- Lists alone: how many marks are not set. -/
namespace Go.Proofs.YtedmfehjifknbaaDoor

/-- How many of the first k are not set. -/
def missed (l : List Bool) (k : Nat) : Nat := ((l.take k).filter fun b => !b).length
theorem missed_succ {l : List Bool} {k : Nat} (h : k < l.length) : missed l (k+1) = missed l k + (if l[k]?.getD false then 0 else 1) := by
  unfold missed
  rw [List.take_succ_eq_append_getElem h, List.filter_append, List.length_append, List.getElem?_eq_getElem h, Option.getD_some]
  cases l[k] <;> simp
theorem missed_le (l : List Bool) (k : Nat) : missed l k ≤ k := by
  unfold missed
  have h1 := List.length_filter_le (fun b => !b) (l.take k)
  have h2 := List.length_take (i := k) (l := l)
  omega
end Go.Proofs.YtedmfehjifknbaaDoor

/- Lists alone: who goes by what came first, by the last asking, by letting go of all: each is a schedule. -/
namespace Go.Proofs.YtedmfehjifknbaaDoor

theorem missed_hcount (f : Nat → Bool) (n : Nat) : missed (marks f n) (marks f n).length + hcount f n = n := by
  induction n with
  | zero => rfl
  | succ n ih =>
    rw [marks_length] at ih ⊢
    have h1 : missed (marks f (n+1)) (n+1) = missed (marks f n) n + (if f n then 0 else 1) := by
      unfold missed
      rw [List.take_of_length_le (by rw [marks_length]; exact Nat.le_refl _), List.take_of_length_le (by rw [marks_length]; exact Nat.le_refl _), marks_succ, List.filter_append, List.length_append]
      cases f n <;> simp
    simp only [hcount]
    rw [h1]
    cases f n <;> simp <;> omega

/-- A schedule, step by step. -/
theorem Sched.steps {s : Nat} {l : List Int} {H : Nat → List Int} (h0 : H 0 = []) (h : ∀ k, k < l.length → (H k).Nodup → (H k).length ≤ s → (H (k+1)).Nodup ∧ (H (k+1)).length ≤ s ∧ l[k]?.getD 0 ∈ H (k+1) ∧ ∀ p, p ∈ H (k+1) → p = l[k]?.getD 0 ∨ p ∈ H k) : Sched s l H := by
  have inv : ∀ k, k ≤ l.length → (H k).Nodup ∧ (H k).length ≤ s := by
    intro k
    induction k with
    | zero => intro _; rw [h0]; exact ⟨List.nodup_nil, Nat.zero_le _⟩
    | succ k ih =>
      intro hk
      have i := ih (by omega)
      have j := h k (by omega) i.1 i.2
      exact ⟨j.1, j.2.1⟩
  exact ⟨h0, fun k hk => (inv k hk).1, fun k hk => (inv k hk).2, fun k hk => (h k hk (inv k (by omega)).1 (inv k (by omega)).2).2.2.1, fun k hk => (h k hk (inv k (by omega)).1 (inv k (by omega)).2).2.2.2⟩
theorem nodup_behind {A : List Int} {p : Int} (h : A.Nodup) (hp : p ∉ A) : (A ++ [p]).Nodup := by
  rw [List.nodup_append]
  refine ⟨h, by simp, fun a ha b hb => ?_⟩
  rw [List.mem_singleton] at hb; subst hb
  intro e; subst e; exact hp ha
theorem out_of_not {A : List Int} {p : Int} (h : A.contains p = false) : p ∉ A := fun hm => by rw [List.contains_iff_mem.2 hm] at h; cases h

theorem sched_fifo {s : Nat} (hs : 1 ≤ s) (l : List Int) : Sched s l fun k => lastn s (came s l k) := by
  refine Sched.steps (lastn_nil s) fun k hk hn hl => ?_
  cases hh : fhit s l k
  · have hp := out_of_not hh
    rw [held_miss hs hh]
    have hlen := lastn_length s (came s l k)
    unfold comesIn
    have hsub : ∀ p, p ∈ (if (lastn s (came s l k)).length = s then (lastn s (came s l k)).drop 1 else lastn s (came s l k)) → p ∈ lastn s (came s l k) := by
      intro p hp
      split at hp
      · exact List.mem_of_mem_drop hp
      · exact hp
    refine ⟨nodup_behind ?_ (fun h => hp (hsub _ h)), ?_, by simp, fun p h => ?_⟩
    · split
      · exact hn.sublist (List.drop_sublist _ _)
      · exact hn
    · rw [List.length_append, List.length_singleton]
      split
      · rw [List.length_drop]; omega
      · omega
    · rcases List.mem_append.1 h with h | h
      · exact .inr (hsub p h)
      · exact .inl (List.mem_singleton.1 h)
  · rw [held_hit hh]
    exact ⟨hn, hl, List.contains_iff_mem.1 hh, fun p h => .inr h⟩
theorem hits_fifo (s : Nat) (l : List Int) : hitOf l (fun k => lastn s (came s l k)) = fhit s l := rfl

theorem sched_lru {s : Nat} (hs : 1 ≤ s) (l : List Int) : Sched s l fun k => (full (l.take k)).take s := by
  refine ⟨by simp [full, mru], fun k _ => (full_nodup _).sublist (List.take_sublist _ _), fun k _ => List.length_take_le _ _, fun k hk => ?_, fun k hk p hp => ?_⟩
  · obtain ⟨n, rfl⟩ : ∃ n, s = n + 1 := ⟨s - 1, by omega⟩
    rw [full_succ hk, List.take_succ_cons]; simp
  · obtain ⟨n, rfl⟩ : ∃ n, s = n + 1 := ⟨s - 1, by omega⟩
    rw [full_succ hk, List.take_succ_cons, List.mem_cons] at hp
    rcases hp with hp | hp
    · exact .inl hp
    · refine .inr ?_
      generalize full (l.take k) = F at *
      generalize l[k]?.getD 0 = x at *
      by_cases hx : x ∈ F.take (n+1)
      · rw [take_erase_in hx] at hp
        exact List.mem_of_mem_erase hp
      · have h2 : F.take n = (F.take (n+1)).take n := by rw [List.take_take, Nat.min_eq_left (by omega)]
        have h3 : x ∉ F.take n := fun h => hx (by rw [h2] at h; exact List.mem_of_mem_take h)
        rw [take_erase_out h3, h2] at hp
        exact List.mem_of_mem_take hp
theorem hits_lru (s : Nat) (l : List Int) : hitOf l (fun k => (full (l.take k)).take s) = hitAt s l := rfl

theorem sched_flush {s : Nat} (hs : 1 ≤ s) (l : List Int) : Sched s l (since s l) := by
  refine Sched.steps rfl fun k hk hn hl => ?_
  cases hh : ehit s l k
  · have hp := out_of_not hh
    rw [since_miss hh]
    unfold letsGo
    by_cases hf : (since s l k).length = s
    · rw [if_pos hf]
      exact ⟨by simp, by simpa using hs, by simp, fun p h => .inl (by simpa using h)⟩
    · rw [if_neg hf]
      refine ⟨nodup_behind hn hp, by simp; omega, by simp, fun p h => ?_⟩
      rcases List.mem_append.1 h with h | h
      · exact .inr h
      · exact .inl (List.mem_singleton.1 h)
  · rw [since_hit hh]
    exact ⟨hn, hl, List.contains_iff_mem.1 hh, fun p h => .inr h⟩
theorem hits_flush (s : Nat) (l : List Int) : hitOf l (since s l) = ehit s l := rfl
end Go.Proofs.YtedmfehjifknbaaDoor

/- Lists alone: the pages in the order of the last asking, looked at from the end of the requests. -/
namespace Go.Proofs.YtedmfehjifknbaaDoor
open Go.RowKit

theorem mru_snoc (x : Int) : ∀ q : List Int, mru (q ++ [x]) = if x ∈ q then mru q else mru q ++ [x]
  | [] => by simp [mru]
  | p :: q => by
    rw [List.cons_append, mru, mru_snoc x q, mru]
    by_cases hx : x ∈ q
    · rw [if_pos hx, if_pos (List.mem_cons_of_mem _ hx)]
    · rw [if_neg hx]
      have hx2 : x ∉ mru q := fun h => hx (mru_mem.1 h)
      by_cases hp : x = p
      · subst hp
        rw [if_pos (by simp), List.erase_append_right _ hx2]
        simp [List.erase_of_not_mem hx2]
      · rw [if_neg (by simp [hp, hx]), List.cons_append]
        congr 1
        by_cases hm : p ∈ mru q
        · rw [List.erase_append_left _ hm]
        · rw [List.erase_append_right _ hm, List.erase_of_not_mem hm]
          simp [hp]

theorem full_cons (x : Int) (r : List Int) : full (x :: r) = if x ∈ r then full r else full r ++ [x] := by
  unfold full
  rw [List.reverse_cons, mru_snoc]
  simp

theorem full_drop {l : List Int} {u : Nat} (h : u < l.length) : full (l.drop u) = if l[u]?.getD 0 ∈ l.drop (u+1) then full (l.drop (u+1)) else full (l.drop (u+1)) ++ [l[u]?.getD 0] := by
  rw [List.drop_eq_getElem_cons h, full_cons, List.getElem?_eq_getElem h, Option.getD_some]

theorem full_prefix (l : List Int) : ∀ u, u ≤ l.length → full (l.drop u) <+: full l
  | 0, _ => by simp
  | u + 1, h => by
    have ih := full_prefix l u (by omega)
    rw [full_drop (by omega)] at ih
    split at ih
    · exact ih
    · exact (List.prefix_append _ _).trans ih

theorem full_length_succ {l : List Int} {k : Nat} (h : k < l.length) : (full (l.take (k+1))).length = (full (l.take k)).length + (if (l.take k).contains (l[k]?.getD 0) then 0 else 1) := by
  rw [full_succ h, List.length_cons]
  by_cases hm : l[k]?.getD 0 ∈ l.take k
  · rw [List.length_erase_of_mem (full_mem.2 hm), if_pos (by simpa using hm)]
    have := List.length_pos_of_mem (full_mem.2 hm)
    omega
  · rw [List.erase_of_not_mem (fun h => hm (full_mem.1 h)), if_neg (by simpa using hm)]

theorem full_firsts (l : List Int) : ∀ k, k ≤ l.length → (full (l.take k)).length = firsts l k
  | 0, _ => by simp [full, mru, firsts]
  | k + 1, h => by rw [full_length_succ (by omega), full_firsts l k (by omega), firsts_succ]

theorem full_length (l : List Int) : (full l).length = firsts l l.length := by
  have := full_firsts l l.length (Nat.le_refl _)
  rwa [List.take_length] at this

theorem firsts_nodup {l : List Int} (h : l.Nodup) : ∀ k, k ≤ l.length → firsts l k = k
  | 0, _ => by simp [firsts]
  | k + 1, hk => by
    rw [firsts_succ, firsts_nodup h k (by omega), if_neg]
    have hk' : k < l.length := by omega
    rw [List.getElem?_eq_getElem hk', Option.getD_some]
    intro hm
    obtain ⟨i, hi, he⟩ := List.getElem_of_mem (List.contains_iff_mem.1 hm)
    rw [List.getElem_take] at he
    have hi2 : i < k := by simp at hi; omega
    have := (List.getElem_inj (h₀ := by omega) (h₁ := hk') h).1 he
    omega

theorem take_nodup {l : List Int} (h : l.Nodup) (n : Nat) : (l.take n).Nodup := h.sublist (List.take_sublist _ _)

theorem last_pos {l : List Int} {t k s : Nat} (h : full (l.drop t) = (full l).take k) (hk : k < ((full l).take s).length) : 1 ≤ t := by
  cases t with
  | succ t => omega
  | zero =>
    rw [List.drop_zero] at h
    have := congrArg List.length h
    rw [List.length_take] at hk this
    omega

theorem take_held {F : List Int} {s k : Nat} (hk : k < (F.take s).length) : (F.take s).take k = F.take k := by
  rw [List.take_take, Nat.min_eq_left]
  rw [List.length_take] at hk; omega

theorem step_in {l : List Int} {u k s : Nat} (hu : u < l.length) (h : full (l.drop (u+1)) = (full l).take k) (hk : k < ((full l).take s).length) (hm : (((full l).take s).take k).contains (l[u]?.getD 0) = true) : 1 ≤ u ∧ full (l.drop u) = (full l).take k := by
  rw [take_held hk, ← h, List.contains_iff_mem, full_mem] at hm
  have h2 : full (l.drop u) = (full l).take k := by rw [full_drop hu, if_pos hm, h]
  exact ⟨last_pos h2 hk, h2⟩

theorem step_out {l : List Int} {u k s : Nat} (hu : u < l.length) (h : full (l.drop (u+1)) = (full l).take k) (hk : k < ((full l).take s).length) (hm : (((full l).take s).take k).contains (l[u]?.getD 0) = false) : ((full l).take s)[k]?.getD 0 = l[u]?.getD 0 ∧ full (l.drop u) = (full l).take (k+1) := by
  have hm2 : ¬ (l[u]?.getD 0 ∈ l.drop (u+1)) := by
    intro hx
    rw [take_held hk, ← h] at hm
    have := List.contains_iff_mem.2 (full_mem.2 hx)
    rw [hm] at this; cases this
  have h2 : full (l.drop u) = (full l).take k ++ [l[u]?.getD 0] := by rw [full_drop hu, if_neg hm2, h]
  have hkF : k < (full l).length := by rw [List.length_take] at hk; omega
  have hks : k < s := by rw [List.length_take] at hk; omega
  have hp := List.prefix_iff_eq_take.1 (full_prefix l u (by omega))
  have hlen : (full (l.drop u)).length = k + 1 := by rw [h2]; simp; omega
  rw [hlen] at hp
  refine ⟨?_, hp⟩
  rw [List.getElem?_take_of_lt hks]
  rw [h2] at hp
  have := congrArg (fun x => x[k]?) hp
  rw [List.getElem?_take_of_lt (by omega), List.getElem?_append_right (by simp; omega)] at this
  have hl : ((full l).take k).length = k := by rw [List.length_take]; omega
  rw [hl] at this
  simp at this
  rw [← this]; rfl
end Go.Proofs.YtedmfehjifknbaaDoor

/- Lists alone, for chapter 8: phases, how many misses there are in each, and how many anybody has. -/
namespace Go.Proofs.YtedmfehjifknbaaDoor

/-- How many of the first k marks are not set. -/
def mc (f : Nat → Bool) : Nat → Nat
  | 0 => 0
  | k + 1 => mc f k + (if f k then 0 else 1)
theorem mc_hit {f : Nat → Bool} {k : Nat} (h : f k = true) : mc f (k+1) = mc f k := by rw [mc, if_pos h]; rfl
theorem mc_miss {f : Nat → Bool} {k : Nat} (h : f k = false) : mc f (k+1) = mc f k + 1 := by rw [mc, if_neg (by rw [h]; simp)]
theorem mc_mono (f : Nat → Bool) {a : Nat} : ∀ {b : Nat}, a ≤ b → mc f a ≤ mc f b
  | 0, h => by rw [Nat.le_zero.1 h]; exact Nat.le_refl _
  | b + 1, h => by
    rcases Nat.lt_or_ge b a with hb | hb
    · rw [show a = b + 1 by omega]; exact Nat.le_refl _
    · have := mc_mono f (a := a) hb
      rw [mc]; omega
theorem mc_count (f : Nat → Bool) : ∀ n, mc f n + hcount f n = n
  | 0 => rfl
  | n + 1 => by
    have := mc_count f n
    rw [mc, hcount]
    cases f n <;> simp <;> omega
theorem missed_mc (f : Nat → Bool) (n : Nat) : missed (marks f n) (marks f n).length = mc f n := by
  have h1 := missed_hcount f n
  have h2 := mc_count f n
  omega
theorem mc_congr {f g : Nat → Bool} : ∀ n, (∀ k, k < n → f k = g k) → mc f n = mc g n
  | 0, _ => rfl
  | n + 1, h => by rw [mc, mc, mc_congr n (fun k hk => h k (by omega)), h n (by omega)]

/-- Who misses no page twice misses no more than there are pages. -/
theorem few_once {f : Nat → Bool} {l U : List Int} {i : Nat} : ∀ j, i ≤ j → (∀ t, i ≤ t → t < j → l[t]?.getD 0 ∈ U) → (∀ t1 t2, i ≤ t1 → t1 < t2 → t2 < j → l[t1]?.getD 0 = l[t2]?.getD 0 → f t1 = false → f t2 = true) → mc f j ≤ mc f i + U.length := by
  intro j hij hU ho
  suffices h : ∃ M : List Int, M.Nodup ∧ mc f j = mc f i + M.length ∧ ∀ p, p ∈ M → ∃ t, i ≤ t ∧ t < j ∧ f t = false ∧ l[t]?.getD 0 = p by
    obtain ⟨M, h1, h2, h3⟩ := h
    have := length_le_of_subset (B := U) h1 fun p hp => by
      obtain ⟨t, ht1, ht2, _, ht4⟩ := h3 p hp
      rw [← ht4]; exact hU t ht1 ht2
    omega
  clear hU
  induction j with
  | zero => exact ⟨[], List.nodup_nil, by rw [Nat.le_zero.1 hij]; rfl, fun p hp => by simp at hp⟩
  | succ j ih =>
    by_cases he : i = j + 1
    · subst he
      exact ⟨[], List.nodup_nil, rfl, fun p hp => by simp at hp⟩
    · obtain ⟨M, h1, h2, h3⟩ := ih (by omega) fun t1 t2 a b c => ho t1 t2 a b (by omega)
      cases hf : f j
      · refine ⟨M ++ [l[j]?.getD 0], nodup_behind h1 fun hm => ?_, by rw [mc_miss hf, List.length_append, List.length_singleton]; omega, fun p hp => ?_⟩
        · obtain ⟨t, ht1, ht2, ht3, ht4⟩ := h3 _ hm
          have := ho t j ht1 ht2 (by omega) ht4 ht3
          rw [hf] at this; cases this
        · rcases List.mem_append.1 hp with hp | hp
          · obtain ⟨t, a, b, c⟩ := h3 p hp
            exact ⟨t, a, by omega, c⟩
          · exact ⟨j, by omega, by omega, hf, (List.mem_singleton.1 hp).symm⟩
      · exact ⟨M, h1, by rw [mc_hit hf]; exact h2, fun p hp => by
          obtain ⟨t, a, b, c⟩ := h3 p hp
          exact ⟨t, a, by omega, c⟩⟩

/-- The part of the requests from i to k. -/
theorem seg_mem {l : List Int} {i k : Nat} (hk : k ≤ l.length) {q : Int} : q ∈ (l.take k).drop i ↔ ∃ t, i ≤ t ∧ t < k ∧ l[t]?.getD 0 = q := by
  rw [List.mem_iff_getElem]
  constructor
  · rintro ⟨n, hn, e⟩
    rw [List.length_drop, List.length_take] at hn
    rw [List.getElem_drop, List.getElem_take] at e
    refine ⟨i + n, by omega, by omega, ?_⟩
    rw [List.getElem?_eq_getElem (by omega), Option.getD_some]; exact e
  · rintro ⟨t, h1, h2, h3⟩
    refine ⟨t - i, by rw [List.length_drop, List.length_take]; omega, ?_⟩
    rw [List.getElem_drop, List.getElem_take]
    rw [List.getElem?_eq_getElem (by omega), Option.getD_some] at h3
    rw [← h3]; congr 1; omega

/-- By the last asking: what was asked for in a part of few pages is there. -/
theorem lru_once {s : Nat} {l U : List Int} (hUs : U.length ≤ s) {i j : Nat} (hj : j ≤ l.length) (hU : ∀ t, i ≤ t → t < j → l[t]?.getD 0 ∈ U) {t1 t2 : Nat} (h1 : i ≤ t1) (h2 : t1 < t2) (h3 : t2 < j) (he : l[t1]?.getD 0 = l[t2]?.getD 0) : hitAt s l t2 = true := by
  unfold hitAt
  rw [List.contains_iff_mem]
  obtain ⟨G, hG⟩ := full_prefix (l.take t2) t1 (by rw [List.length_take]; omega)
  have hle : (full ((l.take t2).drop t1)).length ≤ s := by
    have := length_le_of_subset (B := U) (full_nodup ((l.take t2).drop t1)) fun p hp => by
      obtain ⟨t, a, b, c⟩ := (seg_mem (by omega)).1 (full_mem.1 hp)
      rw [← c]; exact hU t (by omega) (by omega)
    omega
  have hm : l[t2]?.getD 0 ∈ full ((l.take t2).drop t1) := full_mem.2 ((seg_mem (by omega)).2 ⟨t1, Nat.le_refl _, h2, he⟩)
  rw [← hG, List.take_append]
  exact List.mem_append_left _ (by rw [List.take_of_length_le hle]; exact hm)

/-- By what came first: what came in a part of few pages is there. -/
theorem fifo_once {s : Nat} {l U : List Int} (hUs : U.length ≤ s) {i j : Nat} (hU : ∀ t, i ≤ t → t < j → l[t]?.getD 0 ∈ U) {t1 t2 : Nat} (h1 : i ≤ t1) (h2 : t1 < t2) (h3 : t2 < j) (he : l[t1]?.getD 0 = l[t2]?.getD 0) (hf : fhit s l t1 = false) : fhit s l t2 = true := by
  have key : ∀ u, t1 < u → u ≤ j → ∃ D, came s l u = came s l t1 ++ D ∧ D.Nodup ∧ l[t1]?.getD 0 ∈ D ∧ ∀ x, x ∈ D → x ∈ U := by
    intro u
    induction u with
    | zero => intro h; omega
    | succ u ih =>
      intro hu huj
      by_cases hut : u = t1
      · subst hut
        exact ⟨[l[u]?.getD 0], came_miss hf, by simp, by simp, fun x hx => by rw [List.mem_singleton.1 hx]; exact hU u h1 (by omega)⟩
      · obtain ⟨D, hD1, hD2, hD3, hD4⟩ := ih (by omega) (by omega)
        cases hh : fhit s l u
        · refine ⟨D ++ [l[u]?.getD 0], by rw [came_miss hh, hD1, List.append_assoc], nodup_behind hD2 fun hm => ?_, List.mem_append_left _ hD3, fun x hx => ?_⟩
          · have hlen : D.length ≤ s := Nat.le_trans (length_le_of_subset hD2 hD4) hUs
            have : l[u]?.getD 0 ∈ lastn s (came s l u) := by
              unfold lastn
              rw [hD1, List.length_append]
              by_cases hc : (came s l t1).length + D.length ≤ s
              · rw [show (came s l t1).length + D.length - s = 0 by omega, List.drop_zero]
                exact List.mem_append_right _ hm
              · rw [List.drop_append_of_le_length (by omega)]
                exact List.mem_append_right _ hm
            unfold fhit at hh
            rw [List.contains_iff_mem.2 this] at hh; cases hh
          · rcases List.mem_append.1 hx with hx | hx
            · exact hD4 x hx
            · rw [List.mem_singleton.1 hx]; exact hU u (by omega) (by omega)
        · exact ⟨D, by rw [came_hit hh]; exact hD1, hD2, hD3, hD4⟩
  obtain ⟨D, hD1, hD2, hD3, hD4⟩ := key t2 h2 (by omega)
  have hlen : D.length ≤ s := Nat.le_trans (length_le_of_subset hD2 hD4) hUs
  unfold fhit
  rw [List.contains_iff_mem, ← he]
  unfold lastn
  rw [hD1, List.length_append]
  by_cases hc : (came s l t1).length + D.length ≤ s
  · rw [show (came s l t1).length + D.length - s = 0 by omega, List.drop_zero]
    exact List.mem_append_right _ hD3
  · rw [List.drop_append_of_le_length (by omega)]
    exact List.mem_append_right _ hD3

/-- The last start ahead of request k. -/
def lst (s : Nat) (l : List Int) : Nat → Nat
  | 0 => 0
  | k + 1 => if begins s l k then k else lst s l k
theorem lst_yes {s k : Nat} {l : List Int} (h : begins s l k = true) : lst s l (k+1) = k := by rw [lst, if_pos h]
theorem lst_no {s k : Nat} {l : List Int} (h : begins s l k = false) : lst s l (k+1) = lst s l k := by rw [lst, if_neg (by rw [h]; simp)]
theorem lst_facts (s : Nat) (l : List Int) : ∀ k, 1 ≤ k → lst s l k < k ∧ begins s l (lst s l k) = true ∧ ∀ t, lst s l k < t → t < k → begins s l t = false
  | 0, h => by omega
  | k + 1, _ => by
    cases hb : begins s l k
    · have hk := begins_pos hb
      obtain ⟨h1, h2, h3⟩ := lst_facts s l k hk
      rw [lst_no hb]
      refine ⟨by omega, h2, fun t ht1 ht2 => ?_⟩
      by_cases he : t = k
      · subst he; exact hb
      · exact h3 t ht1 (by omega)
    · rw [lst_yes hb]
      exact ⟨by omega, hb, fun t h1 h2 => by omega⟩

/-- What is held by who flushes are the pages asked for since the last start. -/
theorem since_seg {s : Nat} {l : List Int} : ∀ k, 1 ≤ k → k ≤ l.length → ∀ q, q ∈ since s l k ↔ ∃ t, lst s l k ≤ t ∧ t < k ∧ l[t]?.getD 0 = q
  | 0, h, _, _ => by omega
  | k + 1, _, hk, q => by
    cases hb : begins s l k
    · have hp := begins_pos hb
      have hk2 : k ≤ l.length := Nat.le_of_succ_le hk
      have ih := since_seg (s := s) k hp hk2 q
      have hl := (lst_facts s l k hp).1
      rw [lst_no hb]
      cases hh : ehit s l k
      · rw [stays_since hb hh, List.mem_append, List.mem_singleton, ih]
        constructor
        · rintro (⟨t, a, b, c⟩ | h)
          · exact ⟨t, a, by omega, c⟩
          · exact ⟨k, by omega, by omega, h.symm⟩
        · rintro ⟨t, a, b, c⟩
          by_cases he : t = k
          · subst he; exact .inr c.symm
          · exact .inl ⟨t, a, by omega, c⟩
      · rw [since_hit hh, ih]
        constructor
        · rintro ⟨t, a, b, c⟩
          exact ⟨t, a, by omega, c⟩
        · rintro ⟨t, a, b, c⟩
          by_cases he : t = k
          · subst he
            have hm : l[t]?.getD 0 ∈ since s l t := List.contains_iff_mem.1 hh
            have := (since_seg t hp (by omega) (l[t]?.getD 0)).1 hm
            rw [← c]; exact this
          · exact ⟨t, a, by omega, c⟩
    · rw [lst_yes hb, begins_since hb, List.mem_singleton]
      constructor
      · intro h; exact ⟨k, Nat.le_refl _, by omega, h.symm⟩
      · rintro ⟨t, a, b, c⟩
        rw [show t = k by omega] at c; exact c.symm
theorem since_nodup {s : Nat} (hs : 1 ≤ s) {l : List Int} {k : Nat} (hk : k ≤ l.length) : (since s l k).Nodup := (sched_flush hs l).nd k hk
theorem since_first {s : Nat} {l : List Int} {k : Nat} (h1 : 1 ≤ k) (hk : k ≤ l.length) : l[lst s l k]?.getD 0 ∈ since s l k :=
  (since_seg k h1 hk _).2 ⟨lst s l k, Nat.le_refl _, (lst_facts s l k h1).1, rfl⟩

/-- By flushing: what was asked for in a phase is there. -/
theorem flush_phase {s : Nat} {l : List Int} {k : Nat} (hk : k < l.length) (hb : begins s l k = false) : ehit s l k = true ↔ ∃ t, lst s l k ≤ t ∧ t < k ∧ l[t]?.getD 0 = l[k]?.getD 0 := by
  unfold ehit
  rw [List.contains_iff_mem]
  exact since_seg k (begins_pos hb) (by omega) _

/-- How many starts there are ahead of request k. -/
def nph (s : Nat) (l : List Int) (k : Nat) : Nat := (starts s l k).length
theorem nph_yes {s k : Nat} {l : List Int} (h : begins s l k = true) : nph s l (k+1) = nph s l k + 1 := by unfold nph; rw [starts_yes h]; simp
theorem nph_no {s k : Nat} {l : List Int} (h : begins s l k = false) : nph s l (k+1) = nph s l k := by unfold nph; rw [starts_no h]
theorem nph_lst {s : Nat} {l : List Int} : ∀ k, 1 ≤ k → nph s l k = nph s l (lst s l k) + 1
  | 0, h => by omega
  | k + 1, _ => by
    cases hb : begins s l k
    · rw [nph_no hb, lst_no hb]; exact nph_lst k (begins_pos hb)
    · rw [nph_yes hb, lst_yes hb]

/-- Few misses in each phase. -/
def FewIn (s : Nat) (l : List Int) (f : Nat → Bool) : Prop := ∀ k, 1 ≤ k → k ≤ l.length → mc f k ≤ mc f (lst s l k) + (since s l k).length
theorem few_lru {s : Nat} (hs : 1 ≤ s) (l : List Int) : FewIn s l (hitAt s l) := fun k h1 hk => by
  have hU : ∀ t, lst s l k ≤ t → t < k → l[t]?.getD 0 ∈ since s l k := fun t a b => (since_seg k h1 hk _).2 ⟨t, a, b, rfl⟩
  exact few_once k (Nat.le_of_lt (lst_facts s l k h1).1) hU fun t1 t2 a b c d _ => lru_once (since_le hs l k) hk hU a b c d
theorem few_fifo {s : Nat} (hs : 1 ≤ s) (l : List Int) : FewIn s l (fhit s l) := fun k h1 hk => by
  have hU : ∀ t, lst s l k ≤ t → t < k → l[t]?.getD 0 ∈ since s l k := fun t a b => (since_seg k h1 hk _).2 ⟨t, a, b, rfl⟩
  exact few_once k (Nat.le_of_lt (lst_facts s l k h1).1) hU fun t1 t2 a b c d e => fifo_once (since_le hs l k) hU a b c d e
theorem lst_in {s : Nat} {l : List Int} {k t : Nat} (h1 : 1 ≤ k) (ht : lst s l k < t) (htk : t ≤ k) : lst s l t = lst s l k := by
  obtain ⟨a, b, c⟩ := lst_facts s l k h1
  obtain ⟨d, e, f⟩ := lst_facts s l t (by omega)
  rcases Nat.lt_trichotomy (lst s l t) (lst s l k) with h | h | h
  · have := f (lst s l k) h ht
    rw [b] at this; cases this
  · exact h
  · have := c (lst s l t) h (by omega)
    rw [e] at this; cases this
theorem few_flush (s : Nat) (l : List Int) : FewIn s l (ehit s l) := fun k h1 hk => by
  have hU : ∀ t, lst s l k ≤ t → t < k → l[t]?.getD 0 ∈ since s l k := fun t a b => (since_seg k h1 hk _).2 ⟨t, a, b, rfl⟩
  refine few_once k (Nat.le_of_lt (lst_facts s l k h1).1) hU fun t1 t2 a b c d _ => ?_
  have hb := (lst_facts s l k h1).2.2 t2 (by omega) c
  exact (flush_phase (by omega) hb).2 ⟨t1, by rw [lst_in h1 (by omega) (by omega)]; exact a, b, d⟩

/-- So many misses as phases times slots, at most. -/
theorem few_all {s : Nat} (hs : 1 ≤ s) {l : List Int} {f : Nat → Bool} (hf : FewIn s l f) : ∀ n k, k ≤ n → k ≤ l.length → mc f k ≤ s * nph s l k
  | 0, k, h, _ => by rw [Nat.le_zero.1 h]; exact Nat.zero_le _
  | n + 1, k, h, hk => by
    by_cases h0 : k = 0
    · subst h0; exact Nat.zero_le _
    · have hl := (lst_facts s l k (by omega)).1
      have h1 := few_all hs hf n (lst s l k) (by omega) (by omega)
      have h2 := hf k (by omega) hk
      have h3 := since_le hs l k
      rw [nph_lst k (by omega), Nat.mul_add]
      omega

/-- Who has h slots: of unlike pages asked for behind request a, but its own, all but h - 1 are missed. -/
theorem window {h : Nat} {l : List Int} {H : Nat → List Int} (hS : Sched h l H) {a k : Nat} (hak : a < k) (hk : k ≤ l.length) {D : List Int} (hD : D.Nodup) (ha : l[a]?.getD 0 ∉ D) (hD2 : ∀ x, x ∈ D → ∃ t, a < t ∧ t < k ∧ l[t]?.getD 0 = x) : D.length + mc (hitOf l H) (a+1) ≤ mc (hitOf l H) k + (h - 1) := by
  have key : ∀ u, a + 1 ≤ u → u ≤ k → ∃ M : List Int, mc (hitOf l H) u = mc (hitOf l H) (a+1) + M.length ∧ (∀ x, x ∈ H u → x ∈ H (a+1) ∨ x ∈ M) ∧ ∀ t, a < t → t < u → l[t]?.getD 0 ∈ H (a+1) ∨ l[t]?.getD 0 ∈ M := by
    intro u
    induction u with
    | zero => intro hu; omega
    | succ u ih =>
      intro hu huk
      by_cases hau : u = a
      · subst hau
        exact ⟨[], rfl, fun x hx => .inl hx, fun t h1 h2 => by omega⟩
      · obtain ⟨M, h1, h2, h3⟩ := ih (by omega) (by omega)
        cases hh : hitOf l H u
        · refine ⟨l[u]?.getD 0 :: M, by rw [mc_miss hh, List.length_cons]; omega, fun x hx => ?_, fun t ht1 ht2 => ?_⟩
          · rcases hS.sub u (by omega) x hx with e | e
            · exact .inr (by rw [e]; simp)
            · rcases h2 x e with e | e
              · exact .inl e
              · exact .inr (List.mem_cons_of_mem _ e)
          · by_cases htu : t = u
            · subst htu; exact .inr (by simp)
            · rcases h3 t ht1 (by omega) with e | e
              · exact .inl e
              · exact .inr (List.mem_cons_of_mem _ e)
        · have hm : l[u]?.getD 0 ∈ H u := List.contains_iff_mem.1 hh
          refine ⟨M, by rw [mc_hit hh]; exact h1, fun x hx => ?_, fun t ht1 ht2 => ?_⟩
          · rcases hS.sub u (by omega) x hx with e | e
            · rw [e]; exact h2 _ hm
            · exact h2 x e
          · by_cases htu : t = u
            · subst htu; exact h2 _ hm
            · exact h3 t ht1 (by omega)
  obtain ⟨M, h1, _, h3⟩ := key k (by omega) (Nat.le_refl _)
  have hg := hS.got a (by omega)
  have hle := hS.le (a+1) (by omega)
  have := length_le_of_subset (B := (H (a+1)).erase (l[a]?.getD 0) ++ M) hD fun x hx => by
    have hne : x ≠ l[a]?.getD 0 := fun e => ha (e ▸ hx)
    obtain ⟨t, t1, t2, t3⟩ := hD2 x hx
    rw [List.mem_append, List.mem_erase_of_ne hne, ← t3]
    exact h3 t t1 t2
  rw [List.length_append, List.length_erase_of_mem hg] at this
  omega

/-- Who has h slots, behind the first request of each phase. -/
theorem best_starts {s h : Nat} {l : List Int} {H : Nat → List Int} (hs : 1 ≤ s) (h1 : 1 ≤ h) (hhs : h ≤ s) (hS : Sched h l H) : ∀ n a, a ≤ n → a < l.length → begins s l a = true → 1 + nph s l a * (s - h + 1) ≤ mc (hitOf l H) (a+1)
  | 0, a, hn, hl, _ => by
    rw [Nat.le_zero.1 hn]
    have : hitOf l H 0 = false := by unfold hitOf; rw [hS.start]; rfl
    rw [mc_miss this]
    simp [nph, starts, mc]
  | n + 1, a, hn, hl, hb => by
    by_cases h0 : a = 0
    · exact best_starts hs h1 hhs hS n a (by omega) hl hb
    · obtain ⟨p1, p2, p3⟩ := lst_facts s l a (by omega)
      have ih := best_starts hs h1 hhs hS n (lst s l a) (by omega) (by omega) p2
      have hm := begins_miss hb
      have hfull : (since s l a).length = s := by
        rw [begins_full (by omega) hm] at hb
        exact beq_iff_eq.1 hb
      have hout : l[a]?.getD 0 ∉ since s l a := out_of_not hm
      have hfirst := since_first (s := s) (l := l) (k := a) (by omega) (by omega)
      have hnd := since_nodup hs (l := l) (k := a) (by omega)
      have w := window hS (a := lst s l a) (k := a + 1) (by omega) (by omega) (D := (since s l a).erase (l[lst s l a]?.getD 0) ++ [l[a]?.getD 0])
        (nodup_behind (hnd.erase _) fun hx => hout (List.mem_of_mem_erase hx))
        (fun hx => by
          rcases List.mem_append.1 hx with hx | hx
          · exact hnd.not_mem_erase hx
          · rw [List.mem_singleton] at hx
            exact hout (hx ▸ hfirst))
        (fun x hx => by
          rcases List.mem_append.1 hx with hx | hx
          · have hne : x ≠ l[lst s l a]?.getD 0 := fun e => hnd.not_mem_erase (e ▸ hx)
            obtain ⟨t, t1, t2, t3⟩ := (since_seg a (by omega) (by omega) x).1 (List.mem_of_mem_erase hx)
            have : t ≠ lst s l a := fun e => hne (by rw [← t3, e])
            exact ⟨t, by omega, by omega, t3⟩
          · exact ⟨a, by omega, by omega, (List.mem_singleton.1 hx).symm⟩)
      rw [List.length_append, List.length_singleton, List.length_erase_of_mem hfirst, hfull] at w
      rw [nph_lst a (by omega), Nat.add_mul, Nat.one_mul]
      omega

/-- In the last phase, too. -/
theorem best_last {s h : Nat} {l : List Int} {H : Nat → List Int} (hs : 1 ≤ s) (h1 : 1 ≤ h) (hhs : h ≤ s) (hS : Sched h l H) {k : Nat} (hk1 : 1 ≤ k) (hk : k ≤ l.length) : (since s l k).length + 1 + nph s l (lst s l k) * (s - h + 1) ≤ mc (hitOf l H) k + h := by
  obtain ⟨p1, p2, p3⟩ := lst_facts s l k hk1
  have h2 := best_starts hs h1 hhs hS _ (lst s l k) (Nat.le_refl _) (by omega) p2
  have hfirst := since_first (s := s) (l := l) (k := k) hk1 hk
  have hnd := since_nodup hs (l := l) (k := k) hk
  have w := window hS (a := lst s l k) (k := k) (by omega) hk (D := (since s l k).erase (l[lst s l k]?.getD 0)) (hnd.erase _) hnd.not_mem_erase
    (fun x hx => by
      have hne : x ≠ l[lst s l k]?.getD 0 := fun e => hnd.not_mem_erase (e ▸ hx)
      obtain ⟨t, t1, t2, t3⟩ := (since_seg k hk1 hk x).1 (List.mem_of_mem_erase hx)
      have : t ≠ lst s l k := fun e => hne (by rw [← t3, e])
      exact ⟨t, by omega, t2, t3⟩)
  rw [List.length_erase_of_mem hfirst] at w
  have := List.length_pos_of_mem hfirst
  omega

/-- Sleator, Tarjan: no worse than the best, as slots go. -/
theorem phase_best {s h : Nat} {l : List Int} {H : Nat → List Int} {f : Nat → Bool} (hs : 1 ≤ s) (h1 : 1 ≤ h) (hhs : h ≤ s) (hS : Sched h l H) (hf : FewIn s l f) : (s - h + 1) * mc f l.length ≤ s * (mc (hitOf l H) l.length + h) := by
  by_cases h0 : l.length = 0
  · rw [h0]; simp [mc]
  · have a := few_all hs hf (lst s l l.length) _ (Nat.le_refl _) (by have := (lst_facts s l l.length (by omega)).1; omega)
    have b := hf l.length (by omega) (Nat.le_refl _)
    have c := best_last hs h1 hhs hS (k := l.length) (by omega) (Nat.le_refl _)
    generalize mc f (lst s l l.length) = x at *
    generalize (since s l l.length).length = r at *
    generalize nph s l (lst s l l.length) = m at *
    generalize mc (hitOf l H) l.length = o at *
    have hd : s - h + 1 ≤ s := by omega
    generalize s - h + 1 = d at *
    have e1 : d * mc f l.length ≤ d * (s * m + r) := Nat.mul_le_mul_left _ (by omega)
    have e2 : d * (s * m + r) = s * (m * d) + d * r := by rw [Nat.mul_add, ← Nat.mul_assoc, Nat.mul_comm d s, Nat.mul_assoc, Nat.mul_comm d m]
    have e3 : s * (m * d) + d * r ≤ s * (m * d) + s * r := Nat.add_le_add_left (Nat.mul_le_mul_right _ hd) _
    have e4 : s * (m * d) + s * r = s * (m * d + r) := (Nat.mul_add ..).symm
    have e5 : s * (m * d + r) ≤ s * (o + h) := Nat.mul_le_mul_left _ (by omega)
    omega
theorem phase_least {s : Nat} {l : List Int} {H : Nat → List Int} (hs : 1 ≤ s) (hS : Sched s l H) : nph s l l.length ≤ mc (hitOf l H) l.length := by
  by_cases h0 : l.length = 0
  · rw [h0]; simp [nph, starts]
  · obtain ⟨p1, p2, p3⟩ := lst_facts s l l.length (by omega)
    have h2 := best_starts hs hs (Nat.le_refl _) hS _ (lst s l l.length) (Nat.le_refl _) p1 p2
    have h3 := mc_mono (hitOf l H) (a := lst s l l.length + 1) (b := l.length) (by omega)
    rw [nph_lst _ (by omega)]
    rw [Nat.sub_self, Nat.zero_add, Nat.mul_one] at h2
    omega
end Go.Proofs.YtedmfehjifknbaaDoor

/- Lists alone, for chapter 10: pages that cost; a landlord; no worse than anybody, as slots go. -/
namespace Go.Proofs.YtedmfehjifknbaaDoor

/-- A sum over a list. -/
def sumOn (f : Int → Nat) : List Int → Nat
  | [] => 0
  | p :: A => f p + sumOn f A
theorem sumOn_append (f : Int → Nat) (A B : List Int) : sumOn f (A ++ B) = sumOn f A + sumOn f B := by
  induction A with
  | nil => simp [sumOn]
  | cons x A ih => rw [List.cons_append, sumOn, sumOn, ih]; omega
theorem sumOn_le {f g : Int → Nat} : ∀ {A : List Int}, (∀ p, p ∈ A → f p ≤ g p) → sumOn f A ≤ sumOn g A
  | [], _ => Nat.le_refl _
  | x :: A, h => by
    have := sumOn_le (f := f) (g := g) (A := A) fun p hp => h p (by simp [hp])
    have := h x (by simp)
    rw [sumOn, sumOn]; omega
theorem sumOn_congr {f g : Int → Nat} {A : List Int} (h : ∀ p, p ∈ A → f p = g p) : sumOn f A = sumOn g A :=
  Nat.le_antisymm (sumOn_le fun p hp => Nat.le_of_eq (h p hp)) (sumOn_le fun p hp => Nat.le_of_eq (h p hp).symm)
theorem sumOn_erase {f : Int → Nat} {p : Int} : ∀ {A : List Int}, p ∈ A → sumOn f A = f p + sumOn f (A.erase p)
  | [], h => by simp at h
  | x :: A, h => by
    by_cases hx : x = p
    · subst hx; rw [List.erase_cons_head, sumOn]
    · rw [List.erase_cons_tail (by simpa using hx), sumOn, sumOn, sumOn_erase (A := A) (by simpa [Ne.symm hx] using h)]
      omega
theorem sumOn_sub {f : Int → Nat} : ∀ {A B : List Int}, A.Nodup → (∀ p, p ∈ A → p ∈ B) → sumOn f A ≤ sumOn f B
  | [], _, _, _ => Nat.zero_le _
  | x :: A, B, h, hs => by
    rw [List.nodup_cons] at h
    have hx : x ∈ B := hs x (by simp)
    have := sumOn_sub (f := f) (B := B.erase x) h.2 fun p hp => by
      have hne : p ≠ x := fun e => h.1 (e ▸ hp)
      rw [List.mem_erase_of_ne hne]
      exact hs p (by simp [hp])
    rw [sumOn, sumOn_erase hx]; omega
theorem sumOn_same {f : Int → Nat} {A B : List Int} (hA : A.Nodup) (hB : B.Nodup) (h : ∀ p, p ∈ A ↔ p ∈ B) : sumOn f A = sumOn f B :=
  Nat.le_antisymm (sumOn_sub hA fun p hp => (h p).1 hp) (sumOn_sub hB fun p hp => (h p).2 hp)
theorem sumOn_mul (f : Int → Nat) (b : Nat) (A : List Int) : sumOn (fun p => b * f p) A = b * sumOn f A := by
  induction A with
  | nil => simp [sumOn]
  | cons x A ih => rw [sumOn, sumOn, ih, Nat.mul_add]
theorem sumOn_add (f g : Int → Nat) (A : List Int) : sumOn (fun p => f p + g p) A = sumOn f A + sumOn g A := by
  induction A with
  | nil => rfl
  | cons x A ih => rw [sumOn, sumOn, sumOn, ih]; omega
theorem sumOn_some {q : Int → Bool} {d : Nat} (A : List Int) : sumOn (fun p => if q p then d else 0) A = d * many q A := by
  induction A with
  | nil => simp [sumOn, many]
  | cons x A ih =>
    rw [sumOn, ih, many_cons]
    split
    · rw [Nat.mul_add, Nat.mul_one]
    · rw [Nat.zero_add, Nat.zero_add]

/-- What all that came among the first k requests cost. -/
def paid (c : Int → Nat) (l : List Int) (H : Nat → List Int) : Nat → Nat
  | 0 => 0
  | k + 1 => paid c l H k + (if hitOf l H k then 0 else c (l[k]?.getD 0))

/-- A state of a landlord: pages and credits. -/
def tenants (st : List (Int × Nat)) : List Int := st.map fun x => x.1
def leastOf : List (Int × Nat) → Nat
  | [] => 0
  | x :: r => if r = [] then x.2 else min x.2 (leastOf r)
theorem leastOf_le : ∀ {st : List (Int × Nat)} {x}, x ∈ st → leastOf st ≤ x.2
  | y :: r, x, h => by
    rw [leastOf]
    rcases List.mem_cons.1 h with rfl | h
    · split
      · exact Nat.le_refl _
      · exact Nat.min_le_left _ _
    · rw [if_neg (List.ne_nil_of_mem h)]
      exact Nat.le_trans (Nat.min_le_right _ _) (leastOf_le h)
theorem leastOf_mem : ∀ {st : List (Int × Nat)}, st ≠ [] → ∃ x, x ∈ st ∧ x.2 = leastOf st
  | [], h => absurd rfl h
  | y :: r, _ => by
    rw [leastOf]
    by_cases hr : r = []
    · rw [if_pos hr]; exact ⟨y, by simp, rfl⟩
    · rw [if_neg hr]
      obtain ⟨x, hx, e⟩ := leastOf_mem hr
      by_cases hm : y.2 ≤ leastOf r
      · rw [Nat.min_eq_left hm]; exact ⟨y, by simp, rfl⟩
      · rw [Nat.min_eq_right (by omega)]; exact ⟨x, by simp [hx], e⟩
def lessBy (d : Nat) (st : List (Int × Nat)) : List (Int × Nat) := st.map fun x => (x.1, x.2 - d)
/-- All credits are less by the least of them; the first one that has none left goes. -/
def letOut (st : List (Int × Nat)) : List (Int × Nat) := lessBy (leastOf st) (st.eraseP fun x => x.2 == leastOf st)
def again (p : Int) (v : Nat) (st : List (Int × Nat)) : List (Int × Nat) := st.map fun x => if x.1 = p then (x.1, v) else x
def landS (s : Nat) (c : Int → Nat) (st : List (Int × Nat)) (p : Int) : List (Int × Nat) :=
  if (tenants st).contains p then again p (c p) st else (if st.length = s then letOut st else st) ++ [(p, c p)]
def land (s : Nat) (c : Int → Nat) (l : List Int) : Nat → List (Int × Nat)
  | 0 => []
  | k + 1 => landS s c (land s c l k) (l[k]?.getD 0)
def lheld (s : Nat) (c : Int → Nat) (l : List Int) (k : Nat) : List Int := tenants (land s c l k)
def lpaid (s : Nat) (c : Int → Nat) (l : List Int) (n : Nat) : Nat := paid c l (lheld s c l) n

theorem tenants_lessBy (d : Nat) (st : List (Int × Nat)) : tenants (lessBy d st) = tenants st := by unfold tenants lessBy; rw [List.map_map]; rfl
theorem tenants_again (p : Int) (v : Nat) (st : List (Int × Nat)) : tenants (again p v st) = tenants st := by
  unfold tenants again
  rw [List.map_map]
  refine List.map_congr_left fun x _ => ?_
  simp only [Function.comp]
  split <;> rfl
theorem tenants_snoc (st : List (Int × Nat)) (x : Int × Nat) : tenants (st ++ [x]) = tenants st ++ [x.1] := by simp [tenants]
theorem letOut_sub (st : List (Int × Nat)) : (tenants (letOut st)).Sublist (tenants st) := by
  unfold letOut
  rw [tenants_lessBy]
  exact List.eraseP_sublist.map _
theorem letOut_length {st : List (Int × Nat)} (h : st ≠ []) : (letOut st).length = st.length - 1 := by
  obtain ⟨x, hx, e⟩ := leastOf_mem h
  unfold letOut lessBy
  rw [List.length_map, List.length_eraseP_of_mem hx (by rw [e]; simp)]

structure LInv (s : Nat) (c : Int → Nat) (st : List (Int × Nat)) : Prop where
  nd : (tenants st).Nodup
  le : st.length ≤ s
  cr : ∀ x, x ∈ st → x.2 ≤ c x.1
theorem landS_inv {s : Nat} (hs : 1 ≤ s) {c : Int → Nat} {st : List (Int × Nat)} (h : LInv s c st) (p : Int) : LInv s c (landS s c st p) := by
  unfold landS
  by_cases hp : (tenants st).contains p = true
  · rw [if_pos hp]
    refine ⟨by rw [tenants_again]; exact h.nd, by unfold again; rw [List.length_map]; exact h.le, fun x hx => ?_⟩
    obtain ⟨y, hy, rfl⟩ := List.mem_map.1 hx
    by_cases he : y.1 = p
    · rw [if_pos he]; show c p ≤ c y.1; rw [he]; exact Nat.le_refl _
    · rw [if_neg he]; exact h.cr y hy
  · rw [if_neg hp]
    have hout : p ∉ tenants st := fun hm => hp (List.contains_iff_mem.2 hm)
    have hb : (tenants (if st.length = s then letOut st else st)).Sublist (tenants st) := by
      split
      · exact letOut_sub st
      · exact List.Sublist.refl _
    refine ⟨?_, ?_, fun x hx => ?_⟩
    · rw [tenants_snoc]
      exact nodup_behind (h.nd.sublist hb) fun hm => hout (hb.subset hm)
    · rw [List.length_append, List.length_singleton]
      have := h.le
      split
      · rw [letOut_length (by intro e; subst e; simp at *; omega)]; omega
      · omega
    · rcases List.mem_append.1 hx with hx | hx
      · split at hx
        · unfold letOut lessBy at hx
          obtain ⟨y, hy, rfl⟩ := List.mem_map.1 hx
          have := h.cr y (List.mem_of_mem_eraseP hy)
          show y.2 - _ ≤ c y.1
          omega
        · exact h.cr x hx
      · rw [List.mem_singleton.1 hx]; exact Nat.le_refl _
theorem land_inv {s : Nat} (hs : 1 ≤ s) (c : Int → Nat) (l : List Int) : ∀ k, LInv s c (land s c l k)
  | 0 => ⟨List.nodup_nil, Nat.zero_le _, fun x hx => by cases hx⟩
  | k + 1 => landS_inv hs (land_inv hs c l k) _
theorem lheld_succ (s : Nat) (c : Int → Nat) (l : List Int) (k : Nat) : lheld s c l (k+1) = tenants (landS s c (land s c l k) (l[k]?.getD 0)) := rfl
/-- A landlord is a store. -/
theorem sched_land {s : Nat} (hs : 1 ≤ s) (c : Int → Nat) (l : List Int) : Sched s l (lheld s c l) := by
  refine Sched.steps rfl fun k hk _ _ => ?_
  have hi := land_inv hs c l (k+1)
  refine ⟨hi.nd, by unfold lheld tenants; rw [List.length_map]; exact hi.le, ?_, fun p hp => ?_⟩
  · rw [lheld_succ]
    unfold landS
    split
    · rename_i h
      rw [tenants_again]; exact List.contains_iff_mem.1 h
    · rw [tenants_snoc]; simp
  · rw [lheld_succ] at hp
    unfold landS at hp
    split at hp
    · rw [tenants_again] at hp; exact .inr hp
    · rw [tenants_snoc] at hp
      rcases List.mem_append.1 hp with hp | hp
      · split at hp
        · exact .inr ((letOut_sub _).subset hp)
        · exact .inr hp
      · exact .inl (List.mem_singleton.1 hp)

/-- The credit of a page. -/
def cr : List (Int × Nat) → Int → Nat
  | [], _ => 0
  | x :: r, p => if x.1 = p then x.2 else cr r p
def tot : List (Int × Nat) → Nat
  | [] => 0
  | x :: r => x.2 + tot r
theorem tot_append (A B : List (Int × Nat)) : tot (A ++ B) = tot A + tot B := by
  induction A with
  | nil => simp [tot]
  | cons x A ih => rw [List.cons_append, tot, tot, ih]; omega
theorem cr_out : ∀ {st : List (Int × Nat)} {p : Int}, p ∉ tenants st → cr st p = 0
  | [], _, _ => rfl
  | x :: r, p, h => by
    have h1 : x.1 ≠ p := fun e => h (by simp [tenants, e])
    rw [cr, if_neg h1]
    exact cr_out fun hm => h (by unfold tenants at hm ⊢; rw [List.map_cons]; exact List.mem_cons_of_mem _ hm)
theorem cr_mem : ∀ {st : List (Int × Nat)} {x}, (tenants st).Nodup → x ∈ st → cr st x.1 = x.2
  | y :: r, x, hn, h => by
    have hn2 : y.1 ∉ tenants r ∧ (tenants r).Nodup := List.nodup_cons.1 hn
    rcases List.mem_cons.1 h with rfl | h
    · rw [cr, if_pos rfl]
    · have hne : y.1 ≠ x.1 := fun e => hn2.1 (by rw [e]; exact List.mem_map.2 ⟨x, h, rfl⟩)
      rw [cr, if_neg hne]
      exact cr_mem hn2.2 h
theorem cr_le {s : Nat} {c : Int → Nat} : ∀ {st : List (Int × Nat)}, LInv s c st → ∀ p, cr st p ≤ c p := fun {st} h p => by
  by_cases hp : p ∈ tenants st
  · obtain ⟨x, hx, rfl⟩ := List.mem_map.1 hp
    rw [cr_mem h.nd hx]; exact h.cr x hx
  · rw [cr_out hp]; exact Nat.zero_le _
theorem cr_snoc {st : List (Int × Nat)} {p : Int} {v : Nat} (h : p ∉ tenants st) (q : Int) : cr (st ++ [(p, v)]) q = if q = p then v else cr st q := by
  induction st with
  | nil =>
    show (if p = q then v else 0) = if q = p then v else 0
    by_cases e : p = q
    · rw [if_pos e, if_pos e.symm]
    · rw [if_neg e, if_neg (Ne.symm e)]
  | cons x r ih =>
    have h1 : x.1 ≠ p := fun e => h (by simp [tenants, e])
    have h2 : p ∉ tenants r := fun hm => h (by unfold tenants at hm ⊢; rw [List.map_cons]; exact List.mem_cons_of_mem _ hm)
    rw [List.cons_append, cr, cr, ih h2]
    by_cases e : x.1 = q
    · rw [if_pos e, if_pos e, if_neg (fun h => h1 (e.trans h))]
    · rw [if_neg e, if_neg e]
theorem cr_lessBy (d : Nat) (st : List (Int × Nat)) (q : Int) : cr (lessBy d st) q = cr st q - d := by
  induction st with
  | nil => simp [lessBy, cr]
  | cons x r ih =>
    have : lessBy d (x :: r) = (x.1, x.2 - d) :: lessBy d r := rfl
    rw [this, cr, cr, ih]
    split <;> rfl
theorem again_out {p : Int} {v : Nat} : ∀ {st : List (Int × Nat)}, p ∉ tenants st → again p v st = st
  | [], _ => rfl
  | x :: r, h => by
    have h1 : x.1 ≠ p := fun e => h (by simp [tenants, e])
    have h2 : p ∉ tenants r := fun hm => h (by unfold tenants at hm ⊢; rw [List.map_cons]; exact List.mem_cons_of_mem _ hm)
    have e0 : again p v (x :: r) = (if x.1 = p then (x.1, v) else x) :: again p v r := rfl
    rw [e0, if_neg h1, again_out h2]
theorem cr_again {p : Int} {v : Nat} {st : List (Int × Nat)} (h : p ∈ tenants st) (q : Int) : cr (again p v st) q = if q = p then v else cr st q := by
  induction st with
  | nil => simp [tenants] at h
  | cons x r ih =>
    have e0 : again p v (x :: r) = (if x.1 = p then (x.1, v) else x) :: again p v r := rfl
    rw [e0]
    by_cases e : x.1 = p
    · rw [if_pos e, cr, cr]
      by_cases hq : q = p
      · rw [if_pos hq, if_pos (by rw [hq]; exact e)]
      · rw [if_neg hq, if_neg (fun h => hq (h.symm.trans e)), if_neg (fun h => hq (h.symm.trans e))]
        by_cases hr : p ∈ tenants r
        · rw [ih hr, if_neg hq]
        · rw [again_out hr]
    · have hr : p ∈ tenants r := by
        have : p ∈ x.1 :: tenants r := h
        rcases List.mem_cons.1 this with e2 | hm
        · exact absurd e2.symm e
        · exact hm
      rw [if_neg e, cr, cr, ih hr]
      by_cases hq : x.1 = q
      · rw [if_pos hq, if_pos hq, if_neg (fun h => e (hq.trans h))]
      · rw [if_neg hq, if_neg hq]
theorem tot_again {p : Int} {v : Nat} : ∀ {st : List (Int × Nat)}, (tenants st).Nodup → p ∈ tenants st → tot (again p v st) + cr st p = tot st + v
  | [], _, h => by simp [tenants] at h
  | x :: r, hn, h => by
    have hn2 : x.1 ∉ tenants r ∧ (tenants r).Nodup := List.nodup_cons.1 hn
    have e0 : again p v (x :: r) = (if x.1 = p then (x.1, v) else x) :: again p v r := rfl
    rw [e0]
    by_cases e : x.1 = p
    · have hr : p ∉ tenants r := e ▸ hn2.1
      rw [if_pos e, again_out hr, tot, tot, cr, if_pos e]
      show v + tot r + x.2 = x.2 + tot r + v
      omega
    · have hr : p ∈ tenants r := by
        have : p ∈ x.1 :: tenants r := h
        rcases List.mem_cons.1 this with e2 | hm
        · exact absurd e2.symm e
        · exact hm
      have := tot_again (v := v) hn2.2 hr
      rw [if_neg e, tot, tot, cr, if_neg e]; omega
theorem tot_lessBy {d : Nat} : ∀ {st : List (Int × Nat)}, (∀ x, x ∈ st → d ≤ x.2) → tot (lessBy d st) + d * st.length = tot st
  | [], _ => by simp [lessBy, tot]
  | x :: r, h => by
    have e : lessBy d (x :: r) = (x.1, x.2 - d) :: lessBy d r := rfl
    have ih := tot_lessBy (st := r) fun y hy => h y (by simp [hy])
    have hx := h x (by simp)
    rw [e, tot, tot, List.length_cons, Nat.mul_add, Nat.mul_one]
    show x.2 - d + _ + _ = _
    omega
/-- What goes out has the least credit. -/
theorem out_facts {d : Nat} : ∀ {st : List (Int × Nat)}, (tenants st).Nodup → (∃ x, x ∈ st ∧ x.2 = d) → tot (st.eraseP fun x => x.2 == d) + d = tot st ∧ ∀ q, cr (st.eraseP fun x => x.2 == d) q - d = cr st q - d
  | [], _, h => by obtain ⟨x, hx, _⟩ := h; cases hx
  | y :: r, hn, h => by
    have hn2 : y.1 ∉ tenants r ∧ (tenants r).Nodup := List.nodup_cons.1 hn
    by_cases hy : y.2 = d
    · rw [List.eraseP_cons_of_pos (by simpa using hy)]
      refine ⟨by rw [tot, hy]; omega, fun q => ?_⟩
      rw [cr]
      by_cases e : y.1 = q
      · rw [if_pos e, cr_out (e ▸ hn2.1), hy]; omega
      · rw [if_neg e]
    · rw [List.eraseP_cons_of_neg (by simpa using hy)]
      have ih := out_facts (d := d) hn2.2 (by
        obtain ⟨x, hx, e⟩ := h
        rcases List.mem_cons.1 hx with rfl | hx
        · exact absurd e hy
        · exact ⟨x, hx, e⟩)
      refine ⟨by rw [tot, tot]; omega, fun q => ?_⟩
      rw [cr, cr]
      by_cases e : y.1 = q
      · rw [if_pos e, if_pos e]
      · rw [if_neg e, if_neg e]; exact ih.2 q
theorem letOut_facts {st : List (Int × Nat)} (hn : (tenants st).Nodup) (h : st ≠ []) : tot (letOut st) + leastOf st * st.length = tot st ∧ ∀ q, cr (letOut st) q = cr st q - leastOf st := by
  obtain ⟨x, hx, e⟩ := leastOf_mem h
  obtain ⟨h1, h2⟩ := out_facts hn ⟨x, hx, e⟩
  have h3 := tot_lessBy (d := leastOf st) (st := st.eraseP fun x => x.2 == leastOf st) fun y hy => leastOf_le (List.mem_of_mem_eraseP hy)
  have h4 : (st.eraseP fun x => x.2 == leastOf st).length = st.length - 1 := List.length_eraseP_of_mem hx (by rw [e]; simp)
  have h5 : 1 ≤ st.length := List.length_pos_iff.2 h
  refine ⟨?_, fun q => by unfold letOut; rw [cr_lessBy]; exact h2 q⟩
  unfold letOut
  rw [h4] at h3
  obtain ⟨n, hn⟩ : ∃ n, st.length = n + 1 := ⟨st.length - 1, by omega⟩
  rw [hn] at h3 ⊢
  rw [Nat.add_sub_cancel] at h3
  rw [Nat.mul_add, Nat.mul_one]
  omega
end Go.Proofs.YtedmfehjifknbaaDoor
