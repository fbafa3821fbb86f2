/- Lists alone: schedules: of more slots, of a beginning, one behind another, turned around, of one slot. -/
import Derived.Test.YtennlinnclcngaaLists
namespace Go.Proofs.Ytennlinnclcngaa

theorem hcount_le {g h : Nat → Bool} : ∀ {k : Nat}, (∀ i, i < k → g i = true → h i = true) → hcount g k ≤ hcount h k
  | 0, _ => Nat.le_refl _
  | k + 1, H => by
    have ih := hcount_le (g := g) (h := h) (k := k) fun i hi => H i (by omega)
    have h1 := H k (by omega)
    simp only [hcount]
    cases hg : g k
    · simp; omega
    · rw [h1 hg]; simp; omega
theorem hcount_congr {g h : Nat → Bool} {k : Nat} (H : ∀ i, i < k → g i = h i) : hcount g k = hcount h k :=
  Nat.le_antisymm (hcount_le fun i hi e => by rw [← H i hi]; exact e) (hcount_le fun i hi e => by rw [H i hi]; exact e)
theorem hcount_add (h : Nat → Bool) (n : Nat) : ∀ m, hcount h (n + m) = hcount h n + hcount (fun i => h (n + i)) m
  | 0 => rfl
  | m + 1 => by
    have := hcount_add h n m
    rw [← Nat.add_assoc]
    simp only [hcount]
    omega
theorem hcount_mono (h : Nat → Bool) {n m : Nat} (hn : n ≤ m) : hcount h n ≤ hcount h m := by
  obtain ⟨d, rfl⟩ : ∃ d, m = n + d := ⟨m - n, by omega⟩
  rw [hcount_add]; omega
theorem hcount_lt (h : Nat → Bool) : ∀ k, hcount h k ≤ k
  | 0 => Nat.le_refl _
  | k + 1 => by
    have := hcount_lt h k
    simp only [hcount]
    split <;> omega
theorem hcount_turn (g : Nat → Bool) : ∀ T, hcount (fun m => g (T - 1 - m)) T = hcount g T
  | 0 => rfl
  | T + 1 => by
    have ih := hcount_turn g T
    have h1 := hcount_add (fun m => g (T + 1 - 1 - m)) 1 T
    rw [Nat.add_comm 1 T] at h1
    rw [h1]
    have h2 : hcount (fun i => (fun m => g (T + 1 - 1 - m)) (1 + i)) T = hcount (fun m => g (T - 1 - m)) T := hcount_congr fun i hi => by
      show g (T + 1 - 1 - (1 + i)) = g (T - 1 - i)
      congr 1; omega
    rw [h2, ih]
    show (0 + if g (T + 1 - 1 - 0) = true then 1 else 0) + hcount g T = hcount g T + if g T = true then 1 else 0
    have e : T + 1 - 1 - 0 = T := by omega
    simp only [e]
    omega

theorem Sched.wider {s s' : Nat} {l : List Int} {H : Nat → List Int} (h : Sched s l H) (hs : s ≤ s') : Sched s' l H :=
  ⟨h.start, h.nd, fun k hk => Nat.le_trans (h.le k hk) hs, h.got, h.sub⟩

theorem take_at {l : List Int} {n k : Nat} (hk : k < n) : (l.take n)[k]?.getD 0 = l[k]?.getD 0 := by
  rw [List.getElem?_take_of_lt hk]
theorem Sched.begin {s : Nat} {l : List Int} {H : Nat → List Int} (h : Sched s l H) {n : Nat} (hn : n ≤ l.length) : Sched s (l.take n) H := by
  have hl : (l.take n).length = n := by rw [List.length_take]; omega
  refine ⟨h.start, fun k hk => h.nd k (by omega), fun k hk => h.le k (by omega), fun k hk => ?_, fun k hk p hp => ?_⟩
  · rw [hl] at hk
    rw [take_at hk]; exact h.got k (by omega)
  · rw [hl] at hk
    rw [take_at hk]; exact h.sub k (by omega) p hp
theorem hits_begin {l : List Int} {H : Nat → List Int} {n : Nat} : hcount (hitOf (l.take n) H) n = hcount (hitOf l H) n :=
  hcount_congr fun i hi => by unfold hitOf; rw [take_at hi]

/-- One schedule, and another behind it. -/
def andThen (n : Nat) (A B : Nat → List Int) (k : Nat) : List Int := if k ≤ n then A k else B (k - n)
theorem drop_get {l : List Int} {n j : Nat} : (l.drop n)[j]?.getD 0 = l[n + j]?.getD 0 := by rw [List.getElem?_drop]
theorem Sched.andThen {s n : Nat} {l : List Int} {A B : Nat → List Int} (hn : n ≤ l.length) (hA : Sched s (l.take n) A) (hB : Sched s (l.drop n) B) : Sched s l (andThen n A B) := by
  have hl : (l.take n).length = n := by rw [List.length_take]; omega
  have hd : (l.drop n).length = l.length - n := List.length_drop
  refine ⟨?_, fun k hk => ?_, fun k hk => ?_, fun k hk => ?_, fun k hk p hp => ?_⟩
  · unfold Go.Proofs.Ytennlinnclcngaa.andThen; rw [if_pos (Nat.zero_le _)]; exact hA.start
  · unfold Go.Proofs.Ytennlinnclcngaa.andThen; split
    · exact hA.nd k (by omega)
    · exact hB.nd (k - n) (by omega)
  · unfold Go.Proofs.Ytennlinnclcngaa.andThen; split
    · exact hA.le k (by omega)
    · exact hB.le (k - n) (by omega)
  · unfold Go.Proofs.Ytennlinnclcngaa.andThen; split
    · have := hA.got k (by omega)
      rwa [take_at (by omega)] at this
    · have := hB.got (k - n) (by omega)
      rw [drop_get, show n + (k - n) = k by omega] at this
      rwa [show k + 1 - n = k - n + 1 by omega]
  · unfold Go.Proofs.Ytennlinnclcngaa.andThen at hp ⊢
    by_cases h1 : k + 1 ≤ n
    · rw [if_pos h1] at hp
      rw [if_pos (by omega)]
      have := hA.sub k (by omega) p hp
      rwa [take_at (by omega)] at this
    · rw [if_neg h1, show k + 1 - n = k - n + 1 by omega] at hp
      have h2 := hB.sub (k - n) (by omega) p hp
      rw [drop_get, show n + (k - n) = k by omega] at h2
      rcases h2 with h2 | h2
      · exact .inl h2
      · by_cases h3 : k ≤ n
        · rw [show k - n = 0 by omega, hB.start] at h2; simp at h2
        · rw [if_neg h3]; exact .inr h2
theorem hits_andThen {s n : Nat} {l : List Int} {A B : Nat → List Int} (hn : n ≤ l.length) (hB : Sched s (l.drop n) B) : hcount (hitOf (l.take n) A) n + hcount (hitOf (l.drop n) B) (l.length - n) ≤ hcount (hitOf l (andThen n A B)) l.length := by
  have h1 : hcount (hitOf (l.take n) A) n = hcount (hitOf l (andThen n A B)) n := by
    rw [hits_begin]
    exact hcount_congr fun i hi => by unfold hitOf andThen; rw [if_pos (by omega)]
  have h2 : hcount (hitOf (l.drop n) B) (l.length - n) ≤ hcount (fun i => hitOf l (andThen n A B) (n + i)) (l.length - n) := hcount_le fun i hi e => by
    unfold hitOf andThen at *
    rw [drop_get] at e
    by_cases h0 : i = 0
    · subst h0; rw [hB.start] at e; simp at e
    · rw [if_neg (by omega), show n + i - n = i by omega]; exact e
  have h3 := hcount_add (hitOf l (andThen n A B)) n (l.length - n)
  rw [show n + (l.length - n) = l.length by omega] at h3
  omega

/-- A page that stays until it is asked for. -/
def Stays (l : List Int) (H : Nat → List Int) (k : Nat) (p : Int) : Prop := ahead l k p < l.length ∧ ∀ i, k ≤ i → i ≤ ahead l k p → p ∈ H i
def stays (l : List Int) (H : Nat → List Int) (k : Nat) (p : Int) : Bool := decide (ahead l k p < l.length) && (List.range (ahead l k p + 1)).all fun i => decide (i < k) || (H i).contains p
theorem stays_iff {l : List Int} {H : Nat → List Int} {k : Nat} {p : Int} : stays l H k p = true ↔ Stays l H k p := by
  unfold stays Stays
  rw [Bool.and_eq_true, decide_eq_true_iff, List.all_eq_true]
  constructor
  · rintro ⟨h1, h2⟩
    refine ⟨h1, fun i hi hi2 => ?_⟩
    have := h2 i (List.mem_range.2 (by omega))
    rw [Bool.or_eq_true, decide_eq_true_iff, List.contains_iff_mem] at this
    rcases this with h | h
    · omega
    · exact h
  · rintro ⟨h1, h2⟩
    refine ⟨h1, fun i hi => ?_⟩
    rw [Bool.or_eq_true, decide_eq_true_iff, List.contains_iff_mem]
    have := List.mem_range.1 hi
    by_cases h : i < k
    · exact .inl h
    · exact .inr (h2 i (by omega) (by omega))
def stayers (l : List Int) (H : Nat → List Int) (k : Nat) : List Int := (H k).filter (stays l H k)
theorem mem_stayers {l : List Int} {H : Nat → List Int} {k : Nat} {p : Int} : p ∈ stayers l H k ↔ Stays l H k p := by
  unfold stayers
  rw [List.mem_filter, stays_iff]
  exact ⟨fun h => h.2, fun h => ⟨h.2 k (Nat.le_refl _) (ahead_ge _ _ _), h⟩⟩
theorem stays_step {s : Nat} {l : List Int} {H : Nat → List Int} (h : Sched s l H) {k : Nat} (hk : k < l.length) {p : Int} (hp : p ≠ l[k]?.getD 0) : Stays l H k p ↔ Stays l H (k+1) p := by
  unfold Stays
  rw [ahead_later hk hp]
  constructor
  · rintro ⟨h1, h2⟩
    exact ⟨h1, fun i hi hi2 => h2 i (by omega) hi2⟩
  · rintro ⟨h1, h2⟩
    refine ⟨h1, fun i hi hi2 => ?_⟩
    by_cases he : i = k
    · subst he
      rcases h.sub i hk p (h2 (i+1) (Nat.le_refl _) (ahead_ge _ _ _)) with h3 | h3
      · exact absurd h3 hp
      · exact h3
    · exact h2 i (by omega) hi2
def stayed (l : List Int) (H : Nat → List Int) (k : Nat) : Bool := stays l H (k+1) (l[k]?.getD 0)
theorem erase_count {A : List Int} (p : Int) : A.length = (A.erase p).length + if p ∈ A then 1 else 0 := by
  split
  · rename_i h
    rw [List.length_erase_of_mem h]
    have := List.length_pos_of_mem h
    omega
  · rename_i h
    rw [List.erase_of_not_mem h]; rfl
theorem stayers_nodup {s : Nat} {l : List Int} {H : Nat → List Int} (h : Sched s l H) {k : Nat} (hk : k ≤ l.length) : (stayers l H k).Nodup := by
  unfold stayers
  exact (h.nd k hk).filter _
theorem stays_count {s : Nat} {l : List Int} {H : Nat → List Int} (h : Sched s l H) : ∀ k, k ≤ l.length → hcount (hitOf l H) k + (stayers l H k).length = hcount (stayed l H) k
  | 0, _ => by
    unfold stayers
    rw [h.start]; rfl
  | k + 1, hk => by
    have ih := stays_count h k (by omega)
    have hk' : k < l.length := by omega
    have n1 := stayers_nodup h (k := k) (by omega)
    have n2 := stayers_nodup h (k := k + 1) hk
    have e1 := erase_count (A := stayers l H k) (l[k]?.getD 0)
    have e2 := erase_count (A := stayers l H (k+1)) (l[k]?.getD 0)
    have hE : ((stayers l H k).erase (l[k]?.getD 0)).length = ((stayers l H (k+1)).erase (l[k]?.getD 0)).length := by
      apply Nat.le_antisymm
      · refine length_le_of_subset (n1.erase _) fun p hp => ?_
        rw [n1.mem_erase_iff, mem_stayers] at hp
        rw [n2.mem_erase_iff, mem_stayers]
        exact ⟨hp.1, (stays_step h hk' hp.1).1 hp.2⟩
      · refine length_le_of_subset (n2.erase _) fun p hp => ?_
        rw [n2.mem_erase_iff, mem_stayers] at hp
        rw [n1.mem_erase_iff, mem_stayers]
        exact ⟨hp.1, (stays_step h hk' hp.1).2 hp.2⟩
    have hh : (if l[k]?.getD 0 ∈ stayers l H k then 1 else 0) = (if hitOf l H k = true then 1 else 0) := by
      have : l[k]?.getD 0 ∈ stayers l H k ↔ hitOf l H k = true := by
        rw [mem_stayers]
        unfold Stays hitOf
        rw [ahead_now hk', List.contains_iff_mem]
        exact ⟨fun x => x.2 k (Nat.le_refl _) (Nat.le_refl _), fun x => ⟨hk', fun i h1 h2 => by rw [show i = k by omega]; exact x⟩⟩
      simp only [this]
    have hs : (if l[k]?.getD 0 ∈ stayers l H (k+1) then 1 else 0) = (if stayed l H k = true then 1 else 0) := by
      have : l[k]?.getD 0 ∈ stayers l H (k+1) ↔ stayed l H k = true := by
        rw [mem_stayers]
        unfold stayed
        rw [stays_iff]
      simp only [this]
    rw [hh] at e1
    rw [hs] at e2
    simp only [hcount]
    omega

/-- The schedule turned around: ahead of a request, those that stay until they were asked for. -/
def turnedS (l : List Int) (H : Nat → List Int) : Nat → List Int
  | 0 => []
  | m + 1 => (H (l.length - (m + 1) + 1)).filter fun p => decide (p = l[l.length - (m + 1)]?.getD 0) || stays l H (l.length - (m + 1)) p
theorem rev_at {l : List Int} {m : Nat} (hm : m < l.length) : l.reverse[m]?.getD 0 = l[l.length - (m + 1)]?.getD 0 := by
  rw [List.getElem?_reverse hm, show l.length - 1 - m = l.length - (m + 1) by omega]
theorem stays_next {s : Nat} {l : List Int} {H : Nat → List Int} (h : Sched s l H) {k : Nat} (hk : k < l.length) {p : Int} (hp : Stays l H k p) : p ∈ H (k+1) := by
  by_cases he : p = l[k]?.getD 0
  · subst he; exact h.got k hk
  · have h1 := ahead_ge l (k+1) p
    rw [← ahead_later hk he] at h1
    exact hp.2 (k+1) (by omega) h1
theorem turned_sched {s : Nat} {l : List Int} {H : Nat → List Int} (h : Sched s l H) : Sched s l.reverse (turnedS l H) := by
  have hl : l.reverse.length = l.length := List.length_reverse
  refine ⟨rfl, fun m hm => ?_, fun m hm => ?_, fun m hm => ?_, fun m hm p hp => ?_⟩
  · cases m with
    | zero => exact List.nodup_nil
    | succ m => exact (h.nd _ (by omega)).filter _
  · cases m with
    | zero => exact Nat.zero_le _
    | succ m => exact Nat.le_trans (List.length_filter_le _ _) (h.le _ (by omega))
  · rw [hl] at hm
    rw [rev_at hm]
    unfold turnedS
    rw [List.mem_filter, Bool.or_eq_true, decide_eq_true_iff, stays_iff]
    exact ⟨h.got _ (by omega), .inl rfl⟩
  · rw [hl] at hm
    rw [rev_at hm]
    unfold turnedS at hp
    rw [List.mem_filter, Bool.or_eq_true, decide_eq_true_iff, stays_iff] at hp
    by_cases he : p = l[l.length - (m + 1)]?.getD 0
    · exact .inl he
    · refine .inr ?_
      have hst := hp.2.resolve_left he
      have hk : l.length - (m + 1) < l.length := by omega
      have hst2 := (stays_step h hk he).1 hst
      cases m with
      | zero =>
        have h1 := hst2.1
        have h2 := ahead_ge l (l.length - (0 + 1) + 1) p
        omega
      | succ m =>
        have e : l.length - (m + 1 + 1) + 1 = l.length - (m + 1) := by omega
        rw [e] at hst2
        unfold turnedS
        rw [List.mem_filter, Bool.or_eq_true, decide_eq_true_iff, stays_iff]
        exact ⟨stays_next h (by omega) hst2, .inr hst2⟩
theorem turned_hits {s : Nat} {l : List Int} {H : Nat → List Int} (h : Sched s l H) : hcount (hitOf l H) l.length ≤ hcount (hitOf l.reverse (turnedS l H)) l.length := by
  have h1 := stays_count h l.length (Nat.le_refl _)
  have h2 : hcount (fun m => stayed l H (l.length - 1 - m)) l.length ≤ hcount (hitOf l.reverse (turnedS l H)) l.length := by
    refine hcount_le fun m hm e => ?_
    unfold stayed at e
    rw [stays_iff] at e
    unfold hitOf
    rw [rev_at hm, List.contains_iff_mem]
    rw [show l.length - 1 - m = l.length - (m + 1) by omega] at e
    cases m with
    | zero =>
      have h1 := e.1
      have h2 := ahead_ge l (l.length - (0 + 1) + 1) (l[l.length - (0 + 1)]?.getD 0)
      omega
    | succ m =>
      have e2 : l.length - (m + 1 + 1) + 1 = l.length - (m + 1) := by omega
      rw [e2] at e
      unfold turnedS
      rw [List.mem_filter, Bool.or_eq_true, decide_eq_true_iff, stays_iff]
      exact ⟨stays_next h (by omega) e, .inr e⟩
  rw [hcount_turn] at h2
  omega

/-- Turned around, the best has the same. -/
theorem best_turned {s : Nat} {l : List Int} {A B : Nat → List Int} (hA : Sched s l A) (bA : Best s l A) (hB : Sched s l.reverse B) (bB : Best s l.reverse B) : hcount (hitOf l A) l.length = hcount (hitOf l.reverse B) l.length := by
  have hl : l.reverse.length = l.length := List.length_reverse
  apply Nat.le_antisymm
  · have h1 := turned_hits hA
    have h2 := best_most hB (turned_sched hA) bB
    rw [hl] at h2
    omega
  · have h1 := turned_hits hB
    have h2 := turned_sched hB
    rw [List.reverse_reverse] at h1 h2
    have h3 := best_most hA h2 bA
    rw [hl] at h1
    omega

/-- In one slot there is what was asked for just before. -/
theorem one_slot {l : List Int} {H : Nat → List Int} (h : Sched 1 l H) {k : Nat} (hk : k < l.length) : H (k+1) = [l[k]?.getD 0] := by
  have h1 := h.le (k+1) (by omega)
  have h2 := h.got k hk
  cases hc : H (k+1) with
  | nil => rw [hc] at h2; simp at h2
  | cons x r =>
    rw [hc] at h1 h2
    have : r = [] := List.eq_nil_of_length_eq_zero (by rw [List.length_cons] at h1; omega)
    subst this
    simp at h2
    rw [h2]
theorem one_hit {l : List Int} {A B : Nat → List Int} (hA : Sched 1 l A) (hB : Sched 1 l B) {k : Nat} (hk : k < l.length) : hitOf l A k = hitOf l B k := by
  unfold hitOf
  cases k with
  | zero => rw [hA.start, hB.start]
  | succ k => rw [one_slot hA (by omega), one_slot hB (by omega)]

/-- The first request of a page finds nothing. -/
theorem first_miss {s : Nat} {l : List Int} {H : Nat → List Int} (h : Sched s l H) : ∀ k, k ≤ l.length → ∀ p, p ∈ H k → p ∈ l.take k
  | 0, _, p, hp => by rw [h.start] at hp; simp at hp
  | k + 1, hk, p, hp => by
    have hk' : k < l.length := by omega
    rw [List.take_succ_eq_append_getElem hk', List.mem_append]
    rcases h.sub k hk' p hp with rfl | h2
    · refine .inr ?_
      rw [List.getElem?_eq_getElem hk']; simp
    · exact .inl (first_miss h k (by omega) p h2)
end Go.Proofs.Ytennlinnclcngaa
