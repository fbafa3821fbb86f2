/- Lists alone: nothing is let go of while there is room. -/
import Derived.Test.YtkoccdhonbnlhaaHands
import Derived.Test.YtkoccdhonbnlhaaQueue
import Derived.Test.YtkoccdhonbnlhaaLate
import Derived.Test.YtkoccdhonbnlhaaMisses
namespace Go.Proofs.Ytkoccdhonbnlhaa
open Go.RowKit

/-- Whether a page was asked for before. -/
def seen (l : List Int) (i : Nat) : Bool := (l.take i).contains (l[i]?.getD 0)

theorem missed_marks (f : Nat → Bool) (n : Nat) : missed (marks f n) (marks f n).length = ((List.range n).filter fun i => !f i).length := by
  unfold missed
  rw [List.take_of_length_le (Nat.le_refl _)]
  unfold marks
  rw [List.filter_map, List.length_map]
  rfl
theorem count_le {f g : Nat → Bool} : ∀ n, (∀ i, i < n → f i = true → g i = true) → ((List.range n).filter fun i => !g i).length ≤ ((List.range n).filter fun i => !f i).length
  | 0, _ => by simp
  | n + 1, h => by
    have ih := count_le n (fun i hi => h i (by omega))
    rw [List.range_succ, List.filter_append, List.filter_append, List.length_append, List.length_append]
    have hn := h n (by omega)
    cases hf : f n
    · cases hg : g n
      · simp [hf, hg]; omega
      · simp [hf, hg]; omega
    · have hg := hn hf
      simp [hf, hg]; omega
theorem missed_ge {f : Nat → Bool} {l : List Int} (h : ∀ i, i < l.length → f i = true → seen l i = true) : firsts l l.length ≤ missed (marks f l.length) (marks f l.length).length := by
  rw [missed_marks]
  exact count_le (g := seen l) _ h
theorem missed_eq {f : Nat → Bool} {l : List Int} (h : ∀ i, i < l.length → f i = seen l i) : missed (marks f l.length) (marks f l.length).length = firsts l l.length := by
  rw [missed_marks]
  exact Nat.le_antisymm (count_le (f := seen l) (g := f) _ fun i hi hs => by rw [h i hi]; exact hs) (count_le (f := f) (g := seen l) _ fun i hi hf => by rw [← h i hi]; exact hf)
theorem firsts_mono {l : List Int} {k : Nat} : ∀ n, k ≤ n → firsts l k ≤ firsts l n
  | 0, h => by have : k = 0 := by omega
               rw [this]; exact Nat.le_refl _
  | n + 1, h => by
    by_cases e : k = n + 1
    · rw [e]; exact Nat.le_refl _
    · have := firsts_mono (l := l) (k := k) n (by omega)
      rw [firsts_succ]; omega
theorem snoc_take {l : List Int} {k : Nat} (hk : k < l.length) : l.take (k + 1) = l.take k ++ [l[k]?.getD 0] := by
  rw [List.take_add_one, List.getElem?_eq_getElem hk]; rfl
theorem seen_iff {l : List Int} {i : Nat} : seen l i = true ↔ l[i]?.getD 0 ∈ l.take i := List.contains_iff_mem
theorem firsts_seen {l : List Int} {k : Nat} (h : seen l k = true) : firsts l (k+1) = firsts l k := by
  rw [firsts_succ]; unfold seen at h; rw [if_pos h]; rfl
theorem firsts_new {l : List Int} {k : Nat} (h : seen l k = false) : firsts l (k+1) = firsts l k + 1 := by
  rw [firsts_succ]; unfold seen at h; rw [if_neg (by rw [h]; simp)]

/-- The last two steps of the way, for any store: it has what was asked for, and no other pages. -/
theorem mem_snoc {l P : List Int} {k : Nat} (hk : k < l.length) (h : ∀ x, x ∈ P ↔ x ∈ l.take k) : ∀ x, x ∈ P ++ [l[k]?.getD 0] ↔ x ∈ l.take (k+1) := by
  intro x; rw [snoc_take hk, List.mem_append, List.mem_append, h]
theorem mem_stay {l P : List Int} {k : Nat} (hk : k < l.length) (hs : seen l k = true) (h : ∀ x, x ∈ P ↔ x ∈ l.take k) : ∀ x, x ∈ P ↔ x ∈ l.take (k+1) := by
  intro x
  rw [snoc_take hk, List.mem_append, h, List.mem_singleton]
  constructor
  · exact .inl
  · rintro (h | rfl)
    · exact h
    · exact seen_iff.1 hs

theorem clock_sub (s : Nat) (hs : 1 ≤ s) (l : List Int) : ∀ k, k ≤ l.length → ∀ x, x ∈ pagesOf (cst s l k).1 → x ∈ l.take k
  | 0, _, x, hx => by simp [cst, pagesOf] at hx
  | k + 1, hk, x, hx => by
    have ih := clock_sub s hs l k (by omega)
    rw [snoc_take (by omega), List.mem_append, List.mem_singleton]
    have I := cinv s hs l k
    cases hh : chit s l k
    · by_cases hr : (cst s l k).1.length < s
      · rw [cst_room hh hr] at hx
        unfold pagesOf at hx
        rw [List.map_append, List.mem_append] at hx
        rcases hx with hx | hx
        · exact .inl (ih x hx)
        · exact .inr (by simpa using hx)
      · rw [cst_full hh hr] at hx
        have hl := I.len
        have hha := I.hand
        rw [turned_pages _ (by omega)] at hx
        rcases List.mem_or_eq_of_mem_set hx with hx | hx
        · exact .inl (ih x hx)
        · exact .inr hx
    · rw [cst_hit hh] at hx
      have e := mark_pages (t := (cst s l k).1) (p := l[k]?.getD 0) hh
      exact .inl (ih x (by rw [← e]; exact hx))
theorem clock_seen {s : Nat} (hs : 1 ≤ s) {l : List Int} {i : Nat} (hi : i < l.length) (h : chit s l i = true) : seen l i = true :=
  seen_iff.2 (clock_sub s hs l i (by omega) _ (List.contains_iff_mem.1 h))

/-- The store of the hand: how many slots are taken, and, while there is room, by which pages. -/
theorem clock_fill (s : Nat) (hs : 1 ≤ s) (l : List Int) : ∀ k, k ≤ l.length → (cst s l k).1.length = min (firsts l k) s ∧ (firsts l k ≤ s → (cst s l k).2 = 0 ∧ ∀ x, x ∈ pagesOf (cst s l k).1 ↔ x ∈ l.take k)
  | 0, _ => ⟨by simp [cst, firsts], fun _ => ⟨rfl, by simp [cst, pagesOf]⟩⟩
  | k + 1, hk => by
    obtain ⟨hl, hm⟩ := clock_fill s hs l k (by omega)
    have I := cinv s hs l k
    have hsub := clock_sub s hs l k (by omega)
    cases hh : chit s l k
    · by_cases hr : (cst s l k).1.length < s
      · have hle : firsts l k ≤ s := by omega
        have hn : seen l k = false := by
          rw [← Bool.not_eq_true, seen_iff, ← (hm hle).2, ← List.contains_iff_mem]
          unfold chit at hh; rw [hh]; simp
        rw [cst_room hh hr, firsts_new hn]
        refine ⟨by rw [List.length_append, List.length_singleton, hl]; omega, fun _ => ⟨(hm hle).1, ?_⟩⟩
        have := mem_snoc (by omega) (hm hle).2
        unfold pagesOf at this ⊢
        rw [List.map_append]
        exact this
      · have hll := I.len
        have hha := I.hand
        have hf := firsts_mono (l := l) (k := k) (k+1) (by omega)
        rw [cst_full hh hr, turned_length _ (by omega)]
        refine ⟨by omega, fun h => ?_⟩
        have hle : firsts l k ≤ s := by omega
        have hn : seen l k = false := by
          rw [← Bool.not_eq_true, seen_iff, ← (hm hle).2, ← List.contains_iff_mem]
          unfold chit at hh; rw [hh]; simp
        rw [firsts_new hn] at h
        omega
    · have hsn : seen l k = true := clock_seen hs (by omega) hh
      rw [cst_hit hh, firsts_seen hsn]
      refine ⟨by rw [mark_length]; exact hl, fun h => ⟨(hm h).1, ?_⟩⟩
      show ∀ x, x ∈ pagesOf (markPage (cst s l k).1 (l[k]?.getD 0)) ↔ _
      rw [mark_pages (t := (cst s l k).1) (p := l[k]?.getD 0) hh]
      exact mem_stay (by omega) hsn (hm h).2
theorem clock_room {s : Nat} (hs : 1 ≤ s) {l : List Int} (h : firsts l l.length ≤ s) {i : Nat} (hi : i < l.length) : chit s l i = seen l i := by
  have hf := firsts_mono (l := l) (k := i) l.length (by omega)
  have := ((clock_fill s hs l i (by omega)).2 (by omega)).2
  rw [Bool.eq_iff_iff, seen_iff, ← this]
  exact List.contains_iff_mem

theorem came_fill (s : Nat) (l : List Int) : ∀ k, k ≤ l.length → (∀ x, x ∈ came s l k → x ∈ l.take k) ∧ (firsts l k ≤ s → (came s l k).length = firsts l k ∧ ∀ x, x ∈ came s l k ↔ x ∈ l.take k)
  | 0, _ => ⟨by simp [came], fun _ => ⟨by simp [came, firsts], by simp [came]⟩⟩
  | k + 1, hk => by
    obtain ⟨hsub, hm⟩ := came_fill s l k (by omega)
    cases hh : fhit s l k
    · rw [came_miss hh]
      refine ⟨fun x hx => ?_, fun h => ?_⟩
      · rw [snoc_take (by omega)]
        rw [List.mem_append] at hx ⊢
        rcases hx with hx | hx
        · exact .inl (hsub x hx)
        · exact .inr hx
      · have hf := firsts_mono (l := l) (k := k) (k+1) (by omega)
        obtain ⟨h1, h2⟩ := hm (by omega)
        have hn : seen l k = false := by
          rw [← Bool.not_eq_true, seen_iff, ← h2, ← List.contains_iff_mem]
          unfold fhit lastn at hh
          rw [show (came s l k).length - s = 0 by omega, List.drop_zero] at hh
          rw [hh]; simp
        rw [firsts_new hn, List.length_append, List.length_singleton, h1]
        exact ⟨rfl, mem_snoc (by omega) h2⟩
    · have hx : l[k]?.getD 0 ∈ came s l k := List.mem_of_mem_drop (List.contains_iff_mem.1 hh)
      have hsn : seen l k = true := seen_iff.2 (hsub _ hx)
      rw [came_hit hh, firsts_seen hsn]
      refine ⟨fun x hx => ?_, fun h => ⟨(hm h).1, mem_stay (by omega) hsn (hm h).2⟩⟩
      rw [snoc_take (by omega), List.mem_append]
      exact .inl (hsub x hx)
theorem fifo_seen {s : Nat} {l : List Int} {i : Nat} (hi : i < l.length) (h : fhit s l i = true) : seen l i = true :=
  seen_iff.2 ((came_fill s l i (by omega)).1 _ (List.mem_of_mem_drop (List.contains_iff_mem.1 h)))
theorem fifo_room {s : Nat} {l : List Int} (h : firsts l l.length ≤ s) {i : Nat} (hi : i < l.length) : fhit s l i = seen l i := by
  have hf := firsts_mono (l := l) (k := i) l.length (by omega)
  have := (came_fill s l i (by omega)).2 (by omega)
  rw [Bool.eq_iff_iff, seen_iff, ← this.2]
  unfold fhit lastn
  rw [show (came s l i).length - s = 0 by omega, List.drop_zero]
  exact List.contains_iff_mem

theorem lru_seen {s : Nat} {l : List Int} {i : Nat} (h : hitAt s l i = true) : seen l i = true :=
  seen_iff.2 (full_mem.1 (List.mem_of_mem_take (List.contains_iff_mem.1 h)))
theorem lru_room {s : Nat} {l : List Int} (h : firsts l l.length ≤ s) {i : Nat} (hi : i < l.length) : hitAt s l i = seen l i := by
  have hf := firsts_mono (l := l) (k := i) l.length (by omega)
  have hl := full_firsts l i (by omega)
  unfold hitAt
  rw [List.take_of_length_le (by omega), Bool.eq_iff_iff, seen_iff, List.contains_iff_mem, full_mem]
end Go.Proofs.Ytkoccdhonbnlhaa
