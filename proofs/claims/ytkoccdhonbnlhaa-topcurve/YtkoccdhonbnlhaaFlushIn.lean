/- Lists alone: what is held by who lets all go is held by who goes by the last asking. -/
import Derived.Test.YtkoccdhonbnlhaaEmptied
import Derived.Test.YtkoccdhonbnlhaaFull
namespace Go.Proofs.Ytkoccdhonbnlhaa
open Go.RowKit

/-- What is held are the pages that were asked for last, so many. -/
theorem since_last {s : Nat} (hs : 1 ≤ s) (l : List Int) : ∀ k, k ≤ l.length → ∀ q, q ∈ since s l k ↔ q ∈ (full (l.take k)).take (since s l k).length
  | 0, _, q => by simp [since]
  | k + 1, h, q => by
    have ih := since_last hs l k (by omega)
    rw [full_succ (by omega)]
    cases hh : ehit s l k
    · rw [since_miss hh]
      have hm : l[k]?.getD 0 ∉ since s l k := fun hm => by unfold ehit at hh; rw [List.contains_iff_mem.2 hm] at hh; cases hh
      generalize l[k]?.getD 0 = p at *
      unfold letsGo
      split
      · simp
      · rw [List.length_append, List.length_singleton, List.take_succ_cons, List.mem_cons, List.mem_append, List.mem_singleton]
        rw [take_erase_out (fun hx => hm ((ih p).2 hx)), ← ih q]
        exact Or.comm
    · rw [since_hit hh]
      have hm : l[k]?.getD 0 ∈ since s l k := List.contains_iff_mem.1 hh
      generalize l[k]?.getD 0 = p at *
      obtain ⟨n, hn⟩ : ∃ n, (since s l k).length = n + 1 := ⟨(since s l k).length - 1, by have := List.length_pos_of_mem hm; omega⟩
      rw [hn] at ih ⊢
      have hp := (ih p).1 hm
      rw [List.take_succ_cons, take_erase_in hp, List.mem_cons, ih q]
      by_cases hq : q = p
      · subst hq; simp [hp]
      · rw [List.mem_erase_of_ne hq]; simp [hq]

theorem since_held {s k : Nat} {l : List Int} (hs : 1 ≤ s) (hk : k ≤ l.length) {q : Int} (h : q ∈ since s l k) : q ∈ (full (l.take k)).take s := by
  have h1 := (since_last hs l k hk q).1 h
  have h2 := since_le hs l k
  have : (full (l.take k)).take (since s l k).length = ((full (l.take k)).take s).take (since s l k).length := by rw [List.take_take, Nat.min_eq_left h2]
  rw [this] at h1
  exact List.mem_of_mem_take h1
theorem since_hits {s k : Nat} {l : List Int} (hs : 1 ≤ s) (hk : k ≤ l.length) (h : ehit s l k = true) : hitAt s l k = true := by
  unfold ehit at h
  unfold hitAt
  rw [List.contains_iff_mem] at h ⊢
  exact since_held hs hk h
theorem since_all {s : Nat} {l : List Int} (hs : 1 ≤ s) {j : Nat} (hj : j < (since s l l.length).length) : ((full l).take s).contains ((since s l l.length)[j]?.getD 0) = true := by
  rw [List.contains_iff_mem, List.getElem?_eq_getElem hj, Option.getD_some]
  have := since_held hs (Nat.le_refl _) (List.getElem_mem hj)
  rwa [List.take_length] at this
end Go.Proofs.Ytkoccdhonbnlhaa
