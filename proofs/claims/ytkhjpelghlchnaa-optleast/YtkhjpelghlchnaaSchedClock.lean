/- Lists alone: who goes by marks is a schedule. -/
import Derived.Test.YtkhjpelghlchnaaSchedOf
import Derived.Test.YtkhjpelghlchnaaHands
namespace Go.Proofs.Ytkhjpelghlchnaa

theorem sched_clock {s : Nat} (hs : 1 ≤ s) (l : List Int) : Sched s l fun k => pagesOf (cst s l k).1 := by
  have hc := cinv s hs l
  refine ⟨by simp [cst, pagesOf], fun k _ => (hc k).nodup, fun k _ => by rw [pagesOf_length]; exact (hc k).len, fun k hk => ?_, fun k hk p hp => ?_⟩
  · cases hh : chit s l k
    · by_cases hr : (cst s l k).1.length < s
      · rw [cst_room hh hr]
        simp [pagesOf]
      · have hha := (hc k).hand
        have hlt : (cst s l k).2 < (cst s l k).1.length := by omega
        rw [cst_full hh hr, turned_pages _ hlt]
        have := (sweep_facts (nmarks (cst s l k).1) _ _ hlt).2.2
        exact List.mem_set (by rw [pagesOf_length]; exact this) _
    · rw [cst_hit hh, mark_pages hh]
      exact List.contains_iff_mem.1 hh
  · cases hh : chit s l k
    · by_cases hr : (cst s l k).1.length < s
      · rw [cst_room hh hr] at hp
        simp only [pagesOf, List.map_append, List.map_cons, List.map_nil] at hp ⊢
        rcases List.mem_append.1 hp with h | h
        · exact .inr h
        · exact .inl (List.mem_singleton.1 h)
      · have hha := (hc k).hand
        have hlt : (cst s l k).2 < (cst s l k).1.length := by omega
        rw [cst_full hh hr, turned_pages _ hlt] at hp
        rcases List.mem_or_eq_of_mem_set hp with h | h
        · exact .inr h
        · exact .inl h
    · rw [cst_hit hh, mark_pages hh] at hp
      exact .inr hp
theorem hits_clock (s : Nat) (l : List Int) : hitOf l (fun k => pagesOf (cst s l k).1) = chit s l := rfl
end Go.Proofs.Ytkhjpelghlchnaa
