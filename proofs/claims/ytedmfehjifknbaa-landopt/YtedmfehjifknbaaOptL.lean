/- Lists alone: who lets go of what is asked for latest. -/
import Derived.Test.YtedmfehjifknbaaLists
namespace Go.Proofs.Ytedmfehjifknbaa

/-- Of the pages below q that are held, the one that is asked for latest, of several the least; -1 if there is none. -/
def bst (l : List Int) (k : Nat) (held : List Int) : Nat → Int
  | 0 => -1
  | q + 1 => if held.contains (q : Int) && (decide (bst l k held q < 0) || decide (ahead l k (bst l k held q) < ahead l k q)) then q else bst l k held q
def pick (l : List Int) (k : Nat) (held : List Int) : Int := bst l k held 16
/-- The page that goes. -/
def IsPick (l : List Int) (k : Nat) (held : List Int) (b : Int) : Prop := b ∈ held ∧ ∀ q, q ∈ held → ahead l k q < ahead l k b ∨ (ahead l k q = ahead l k b ∧ b ≤ q)
theorem ispick_unique {l : List Int} {k : Nat} {held : List Int} {a b : Int} (ha : IsPick l k held a) (hb : IsPick l k held b) : a = b := by
  have h1 := ha.2 b hb.1
  have h2 := hb.2 a ha.1
  omega
theorem bst_facts (l : List Int) (k : Nat) (held : List Int) : ∀ Q : Nat, (bst l k held Q = -1 ∧ ∀ q : Nat, q < Q → (q : Int) ∉ held) ∨ (bst l k held Q ∈ held ∧ 0 ≤ bst l k held Q ∧ bst l k held Q < Q ∧ ∀ q : Nat, q < Q → (q : Int) ∈ held → ahead l k q < ahead l k (bst l k held Q) ∨ (ahead l k q = ahead l k (bst l k held Q) ∧ bst l k held Q ≤ q))
  | 0 => .inl ⟨rfl, fun q h => by omega⟩
  | Q + 1 => by
    have ih := bst_facts l k held Q
    rw [bst]
    by_cases hQ : (Q : Int) ∈ held
    · have hc : held.contains (Q : Int) = true := List.contains_iff_mem.2 hQ
      rw [hc, Bool.true_and]
      rcases ih with ⟨h1, h2⟩ | ⟨h1, h2, h3, h4⟩
      · rw [h1, if_pos (by simp)]
        refine .inr ⟨hQ, by omega, by omega, fun q hq hm => ?_⟩
        by_cases he : q = Q
        · subst he; exact .inr ⟨rfl, Int.le_refl _⟩
        · exact absurd hm (h2 q (by omega))
      · by_cases hlt : ahead l k (bst l k held Q) < ahead l k Q
        · rw [if_pos (by simp [hlt])]
          refine .inr ⟨hQ, by omega, by omega, fun q hq hm => ?_⟩
          by_cases he : q = Q
          · subst he; exact .inr ⟨rfl, Int.le_refl _⟩
          · rcases h4 q (by omega) hm with h | h
            · exact .inl (by omega)
            · exact .inl (by omega)
        · rw [if_neg (by simp [hlt]; omega)]
          refine .inr ⟨h1, h2, by omega, fun q hq hm => ?_⟩
          by_cases he : q = Q
          · subst he
            by_cases e : ahead l k q = ahead l k (bst l k held q)
            · exact .inr ⟨e, by omega⟩
            · exact .inl (by omega)
          · exact h4 q (by omega) hm
    · have hc : held.contains (Q : Int) = false := by rw [← Bool.not_eq_true, List.contains_iff_mem]; exact hQ
      rw [hc, Bool.false_and, if_neg (by simp)]
      rcases ih with ⟨h1, h2⟩ | ⟨h1, h2, h3, h4⟩
      · refine .inl ⟨h1, fun q hq hm => ?_⟩
        by_cases he : q = Q
        · subst he; exact hQ hm
        · exact h2 q (by omega) hm
      · refine .inr ⟨h1, h2, by omega, fun q hq hm => ?_⟩
        by_cases he : q = Q
        · subst he; exact absurd hm hQ
        · exact h4 q (by omega) hm
def inPages (A : List Int) : Prop := ∀ p, p ∈ A → 0 ≤ p ∧ p < 16
theorem pick_is {l : List Int} {k : Nat} {held : List Int} (hp : inPages held) (hn : held ≠ []) : IsPick l k held (pick l k held) := by
  have h := bst_facts l k held 16
  rcases h with ⟨_, h2⟩ | ⟨h1, h2, h3, h4⟩
  · cases held with
    | nil => exact absurd rfl hn
    | cons x r =>
      have hx := hp x (by simp)
      obtain ⟨n, rfl⟩ : ∃ n : Nat, x = n := ⟨x.toNat, by omega⟩
      exact absurd (by simp) (h2 n (by omega))
  · refine ⟨h1, fun q hq => ?_⟩
    have hx := hp q hq
    obtain ⟨n, rfl⟩ : ∃ n : Nat, q = n := ⟨q.toNat, by omega⟩
    exact h4 n (by omega) hq

/-- What is held behind k requests, and who was let go of. -/
def ost (s : Nat) (l : List Int) : Nat → List Int × List Int
  | 0 => ([], [])
  | k + 1 =>
    if (ost s l k).1.contains (l[k]?.getD 0) then ost s l k
    else if (ost s l k).1.length = s then ((ost s l k).1.erase (pick l k (ost s l k).1) ++ [l[k]?.getD 0], (ost s l k).2 ++ [pick l k (ost s l k).1])
    else ((ost s l k).1 ++ [l[k]?.getD 0], (ost s l k).2)
def ohit (s : Nat) (l : List Int) (k : Nat) : Bool := (ost s l k).1.contains (l[k]?.getD 0)
theorem ost_hit {s k : Nat} {l : List Int} (h : ohit s l k = true) : ost s l (k+1) = ost s l k := by rw [ost]; exact if_pos h
theorem ost_full {s k : Nat} {l : List Int} (h : ohit s l k = false) (hf : (ost s l k).1.length = s) : ost s l (k+1) = ((ost s l k).1.erase (pick l k (ost s l k).1) ++ [l[k]?.getD 0], (ost s l k).2 ++ [pick l k (ost s l k).1]) := by
  rw [ost, if_neg (by unfold ohit at h; rw [h]; simp), if_pos hf]
theorem ost_room {s k : Nat} {l : List Int} (h : ohit s l k = false) (hf : (ost s l k).1.length ≠ s) : ost s l (k+1) = ((ost s l k).1 ++ [l[k]?.getD 0], (ost s l k).2) := by
  rw [ost, if_neg (by unfold ohit at h; rw [h]; simp), if_neg hf]

theorem page_at {l : List Int} (hl : inPages l) {k : Nat} (hk : k < l.length) : 0 ≤ l[k]?.getD 0 ∧ l[k]?.getD 0 < 16 := by
  rw [List.getElem?_eq_getElem hk]; exact hl _ (List.getElem_mem hk)
theorem ost_pages {s : Nat} {l : List Int} (hl : inPages l) : ∀ k, k ≤ l.length → inPages (ost s l k).1
  | 0, _ => by intro p hp; simp [ost] at hp
  | k + 1, hk => by
    have ih := ost_pages hl (s := s) k (by omega)
    have hp := page_at hl (k := k) (by omega)
    intro q hq
    cases hh : ohit s l k
    · by_cases hf : (ost s l k).1.length = s
      · rw [ost_full hh hf] at hq
        rcases List.mem_append.1 hq with h | h
        · exact ih q (List.mem_of_mem_erase h)
        · rw [List.mem_singleton.1 h]; exact hp
      · rw [ost_room hh hf] at hq
        rcases List.mem_append.1 hq with h | h
        · exact ih q h
        · rw [List.mem_singleton.1 h]; exact hp
    · rw [ost_hit hh] at hq; exact ih q hq
theorem ost_pick {s : Nat} {l : List Int} (hs : 1 ≤ s) (hl : inPages l) {k : Nat} (hk : k ≤ l.length) (hf : (ost s l k).1.length = s) : IsPick l k (ost s l k).1 (pick l k (ost s l k).1) :=
  pick_is (ost_pages hl k hk) (by intro e; rw [e] at hf; simp at hf; omega)

theorem sched_opt {s : Nat} {l : List Int} (hs : 1 ≤ s) (hl : inPages l) : Sched s l fun k => (ost s l k).1 := by
  refine Sched.steps rfl fun k hk hn hle => ?_
  cases hh : ohit s l k
  · have hp := out_of_not hh
    by_cases hf : (ost s l k).1.length = s
    · have hb := (ost_pick hs hl (by omega) hf).1
      rw [ost_full hh hf]
      refine ⟨nodup_behind (hn.erase _) (fun h => hp (List.mem_of_mem_erase h)), ?_, by simp, fun p h => ?_⟩
      · simp only
        rw [List.length_append, List.length_singleton, List.length_erase_of_mem hb]; omega
      · rcases List.mem_append.1 h with h | h
        · exact .inr (List.mem_of_mem_erase h)
        · exact .inl (List.mem_singleton.1 h)
    · rw [ost_room hh hf]
      refine ⟨nodup_behind hn hp, ?_, by simp, fun p h => ?_⟩
      · simp only
        rw [List.length_append, List.length_singleton]; omega
      · rcases List.mem_append.1 h with h | h
        · exact .inr h
        · exact .inl (List.mem_singleton.1 h)
  · rw [ost_hit hh]
    exact ⟨hn, hle, List.contains_iff_mem.1 hh, fun p h => .inr h⟩
theorem hits_opt (s : Nat) (l : List Int) : hitOf l (fun k => (ost s l k).1) = ohit s l := rfl
theorem best_opt {s : Nat} {l : List Int} (hs : 1 ≤ s) (hl : inPages l) : Best s l fun k => (ost s l k).1 := by
  intro k hk
  have hS := sched_opt (s := s) hs hl
  have hn : (ost s l k).1.Nodup := hS.nd k (by omega)
  simp only
  cases hh : ohit s l k
  · have hp := out_of_not hh
    by_cases hf : (ost s l k).1.length = s
    · obtain ⟨h1, h2⟩ := ost_pick hs hl (k := k) (by omega) hf
      refine .inr ⟨pick l k (ost s l k).1, h1, hp, hf, fun q hq => ?_, fun p hp hne => ?_⟩
      · have := h2 q hq; omega
      · rw [ost_full hh hf]
        exact List.mem_append.2 (.inl ((hn.mem_erase_iff).2 ⟨hne, hp⟩))
    · refine .inl fun p hp => ?_
      rw [ost_room hh hf]
      exact List.mem_append.2 (.inl hp)
  · refine .inl fun p hp => ?_
    rw [ost_hit hh]; exact hp

theorem ost_count {s : Nat} {l : List Int} (hs : 1 ≤ s) (hl : inPages l) : ∀ k, k ≤ l.length → (ost s l k).2.length + (ost s l k).1.length + hcount (ohit s l) k = k
  | 0, _ => rfl
  | k + 1, hk => by
    have ih := ost_count hs hl k (by omega)
    simp only [hcount]
    cases hh : ohit s l k
    · by_cases hf : (ost s l k).1.length = s
      · have hb := (ost_pick hs hl (k := k) (by omega) hf).1
        rw [ost_full hh hf]
        simp only [List.length_append, List.length_singleton, List.length_erase_of_mem hb]
        simp
        omega
      · rw [ost_room hh hf]
        simp only [List.length_append, List.length_singleton]
        simp
        omega
    · rw [ost_hit hh]
      simp
      omega
theorem ost_gone (s : Nat) (l : List Int) (k : Nat) : ∀ m, k ≤ m → (ost s l k).2 <+: (ost s l m).2
  | 0, h => by rw [show k = 0 by omega]; exact List.prefix_rfl
  | m + 1, h => by
    by_cases e : k = m + 1
    · rw [e]; exact List.prefix_rfl
    · have ih := ost_gone s l k m (by omega)
      refine ih.trans ?_
      cases hh : ohit s l m
      · by_cases hf : (ost s l m).1.length = s
        · rw [ost_full hh hf]; exact List.prefix_append _ _
        · rw [ost_room hh hf]; exact List.prefix_rfl
      · rw [ost_hit hh]; exact List.prefix_rfl

theorem inPages_take {l : List Int} (h : inPages l) (n : Nat) : inPages (l.take n) := fun p hp => h p (List.mem_of_mem_take hp)
theorem inPages_drop {l : List Int} (h : inPages l) (n : Nat) : inPages (l.drop n) := fun p hp => h p (List.mem_of_mem_drop hp)
theorem inPages_reverse {l : List Int} (h : inPages l) : inPages l.reverse := fun p hp => h p (List.mem_reverse.1 hp)

/-- How often a page was not there. -/
def omiss (s : Nat) (l : List Int) : Nat := missed (marks (ohit s l) l.length) (marks (ohit s l) l.length).length
theorem omiss_count (s : Nat) (l : List Int) : omiss s l + hcount (ohit s l) l.length = l.length := missed_hcount _ _
theorem omiss_least {s : Nat} {l : List Int} (hs : 1 ≤ s) (hl : inPages l) {B : Nat → List Int} (hB : Sched s l B) {n : Nat} (hn : n + hcount (hitOf l B) l.length = l.length) : omiss s l ≤ n := by
  have h1 := best_most (sched_opt hs hl) hB (best_opt hs hl)
  rw [hits_opt] at h1
  have := omiss_count s l
  omega
theorem omiss_more {s : Nat} {l : List Int} (hs : 1 ≤ s) (hl : inPages l) : omiss (s+1) l ≤ omiss s l :=
  omiss_least (by omega) hl ((sched_opt hs hl).wider (Nat.le_succ s)) (omiss_count s l)
theorem omiss_turned {s : Nat} {l : List Int} (hs : 1 ≤ s) (hl : inPages l) : omiss s l.reverse = omiss s l := by
  have h := best_turned (sched_opt hs hl) (best_opt hs hl) (sched_opt hs (inPages_reverse hl)) (best_opt hs (inPages_reverse hl))
  rw [hits_opt, hits_opt] at h
  have h1 := omiss_count s l
  have h2 := omiss_count s l.reverse
  rw [List.length_reverse] at h2
  omega
theorem omiss_begin {s n : Nat} {l : List Int} (hs : 1 ≤ s) (hl : inPages l) (hn : n ≤ l.length) : omiss s (l.take n) ≤ omiss s l ∧ omiss s l ≤ omiss s (l.take n) + omiss s (l.drop n) := by
  have c := omiss_count s l
  have ct := omiss_count s (l.take n)
  have cd := omiss_count s (l.drop n)
  have lt : (l.take n).length = n := by rw [List.length_take]; omega
  have ld : (l.drop n).length = l.length - n := List.length_drop
  constructor
  · have hb := (sched_opt (s := s) hs hl).begin hn
    have h1 := best_most (sched_opt hs (inPages_take hl n)) hb (best_opt hs (inPages_take hl n))
    rw [hits_opt, lt, hits_begin, hits_opt] at h1
    have h2 := hcount_add (ohit s l) n (l.length - n)
    rw [show n + (l.length - n) = l.length by omega] at h2
    have h3 := hcount_lt (fun i => ohit s l (n + i)) (l.length - n)
    rw [lt] at ct
    omega
  · have hB := sched_opt (s := s) hs (inPages_drop hl n)
    have h0 := (sched_opt (s := s) hs (inPages_take hl n)).andThen hn hB
    have h1 := best_most (sched_opt hs hl) h0 (best_opt hs hl)
    have h2 := hits_andThen (A := fun k => (ost s (l.take n) k).1) hn hB
    rw [hits_opt, hits_opt] at h2
    rw [hits_opt] at h1
    rw [lt] at ct
    rw [ld] at cd
    omega
end Go.Proofs.Ytedmfehjifknbaa
