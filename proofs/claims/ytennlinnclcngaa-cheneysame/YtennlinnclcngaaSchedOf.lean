/- Lists alone: who goes by what came first, by the last asking, by letting go of all: each is a schedule. -/
import Derived.Test.YtennlinnclcngaaScheds
import Derived.Test.YtennlinnclcngaaQueue
import Derived.Test.YtennlinnclcngaaFull
import Derived.Test.YtennlinnclcngaaEmptied
import Derived.Test.YtennlinnclcngaaMissedL
namespace Go.Proofs.Ytennlinnclcngaa

theorem missed_hcount (f : Nat → Bool) (n : Nat) : missed (marks f n) (marks f n).length + hcount f n = n := by
  induction n with
  | zero => rfl
  | succ n ih =>
    rw [marks_length] at ih ⊢
    have h1 : missed (marks f (n+1)) (n+1) = missed (marks f n) n + (if f n then 0 else 1) := by
      unfold missed
      rw [List.take_of_length_le (by rw [marks_length]; exact Nat.le_refl _), List.take_of_length_le (by rw [marks_length]; exact Nat.le_refl _), marks_succ, List.filter_append, List.length_append]
      cases f n <;> simp
    simp only [hcount]
    rw [h1]
    cases f n <;> simp <;> omega

/-- A schedule, step by step. -/
theorem Sched.steps {s : Nat} {l : List Int} {H : Nat → List Int} (h0 : H 0 = []) (h : ∀ k, k < l.length → (H k).Nodup → (H k).length ≤ s → (H (k+1)).Nodup ∧ (H (k+1)).length ≤ s ∧ l[k]?.getD 0 ∈ H (k+1) ∧ ∀ p, p ∈ H (k+1) → p = l[k]?.getD 0 ∨ p ∈ H k) : Sched s l H := by
  have inv : ∀ k, k ≤ l.length → (H k).Nodup ∧ (H k).length ≤ s := by
    intro k
    induction k with
    | zero => intro _; rw [h0]; exact ⟨List.nodup_nil, Nat.zero_le _⟩
    | succ k ih =>
      intro hk
      have i := ih (by omega)
      have j := h k (by omega) i.1 i.2
      exact ⟨j.1, j.2.1⟩
  exact ⟨h0, fun k hk => (inv k hk).1, fun k hk => (inv k hk).2, fun k hk => (h k hk (inv k (by omega)).1 (inv k (by omega)).2).2.2.1, fun k hk => (h k hk (inv k (by omega)).1 (inv k (by omega)).2).2.2.2⟩
theorem nodup_behind {A : List Int} {p : Int} (h : A.Nodup) (hp : p ∉ A) : (A ++ [p]).Nodup := by
  rw [List.nodup_append]
  refine ⟨h, by simp, fun a ha b hb => ?_⟩
  rw [List.mem_singleton] at hb; subst hb
  intro e; subst e; exact hp ha
theorem out_of_not {A : List Int} {p : Int} (h : A.contains p = false) : p ∉ A := fun hm => by rw [List.contains_iff_mem.2 hm] at h; cases h

theorem sched_fifo {s : Nat} (hs : 1 ≤ s) (l : List Int) : Sched s l fun k => lastn s (came s l k) := by
  refine Sched.steps (lastn_nil s) fun k hk hn hl => ?_
  cases hh : fhit s l k
  · have hp := out_of_not hh
    rw [held_miss hs hh]
    have hlen := lastn_length s (came s l k)
    unfold comesIn
    have hsub : ∀ p, p ∈ (if (lastn s (came s l k)).length = s then (lastn s (came s l k)).drop 1 else lastn s (came s l k)) → p ∈ lastn s (came s l k) := by
      intro p hp
      split at hp
      · exact List.mem_of_mem_drop hp
      · exact hp
    refine ⟨nodup_behind ?_ (fun h => hp (hsub _ h)), ?_, by simp, fun p h => ?_⟩
    · split
      · exact hn.sublist (List.drop_sublist _ _)
      · exact hn
    · rw [List.length_append, List.length_singleton]
      split
      · rw [List.length_drop]; omega
      · omega
    · rcases List.mem_append.1 h with h | h
      · exact .inr (hsub p h)
      · exact .inl (List.mem_singleton.1 h)
  · rw [held_hit hh]
    exact ⟨hn, hl, List.contains_iff_mem.1 hh, fun p h => .inr h⟩
theorem hits_fifo (s : Nat) (l : List Int) : hitOf l (fun k => lastn s (came s l k)) = fhit s l := rfl

theorem sched_lru {s : Nat} (hs : 1 ≤ s) (l : List Int) : Sched s l fun k => (full (l.take k)).take s := by
  refine ⟨by simp [full, mru], fun k _ => (full_nodup _).sublist (List.take_sublist _ _), fun k _ => List.length_take_le _ _, fun k hk => ?_, fun k hk p hp => ?_⟩
  · obtain ⟨n, rfl⟩ : ∃ n, s = n + 1 := ⟨s - 1, by omega⟩
    rw [full_succ hk, List.take_succ_cons]; simp
  · obtain ⟨n, rfl⟩ : ∃ n, s = n + 1 := ⟨s - 1, by omega⟩
    rw [full_succ hk, List.take_succ_cons, List.mem_cons] at hp
    rcases hp with hp | hp
    · exact .inl hp
    · refine .inr ?_
      generalize full (l.take k) = F at *
      generalize l[k]?.getD 0 = x at *
      by_cases hx : x ∈ F.take (n+1)
      · rw [take_erase_in hx] at hp
        exact List.mem_of_mem_erase hp
      · have h2 : F.take n = (F.take (n+1)).take n := by rw [List.take_take, Nat.min_eq_left (by omega)]
        have h3 : x ∉ F.take n := fun h => hx (by rw [h2] at h; exact List.mem_of_mem_take h)
        rw [take_erase_out h3, h2] at hp
        exact List.mem_of_mem_take hp
theorem hits_lru (s : Nat) (l : List Int) : hitOf l (fun k => (full (l.take k)).take s) = hitAt s l := rfl

theorem sched_flush {s : Nat} (hs : 1 ≤ s) (l : List Int) : Sched s l (since s l) := by
  refine Sched.steps rfl fun k hk hn hl => ?_
  cases hh : ehit s l k
  · have hp := out_of_not hh
    rw [since_miss hh]
    unfold letsGo
    by_cases hf : (since s l k).length = s
    · rw [if_pos hf]
      exact ⟨by simp, by simpa using hs, by simp, fun p h => .inl (by simpa using h)⟩
    · rw [if_neg hf]
      refine ⟨nodup_behind hn hp, by simp; omega, by simp, fun p h => ?_⟩
      rcases List.mem_append.1 h with h | h
      · exact .inr h
      · exact .inl (List.mem_singleton.1 h)
  · rw [since_hit hh]
    exact ⟨hn, hl, List.contains_iff_mem.1 hh, fun p h => .inr h⟩
theorem hits_flush (s : Nat) (l : List Int) : hitOf l (since s l) = ehit s l := rfl
end Go.Proofs.Ytennlinnclcngaa
