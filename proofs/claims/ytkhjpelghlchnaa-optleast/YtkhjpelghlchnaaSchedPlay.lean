/- Lists alone: what the store of chapter 1 holds is a schedule, whatever is let go of. -/
import Derived.Test.YtkhjpelghlchnaaSchedOf
import Derived.Test.YtkhjpelghlchnaaPlayL
namespace Go.Proofs.Ytkhjpelghlchnaa

/-- What is held behind k requests, and what is left of those to let go of. -/
def pst (s : Nat) (l out : List Int) : Nat → List Int × List Int
  | 0 => ([], out)
  | k + 1 =>
    if (pst s l out k).1.contains (l[k]?.getD 0) then pst s l out k
    else if (pst s l out k).1.length = s then ((pst s l out k).1.erase ((pst s l out k).2.headD 0) ++ [l[k]?.getD 0], (pst s l out k).2.tail)
    else ((pst s l out k).1 ++ [l[k]?.getD 0], (pst s l out k).2)

theorem pst_play {s : Nat} {l out : List Int} (h : (play s l out [] 0).2.2 = 0) : ∀ k, k ≤ l.length → play s l out [] 0 = play s (l.drop k) (pst s l out k).2 (pst s l out k).1 (k - hcount (hitOf l fun k => (pst s l out k).1) k) ∧
    (k < l.length → (pst s l out k).1.contains (l[k]?.getD 0) = false → (pst s l out k).1.length = s → (pst s l out k).2.headD 0 ∈ (pst s l out k).1)
  | 0, _ => by
    refine ⟨rfl, fun hk hm hs => ?_⟩
    have e : play s l out [] 0 = play s (l.drop 0) out [] 0 := rfl
    rw [e] at h
    have hm' : ([] : List Int).contains (l[0]?.getD 0) = false := hm
    have hs' : ([] : List Int).length = s := hs
    cases out with
    | nil => rw [play_shape hk hm' hs'] at h; cases h
    | cons o out => rw [play_none hk hm' hs' (by simp)] at h; cases h
  | k + 1, hk => by
    have hk' : k < l.length := by omega
    obtain ⟨ih, iv⟩ := pst_play h k (by omega)
    have hc := hcount_lt (hitOf l fun k => (pst s l out k).1) k
    have main : play s l out [] 0 = play s (l.drop (k+1)) (pst s l out (k+1)).2 (pst s l out (k+1)).1 (k + 1 - hcount (hitOf l fun k => (pst s l out k).1) (k+1)) := by
      have ec : hcount (hitOf l fun k => (pst s l out k).1) (k+1) = hcount (hitOf l fun k => (pst s l out k).1) k + (if (pst s l out k).1.contains (l[k]?.getD 0) then 1 else 0) := rfl
      rw [ec, ih]
      rw [ih] at h
      generalize hcount (hitOf l fun k => (pst s l out k).1) k = c at *
      by_cases hm : (pst s l out k).1.contains (l[k]?.getD 0) = true
      · rw [play_hit hk' hm, if_pos hm, pst, if_pos hm, show k + 1 - (c + 1) = k - c by omega]
      · have hm' : (pst s l out k).1.contains (l[k]?.getD 0) = false := by simpa using hm
        rw [if_neg hm, pst, if_neg hm, show k + 1 - (c + 0) = k - c + 1 by omega]
        by_cases hs : (pst s l out k).1.length = s
        · rw [if_pos hs]
          have hin := iv hk' hm' hs
          cases ho : (pst s l out k).2 with
          | nil => rw [ho, play_shape hk' hm' hs] at h; cases h
          | cons o o' =>
            rw [ho] at hin
            exact play_let hk' hm' hs hin
        · rw [if_neg hs]
          exact play_room hk' hm' hs
    refine ⟨main, fun hk2 hm hs => ?_⟩
    rw [main] at h
    cases ho : (pst s l out (k+1)).2 with
    | nil => rw [ho, play_shape hk2 hm hs] at h; cases h
    | cons o o' =>
      by_cases hin : o ∈ (pst s l out (k+1)).1
      · exact hin
      · rw [ho, play_none hk2 hm hs hin] at h; cases h

theorem sched_play {s : Nat} {l out : List Int} (hs : 1 ≤ s) (h : (play s l out [] 0).2.2 = 0) : Sched s l fun k => (pst s l out k).1 := by
  refine Sched.steps rfl fun k hk hn hl => ?_
  have hv := (pst_play h k (by omega)).2 hk
  by_cases hm : (pst s l out k).1.contains (l[k]?.getD 0) = true
  · rw [pst, if_pos hm]
    exact ⟨hn, hl, List.contains_iff_mem.1 hm, fun p h => .inr h⟩
  · have hm' : (pst s l out k).1.contains (l[k]?.getD 0) = false := by simpa using hm
    have hp := out_of_not hm'
    rw [pst, if_neg hm]
    by_cases hf : (pst s l out k).1.length = s
    · rw [if_pos hf]
      have hin := hv hm' hf
      refine ⟨nodup_behind (hn.erase _) (fun h => hp (List.mem_of_mem_erase h)), ?_, by simp, fun p h => ?_⟩
      · simp only
        rw [List.length_append, List.length_singleton, List.length_erase_of_mem hin]; omega
      · rcases List.mem_append.1 h with h | h
        · exact .inr (List.mem_of_mem_erase h)
        · exact .inl (List.mem_singleton.1 h)
    · rw [if_neg hf]
      refine ⟨nodup_behind hn hp, ?_, by simp, fun p h => ?_⟩
      · simp only
        rw [List.length_append, List.length_singleton]; omega
      · rcases List.mem_append.1 h with h | h
        · exact .inr h
        · exact .inl (List.mem_singleton.1 h)
theorem play_count {s : Nat} {l out : List Int} (h : (play s l out [] 0).2.2 = 0) : (play s l out [] 0).1 + hcount (hitOf l fun k => (pst s l out k).1) l.length = l.length := by
  have h1 := (pst_play h l.length (Nat.le_refl _)).1
  have h2 := hcount_lt (hitOf l fun k => (pst s l out k).1) l.length
  rw [List.drop_length] at h1
  have h3 : ∀ o H n, play s [] o H n = (n, H, 0) := fun o H n => by cases o <;> rfl
  rw [h1, h3]
  simp only
  omega
end Go.Proofs.Ytkhjpelghlchnaa
