/- Lists alone, for chapter 17: how graph.Reach goes: as many turns as there are nodes, in each of which each node that is there gives what it points to. -/
import Derived.Test.YtmibnceadciidaaLists
namespace Go.Proofs.Ytmibnceadciidaa

/-- What one node does to the nodes found so far. -/
def spreadStep (g : Int → List Int) (A : List Int) (x : Int) : List Int := if A.contains x then addNew A (g x) else A
/-- One turn. -/
def spreadPass (g : Int → List Int) : List Int → List Int → List Int
  | A, [] => A
  | A, x :: r => spreadPass g (spreadStep g A x) r
/-- So many turns. -/
def spreadAll (g : Int → List Int) (nodes : List Int) (A : List Int) : Nat → List Int
  | 0 => A
  | n + 1 => spreadPass g (spreadAll g nodes A n) nodes
theorem spreadPass_snoc (g : Int → List Int) : ∀ (A l : List Int) (x : Int), spreadPass g A (l ++ [x]) = spreadStep g (spreadPass g A l) x
  | _, [], _ => rfl
  | A, y :: r, x => by rw [List.cons_append, spreadPass, spreadPass, spreadPass_snoc]
theorem spreadStep_prefix (g : Int → List Int) (A : List Int) (x : Int) : ∃ B, spreadStep g A x = A ++ B := by
  unfold spreadStep
  split
  · exact addNew_prefix _ _
  · exact ⟨[], by simp⟩
theorem spreadPass_prefix (g : Int → List Int) : ∀ (l A : List Int), ∃ B, spreadPass g A l = A ++ B
  | [], A => ⟨[], by simp [spreadPass]⟩
  | x :: r, A => by
    obtain ⟨B, hB⟩ := spreadStep_prefix g A x
    obtain ⟨C, hC⟩ := spreadPass_prefix g r (spreadStep g A x)
    exact ⟨B ++ C, by rw [spreadPass, hC, hB, List.append_assoc]⟩
theorem spreadStep_nodup {g : Int → List Int} {A : List Int} {x : Int} (h : A.Nodup) : (spreadStep g A x).Nodup := by
  unfold spreadStep
  split
  · exact addNew_nodup h
  · exact h
theorem spreadPass_nodup {g : Int → List Int} : ∀ {l A : List Int}, A.Nodup → (spreadPass g A l).Nodup
  | [], _, h => h
  | _ :: r, _, h => spreadPass_nodup (l := r) (spreadStep_nodup h)
theorem spreadStep_come {g : Int → List Int} {R A : List Int} {x : Int} (h : ∀ y, y ∈ A → Come g R y) : ∀ y, y ∈ spreadStep g A x → Come g R y := fun y hy => by
  unfold spreadStep at hy
  split at hy
  · rename_i hx
    rcases addNew_mem.1 hy with h1 | h1
    · exact h y h1
    · exact .step (h x (List.contains_iff_mem.1 hx)) h1
  · exact h y hy
theorem spreadPass_come {g : Int → List Int} {R : List Int} : ∀ {l A : List Int}, (∀ y, y ∈ A → Come g R y) → ∀ y, y ∈ spreadPass g A l → Come g R y
  | [], _, h => h
  | _ :: r, _, h => spreadPass_come (l := r) (spreadStep_come h)
/-- Where a turn finds nothing new, nothing is left to find. -/
theorem spreadPass_still {g : Int → List Int} : ∀ {l A : List Int}, (spreadPass g A l).length = A.length → ∀ x, x ∈ l → x ∈ A → ∀ y, y ∈ g x → y ∈ A
  | [], _, _ => fun x hx => by simp at hx
  | z :: r, A, h => by
    obtain ⟨B, hB⟩ := spreadStep_prefix g A z
    obtain ⟨C, hC⟩ := spreadPass_prefix g r (spreadStep g A z)
    rw [spreadPass] at h
    have hl : B.length = 0 ∧ C.length = 0 := by rw [hC, hB, List.length_append, List.length_append] at h; omega
    have e : spreadStep g A z = A := by rw [hB, List.eq_nil_of_length_eq_zero hl.1, List.append_nil]
    rw [e] at h
    have ih := spreadPass_still h
    intro x hx hA y hy
    rcases List.mem_cons.1 hx with rfl | hx
    · unfold spreadStep at e
      rw [if_pos (List.contains_iff_mem.2 hA)] at e
      rw [← e]
      exact addNew_mem.2 (.inr hy)
    · exact ih x hx hA y hy
theorem addNew_same {A : List Int} : ∀ {l : List Int}, (∀ y, y ∈ l → y ∈ A) → addNew A l = A
  | [], _ => rfl
  | y :: r, h => by rw [addNew, if_pos (List.contains_iff_mem.2 (h y (by simp)))]; exact addNew_same fun z hz => h z (by simp [hz])
theorem spreadPass_same {g : Int → List Int} {A : List Int} (h : ∀ x, x ∈ A → ∀ y, y ∈ g x → y ∈ A) : ∀ l, spreadPass g A l = A
  | [] => rfl
  | x :: r => by
    have e : spreadStep g A x = A := by
      unfold spreadStep
      split
      · rename_i hx; exact addNew_same (h x (List.contains_iff_mem.1 hx))
      · rfl
    rw [spreadPass, e]; exact spreadPass_same h r
theorem spreadAll_nodup {g : Int → List Int} {nodes A : List Int} (h : A.Nodup) : ∀ n, (spreadAll g nodes A n).Nodup
  | 0 => h
  | n + 1 => spreadPass_nodup (spreadAll_nodup h n)
theorem spreadAll_come {g : Int → List Int} {nodes A R : List Int} (h : ∀ y, y ∈ A → Come g R y) : ∀ n y, y ∈ spreadAll g nodes A n → Come g R y
  | 0 => h
  | n + 1 => spreadPass_come (spreadAll_come h n)
theorem spreadAll_keep {g : Int → List Int} {nodes A : List Int} : ∀ n y, y ∈ A → y ∈ spreadAll g nodes A n
  | 0, _, h => h
  | n + 1, y, h => by
    obtain ⟨B, hB⟩ := spreadPass_prefix g nodes (spreadAll g nodes A n)
    rw [spreadAll, hB]
    exact List.mem_append_left _ (spreadAll_keep n y h)
theorem spreadAll_grows {g : Int → List Int} {nodes A : List Int} (hg : ∀ x, x ∉ nodes → g x = []) : ∀ n, (∀ x, x ∈ spreadAll g nodes A n → ∀ y, y ∈ g x → y ∈ spreadAll g nodes A n) ∨ A.length + n ≤ (spreadAll g nodes A n).length
  | 0 => .inr (Nat.le_refl _)
  | n + 1 => by
    rcases spreadAll_grows (A := A) hg n with h | h
    · left
      rw [spreadAll, spreadPass_same h]; exact h
    · obtain ⟨B, hB⟩ := spreadPass_prefix g nodes (spreadAll g nodes A n)
      by_cases hl : B.length = 0
      · left
        have e : spreadPass g (spreadAll g nodes A n) nodes = spreadAll g nodes A n := by rw [hB, List.eq_nil_of_length_eq_zero hl, List.append_nil]
        have hs := spreadPass_still (g := g) (l := nodes) (A := spreadAll g nodes A n) (by rw [e])
        rw [spreadAll, e]
        intro x hx y hy
        by_cases hn : x ∈ nodes
        · exact hs x hn hx y hy
        · rw [hg x hn] at hy; simp at hy
      · right
        rw [spreadAll, hB, List.length_append]; omega
/-- As many turns as there are nodes are enough. -/
theorem spread_all {g : Int → List Int} {nodes A R : List Int} (hg : ∀ x, x ∉ nodes → g x = []) (hA : A.Nodup) (hR : ∀ y, y ∈ A ↔ y ∈ R) (hn : ∀ x, Come g R x → x ∈ nodes) (x : Int) : x ∈ spreadAll g nodes A nodes.length ↔ Come g R x := by
  have hc := spreadAll_come (g := g) (nodes := nodes) (A := A) (R := R) (fun y hy => .root ((hR y).1 hy)) nodes.length
  refine ⟨hc x, fun hx => ?_⟩
  rcases spreadAll_grows (A := A) hg nodes.length with h | h
  · exact Come.least (C := fun x => x ∈ spreadAll g nodes A nodes.length) (fun y hy => spreadAll_keep _ y ((hR y).2 hy)) (fun u y hu hy => h u hu y hy) hx
  · have := length_le_of_subset (spreadAll_nodup (g := g) (nodes := nodes) hA nodes.length) fun p hp => hn p (hc p hp)
    have hA0 : A = [] := List.eq_nil_of_length_eq_zero (by omega)
    subst hA0
    refine absurd (Come.least (C := fun _ => False) (fun y hy => by have := (hR y).2 hy; simp at this) (fun _ _ h _ => h) hx) id
end Go.Proofs.Ytmibnceadciidaa
