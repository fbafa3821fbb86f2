/- Lists alone: what is found breadth first, step by step. -/
import Derived.Test.YtennlinnclcngaaDoorHeapK
namespace Go.Proofs.YtennlinnclcngaaDoor

theorem addNew_take {A l : List Int} {k : Nat} (hk : k < l.length) : addNew A (l.take (k+1)) = if (addNew A (l.take k)).contains (l[k]?.getD 0) then addNew A (l.take k) else addNew A (l.take k) ++ [l[k]?.getD 0] := by
  rw [List.take_succ_eq_append_getElem hk, addNew_snoc, List.getElem?_eq_getElem hk]; rfl
/-- Those found so far, each of which stands ahead of all that it has found. -/
def Ahead (g : Int → List Int) (S : List Int) (k : Nat) : Prop := ∀ j, j < k → j < (bfsA g S j).length
theorem bfs_next {g : Int → List Int} {S : List Int} {k : Nat} (h : Ahead g S k) (hk : k < (bfsA g S k).length) : Ahead g S (k+1) ∧ bfsA g S (k+1) = addNew (bfsA g S k) (g ((bfsA g S k)[k]?.getD 0)) :=
  ⟨fun j hj => (by
    by_cases e : j = k
    · subst e; exact hk
    · exact h j (by omega)), by rw [bfsA, if_pos hk]⟩
theorem bfs_few {L : List (List Int)} {R S : List Int} (hf : FineH L R) (hS : ∀ x, x ∈ S → 0 ≤ x ∧ x < L.length) {k : Nat} (h : Ahead (gOf L) S k) : (bfsA (gOf L) S k).length ≤ L.length ∧ ∀ x, x ∈ bfsA (gOf L) S k → 0 ≤ x ∧ x < L.length := by
  have hF := bfs_found (g := gOf L) (R := S) k h
  have h2 : ∀ x, x ∈ bfsA (gOf L) S k → 0 ≤ x ∧ x < L.length := fun x hx => hf.come hS (hF.come x hx)
  exact ⟨below_length hF.nodup h2, h2⟩
theorem addNew_few {L : List (List Int)} {A l : List Int} (hn : A.Nodup) (hA : ∀ x, x ∈ A → 0 ≤ x ∧ x < L.length) (hl : ∀ x, x ∈ l → 0 ≤ x ∧ x < L.length) : (addNew A l).length ≤ L.length :=
  below_length (addNew_nodup hn) fun x hx => (addNew_mem.1 hx).elim (hA x) (hl x)
theorem bfs_le {g : Int → List Int} {S : List Int} {k : Nat} : ∀ {m : Nat}, k ≤ m → ∃ D, bfsA g S m = bfsA g S k ++ D
  | 0, h => by
    obtain rfl : k = 0 := by omega
    exact ⟨[], by simp⟩
  | m + 1, h => by
    by_cases e : k = m + 1
    · subst e; exact ⟨[], by simp⟩
    · obtain ⟨D, hD⟩ := bfs_le (g := g) (S := S) (k := k) (m := m) (by omega)
      rw [bfsA]
      split
      · obtain ⟨E, hE⟩ := addNew_prefix (bfsA g S m) (g ((bfsA g S m)[m]?.getD 0))
        exact ⟨D ++ E, by rw [hE, hD, List.append_assoc]⟩
      · exact ⟨D, hD⟩
theorem bfs_ahead {g : Int → List Int} {S : List Int} {k : Nat} (h : Ahead g S k) : k ≤ (bfsA g S k).length := by
  cases k with
  | zero => exact Nat.zero_le _
  | succ k =>
    have h1 := h k (by omega)
    obtain ⟨D, hD⟩ := bfs_le (g := g) (S := S) (show k ≤ k + 1 by omega)
    rw [hD, List.length_append]; omega
theorem IsFrom.begins {g : Int → List Int} {S C : List Int} (h : IsFrom g S C) {k : Nat} (ha : Ahead g S k) : ∃ D, C = bfsA g S k ++ D := by
  obtain ⟨K, h1, h2, rfl⟩ := h
  refine bfs_le ?_
  refine Decidable.byContradiction fun hn => ?_
  have := ha K (by omega)
  omega
theorem IsFrom.ends {g : Int → List Int} {S C : List Int} (h : IsFrom g S C) {k : Nat} (ha : Ahead g S k) (hk : ¬ k < (bfsA g S k).length) : bfsA g S k = C :=
  IsFrom.det ⟨k, ha, by have := bfs_ahead ha; omega, rfl⟩ h
/-- On a fine heap it comes to an end. -/
theorem from_total {L : List (List Int)} {R S : List Int} (hf : FineH L R) (hS : ∀ x, x ∈ S → 0 ≤ x ∧ x < L.length) : ∃ C, IsFrom (gOf L) S C := by
  refine Classical.byContradiction fun hn => ?_
  have key : ∀ k, Ahead (gOf L) S k := fun k => by
    induction k with
    | zero => intro j hj; omega
    | succ k ih =>
      refine (bfs_next ih (Decidable.byContradiction fun hk => hn ⟨_, k, ih, ?_, rfl⟩)).1
      have := bfs_ahead ih
      omega
  have h1 := (bfs_few hf hS (key (L.length + 1))).1
  have h2 := bfs_ahead (key (L.length + 1))
  omega
end Go.Proofs.YtennlinnclcngaaDoor
