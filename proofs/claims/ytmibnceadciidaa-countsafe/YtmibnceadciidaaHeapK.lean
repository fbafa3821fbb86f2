/- Lists alone, for chapter 17: what is wrong with a heap. -/
import Derived.Test.YtmibnceadciidaaAnewL
namespace Go.Proofs.Ytmibnceadciidaa

def badN (n : Nat) (x : Int) : Bool := decide (x < 0) || decide ((n : Int) ≤ x)
/-- What is wrong with the pointers of one node. -/
def hRow (n : Nat) (r : List Int) : Nat := if 4 < r.length then 4 else if r.any (badN n) then 1 else 0
def hRows (n : Nat) : List (List Int) → Nat
  | [] => 0
  | r :: t => if hRow n r = 0 then hRows n t else hRow n r
def chkH (L : List (List Int)) (R : List Int) : Nat := if 12 < L.length ∨ 12 < R.length then 4 else if R.any (badN L.length) then 1 else hRows L.length L
theorem hRow_cases (n : Nat) (r : List Int) : hRow n r = 0 ∨ hRow n r = 1 ∨ hRow n r = 4 := by
  unfold hRow
  repeat' split
  all_goals simp
theorem hRows_cases (n : Nat) : ∀ L, hRows n L = 0 ∨ hRows n L = 1 ∨ hRows n L = 4
  | [] => by simp [hRows]
  | r :: t => by
    rw [hRows]
    split
    · exact hRows_cases n t
    · exact hRow_cases n r
theorem chkH_cases (L : List (List Int)) (R : List Int) : chkH L R = 0 ∨ chkH L R = 1 ∨ chkH L R = 4 := by
  unfold chkH
  repeat' split
  · simp
  · simp
  · exact hRows_cases _ _
theorem hRows_append {n : Nat} : ∀ {A B : List (List Int)}, hRows n A = 0 → hRows n (A ++ B) = hRows n B
  | [], _, _ => rfl
  | r :: t, B, h => by
    rw [hRows] at h
    rw [List.cons_append, hRows]
    split at h
    · rename_i h0
      rw [if_pos h0]; exact hRows_append h
    · rename_i h0
      exact absurd h h0
theorem rowAt_of {L : List (List Int)} {k : Nat} (hk : k < L.length) : L[k]?.getD [] = L[k] := by rw [List.getElem?_eq_getElem hk]; rfl
theorem hRows_next {n : Nat} {L : List (List Int)} {k : Nat} (hk : k < L.length) (h0 : hRows n (L.take k) = 0) (h : hRow n (L[k]?.getD []) = 0) : hRows n (L.take (k+1)) = 0 := by
  rw [rowAt_of hk] at h
  rw [List.take_succ_eq_append_getElem hk, hRows_append h0, hRows, if_pos h]; rfl
theorem hRows_here {n : Nat} {L : List (List Int)} {k : Nat} (hk : k < L.length) (h0 : hRows n (L.take k) = 0) (h : hRow n (L[k]?.getD []) ≠ 0) : hRows n L = hRow n (L[k]?.getD []) := by
  rw [rowAt_of hk] at h ⊢
  have e : L = L.take k ++ L[k] :: L.drop (k+1) := by rw [List.getElem_cons_drop, List.take_append_drop]
  have := hRows_append (n := n) (B := L[k] :: L.drop (k+1)) h0
  rw [← e, hRows, if_neg h] at this
  exact this
/-- What Check lets through. -/
structure FineH (L : List (List Int)) (R : List Int) : Prop where
  few : L.length ≤ 12
  roots : R.length ≤ 12
  root : ∀ x, x ∈ R → 0 ≤ x ∧ x < L.length
  outs : ∀ r, r ∈ L → r.length ≤ 4
  node : ∀ r, r ∈ L → ∀ x, x ∈ r → 0 ≤ x ∧ x < L.length
theorem badN_any {n : Nat} {l : List Int} : l.any (badN n) = false ↔ ∀ x, x ∈ l → 0 ≤ x ∧ x < n := by
  rw [List.any_eq_false]
  refine forall_congr' fun x => imp_congr_right fun _ => ?_
  simp [badN]
theorem hRow_zero {n : Nat} {r : List Int} : hRow n r = 0 ↔ r.length ≤ 4 ∧ ∀ x, x ∈ r → 0 ≤ x ∧ x < n := by
  unfold hRow
  rw [← badN_any]
  split
  · constructor
    · intro h; cases h
    · intro h; omega
  · cases h : r.any (badN n)
    · simp; omega
    · simp
theorem hRows_zero {n : Nat} : ∀ {L : List (List Int)}, hRows n L = 0 ↔ ∀ r, r ∈ L → hRow n r = 0
  | [] => by simp [hRows]
  | r :: t => by
    rw [hRows]
    split
    · rename_i h
      rw [hRows_zero (L := t)]
      simp [h]
    · rename_i h
      simp [h]
theorem chkH_zero {L : List (List Int)} {R : List Int} : chkH L R = 0 ↔ FineH L R := by
  unfold chkH
  split
  · rename_i h
    exact ⟨fun h => (by cases h), fun hf => by have := hf.few; have := hf.roots; omega⟩
  · rename_i h
    cases hb : R.any (badN L.length)
    · simp only [Bool.false_eq_true, if_false]
      rw [hRows_zero]
      constructor
      · intro h2
        exact ⟨by omega, by omega, badN_any.1 hb, fun r hr => (hRow_zero.1 (h2 r hr)).1, fun r hr => (hRow_zero.1 (h2 r hr)).2⟩
      · intro hf r hr
        exact hRow_zero.2 ⟨hf.outs r hr, hf.node r hr⟩
    · simp only [if_true]
      constructor
      · intro h2; cases h2
      · intro hf
        rw [badN_any.2 hf.root] at hb; cases hb
theorem FineH.root16 {L : List (List Int)} {R : List Int} (h : FineH L R) : ∀ x, x ∈ R → 0 ≤ x ∧ x < 16 := fun x hx => by
  have := h.root x hx; have := h.few; omega
theorem gOf_mem {L : List (List Int)} {x y : Int} (h : y ∈ gOf L x) : 0 ≤ x ∧ x < L.length ∧ L[x.toNat]?.getD [] ∈ L ∧ y ∈ L[x.toNat]?.getD [] := by
  unfold gOf at h
  split at h
  · rename_i h0
    by_cases hx : x.toNat < L.length
    · refine ⟨h0, by omega, ?_, h⟩
      rw [List.getElem?_eq_getElem hx]; exact List.getElem_mem hx
    · rw [List.getElem?_eq_none (by omega)] at h; simp at h
  · simp at h
theorem gOf_at {L : List (List Int)} (k : Nat) : gOf L (k : Int) = L[k]?.getD [] := by
  unfold gOf
  rw [if_pos (by omega)]; rfl
theorem gOf_out {L : List (List Int)} {x : Int} (h : x ∉ upTo L.length) : gOf L x = [] := by
  refine List.eq_nil_iff_forall_not_mem.2 fun y hy => h ?_
  have := gOf_mem hy
  exact upTo_mem.2 ⟨this.1, this.2.1⟩
theorem FineH.step {L : List (List Int)} {R : List Int} (h : FineH L R) {x y : Int} (hy : y ∈ gOf L x) : 0 ≤ y ∧ y < L.length := by
  obtain ⟨_, _, h1, h2⟩ := gOf_mem hy
  exact h.node _ h1 y h2
theorem FineH.come {L : List (List Int)} {R S : List Int} (h : FineH L R) (hS : ∀ x, x ∈ S → 0 ≤ x ∧ x < L.length) {x : Int} (hx : Come (gOf L) S x) : 0 ≤ x ∧ x < L.length :=
  Come.least (C := fun x => 0 ≤ x ∧ x < L.length) hS (fun _ _ _ hy => h.step hy) hx
theorem FineH.gOf16 {L : List (List Int)} {R : List Int} (h : FineH L R) (x : Int) : ∀ y, y ∈ gOf L x → 0 ≤ y ∧ y < 16 := fun y hy => by
  have := h.step hy; have := h.few; omega
/-- With other roots it is as well. -/
theorem FineH.with {L : List (List Int)} {R S : List Int} (h : FineH L R) (hs : S.length ≤ 12) (hS : ∀ x, x ∈ S → 0 ≤ x ∧ x < L.length) : FineH L S := ⟨h.few, hs, hS, h.outs, h.node⟩
end Go.Proofs.Ytmibnceadciidaa
