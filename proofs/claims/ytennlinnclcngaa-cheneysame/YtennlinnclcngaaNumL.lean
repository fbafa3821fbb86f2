/- Lists alone: nodes that are just what is come to, as a number; a list without doubles, place by place. -/
import Derived.Test.YtennlinnclcngaaGSpread
import Derived.Test.YtennlinnclcngaaWsetL
namespace Go.Proofs.Ytennlinnclcngaa
open Go.RowKit Go.Sort

theorem num_come {L : List (List Int)} {R S A : List Int} {m : Nat} (hf : FineH L R) (hS : ∀ x, x ∈ S → 0 ≤ x ∧ x < L.length) (h1 : A.Nodup) (h2 : ∀ x, x ∈ A ↔ Come (gOf L) S x) (hm : Comes L S m) : setN A = m := by
  have h16 : allIn A := fun x hx => by have := hf.come hS ((h2 x).1 hx); have := hf.few; omega
  have hk := setN_msk h1 h16
  refine Nat.eq_of_testBit_eq fun i => ?_
  by_cases hi : i < 16
  · rw [Bool.eq_iff_iff, hk.2 i hi, hm.2 i hi, h2]
  · rw [Nat.testBit_lt_two_pow (Nat.lt_of_lt_of_le hk.1 (Nat.pow_le_pow_right (n := 2) (by omega) (show 16 ≤ i by omega))), Nat.testBit_lt_two_pow (Nat.lt_of_lt_of_le hm.1 (Nat.pow_le_pow_right (n := 2) (by omega) (show 16 ≤ i by omega)))]
theorem nodup_take {A : List Int} (h : A.Nodup) {k : Nat} (hk : k < A.length) : A[k] ∉ A.take k := by
  intro hm
  have h2 : (A.take k ++ A.drop k).Nodup := by rw [List.take_append_drop]; exact h
  rw [List.drop_eq_getElem_cons hk] at h2
  exact (List.nodup_append.1 h2).2.2 _ hm _ (List.mem_cons_self ..) rfl
end Go.Proofs.Ytennlinnclcngaa
