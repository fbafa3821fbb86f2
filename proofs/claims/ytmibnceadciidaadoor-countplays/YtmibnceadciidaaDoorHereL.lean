/- Lists alone: the nodes that are here, as the document's answer gathers them. -/
import Derived.Test.YtmibnceadciidaaDoorCHere
import Derived.Test.YtmibnceadciidaaDoorSetN
namespace Go.Proofs.YtmibnceadciidaaDoor

def hereL (c : KS) : Nat → List Int
  | 0 => []
  | k + 1 => if c.isN k then hereL c k ++ [(k : Int)] else hereL c k
theorem hereL_len (c : KS) : ∀ k, (hereL c k).length ≤ k
  | 0 => Nat.le_refl _
  | k + 1 => by
    have h := hereL_len c k
    unfold hereL
    split
    · rw [List.length_append, List.length_singleton]; omega
    · omega
theorem hereL_in (c : KS) : ∀ k, k ≤ 16 → allIn (hereL c k)
  | 0, _ => fun x hx => by simp [hereL] at hx
  | k + 1, hk => fun x hx => by
    have h := hereL_in c k (by omega)
    unfold hereL at hx
    split at hx
    · rcases List.mem_append.1 hx with h1 | h1
      · exact h x h1
      · rw [List.mem_singleton] at h1; omega
    · exact h x hx
theorem hereL_set (c : KS) : ∀ k, setN (hereL c k) = hereM c k
  | 0 => rfl
  | k + 1 => by
    have h := hereL_set c k
    have hm := (hereM_bit c k).1
    unfold hereL hereM
    split
    · rw [setN_append, h]
      simp only [setN, Int.toNat_natCast, Nat.add_zero]
      have := Nat.two_pow_add_eq_or_of_lt hm 1
      rw [Nat.mul_one] at this
      rw [Nat.or_comm, ← this]
      omega
    · exact h
theorem doK_num {c : KS} {kind i j : Int} (h : kind ≠ 0) : (c.doK kind i j).2.1 = 0 := by
  unfold KS.doK
  rw [if_neg h]
  repeat' split
  all_goals rfl
end Go.Proofs.YtmibnceadciidaaDoor
