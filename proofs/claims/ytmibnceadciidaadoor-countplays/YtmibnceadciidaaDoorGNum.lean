/- Numbers alone: sets of nodes as bits. -/
import Derived.Test.YtmibnceadciidaaDoorMask
namespace Go.Proofs.YtmibnceadciidaaDoor
set_option maxRecDepth 100000
open Go.RowKit

theorem wraps64 (n : Int) (h₀ : 0 ≤ n) (h₁ : n < 2 ^ 63) : IntKind.i64.wrap n = n := by rw [IntKind.wrap_i64]; omega
theorem or64 (a b : Nat) (ha : a < 9223372036854775808) (hb : b < 9223372036854775808) : bits .or .i64 (a : Int) (b : Int) = ((a ||| b : Nat) : Int) :=
  (bits_nat .i64 63 (by decide) wraps64 a b ha hb).2
theorem and64 (a b : Nat) (ha : a < 9223372036854775808) (hb : b < 9223372036854775808) : bits .and .i64 (a : Int) (b : Int) = ((a &&& b : Nat) : Int) :=
  (bits_nat .i64 63 (by decide) wraps64 a b ha hb).1
theorem pow64 {n : Nat} (h : 2 ^ n < 65536) : wrap64 (2 ^ n) = ((2 ^ n : Nat) : Int) := by
  have e : (2 : Int) ^ n = ((2 ^ n : Nat) : Int) := by rw [Int.natCast_pow]; rfl
  rw [e]
  generalize 2 ^ n = x at *
  unfold wrap64
  omega
theorem bit64 {m i : Nat} (hm : m < 65536) : (bits .and .i64 ((m : Int) / 2 ^ i) 1 == 1) = m.testBit i := by
  have h1 : m / 2 ^ i ≤ m := Nat.div_le_self _ _
  have h2 := and64 (m / 2 ^ i) 1 (by omega) (by omega)
  rw [Nat.and_one_is_mod] at h2
  have e : bits .and .i64 ((m : Int) / 2 ^ i) 1 = ((m / 2 ^ i % 2 : Nat) : Int) := by
    rw [← h2, Int.natCast_ediv, Int.natCast_pow]; rfl
  rw [e, Nat.testBit_eq_decide_div_mod_eq, Bool.eq_iff_iff]
  simp only [beq_iff_eq, decide_eq_true_eq]
  omega

/-- A set of nodes as a number. -/
def setM (l : List Int) : Nat := l.foldl (fun m p => m ||| 2 ^ p.toNat) 0
theorem setM_take {l : List Int} {k : Nat} (h : k < l.length) : setM (l.take (k+1)) = setM (l.take k) ||| 2 ^ (l[k]?.getD 0).toNat := by
  unfold setM
  rw [List.take_succ_eq_append_getElem h, List.foldl_append, List.getElem?_eq_getElem h]; rfl
theorem setM_take_msk {l : List Int} (hl : allIn l) : ∀ k, k ≤ l.length → Msk (setM (l.take k)) (l.take k)
  | 0, _ => by rw [List.take_zero]; exact msk_nil
  | k + 1, h => by
    have ih := setM_take_msk hl k (by omega)
    have hp : 0 ≤ l[k]?.getD 0 ∧ l[k]?.getD 0 < 16 := by rw [List.getElem?_eq_getElem (by omega)]; exact hl _ (List.getElem_mem _)
    have := msk_or ih hp.1 hp.2
    rw [setM_take (by omega)]
    rwa [List.take_succ_eq_append_getElem (by omega), ← Option.getD_some (a := l[k]) (b := 0), ← List.getElem?_eq_getElem (by omega)]
theorem setM_msk {l : List Int} (hl : allIn l) : Msk (setM l) l := by
  have := setM_take_msk hl l.length (Nat.le_refl _)
  rwa [List.take_length] at this
end Go.Proofs.YtmibnceadciidaaDoor
