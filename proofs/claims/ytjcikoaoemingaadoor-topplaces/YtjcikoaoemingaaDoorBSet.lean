/- The walks of the small functions of chapter 15: places as bits, the other half, what is no order. -/
import Derived.Test.YtjcikoaoemingaaDoorBObj
import Derived.Test.YtjcikoaoemingaaDoorQuietLast
import Derived.Laws.BitsAllLaws
namespace Go.Proofs.YtjcikoaoemingaaDoor
open Go.RowKit Go.Maps Go.Sort

theorem u64_nat {n : Nat} (h : n < 18446744073709551616) : IntKind.u64.wrap (n : Int) = (n : Int) := by rw [IntKind.wrap_u64]; omega
theorem ofInt_i64 (a : Nat) (ha : a < 18446744073709551616) : (BitVec.ofInt 64 (a : Int)).toNat = a := by
  rw [BitVec.ofInt_natCast, BitVec.toNat_ofNat]; exact Nat.mod_eq_of_lt (by omega)
theorem i64_xor_nat (a b : Nat) (ha : a < 9223372036854775808) (hb : b < 9223372036854775808) : bits .xor .i64 (a : Int) (b : Int) = ((a ^^^ b : Nat) : Int) := by
  have hx : a ^^^ b < 2 ^ 63 := Nat.xor_lt_two_pow (by omega) (by omega)
  show IntKind.i64.wrap ((BitVec.ofInt 64 (a : Int) ^^^ BitVec.ofInt 64 (b : Int)).toNat : Int) = _
  rw [BitVec.toNat_xor, ofInt_i64 a (by omega), ofInt_i64 b (by omega), IntKind.wrap_i64]
  omega
theorem one_shl {n : Nat} (h : n < 64) : IntKind.u64.wrap (2 ^ n) = ((2 ^ n : Nat) : Int) := by
  rw [← u64_nat (one_lt h)]; norm_cast

theorem put_any (p : Addr) (x n : Nat) (hx : x < 18446744073709551616) (hn : n < 64) (w : World) (hc : w.cell? p = some (.int .u64 (x : Nat))) (hf : w.frozen? p = false) :
    Calls Tryd.prog 36 #[.pointer (some p), .int .i64 (n : Nat)] w fun e w' => e = .returned (.tuple #[]) ∧ ∃ q, w' = (w.drewN q).setCell p (.int .u64 ((x ||| 2 ^ n : Nat))) := by
  have hs := one_shl hn
  have h1 := one_lt hn
  go_enter Tryd.func36, Tryd.ntmps36
  refine wp_region_quiet_last 7 (by kernel_rfl) (by kernel_rfl) ?_
  simp only [List.take_succ_cons, List.take_zero, List.drop_succ_cons, List.drop_zero]
  repeat (go_big_quiet_step (fail))
  refine wpQuiet_nil ?_
  intro _ hw'
  obtain ⟨nq, hw''⟩ := hw'
  subst hw''
  go_wp2
  go_end0
  refine ⟨rfl, nq, ?_⟩
  rw [← u64_or_nat x _ hx h1]
  simp
theorem drop_any (p : Addr) (x n : Nat) (hx : x < 18446744073709551616) (hn : n < 64) (w : World) (hc : w.cell? p = some (.int .u64 (x : Nat))) (hf : w.frozen? p = false) :
    Calls Tryd.prog 39 #[.pointer (some p), .int .i64 (n : Nat)] w fun e w' => e = .returned (.tuple #[]) ∧ ∃ q, w' = (w.drewN q).setCell p (.int .u64 ((x &&& (18446744073709551615 - 2 ^ n) : Nat))) := by
  have hs := one_shl hn
  have h1 := one_lt hn
  go_enter Tryd.func39, Tryd.ntmps39
  refine wp_region_quiet_last 7 (by kernel_rfl) (by kernel_rfl) ?_
  simp only [List.take_succ_cons, List.take_zero, List.drop_succ_cons, List.drop_zero]
  repeat (go_big_quiet_step (fail))
  refine wpQuiet_nil ?_
  intro _ hw'
  obtain ⟨nq, hw''⟩ := hw'
  subst hw''
  go_wp2
  go_end0
  refine ⟨rfl, nq, ?_⟩
  rw [← u64_andNot_nat x _ hx h1]
  simp
theorem has_place (x n : Nat) (hx : x < 18446744073709551616) (hn : n < 64) (w : World) :
    Calls Tryd.prog 41 #[.int .u64 (x : Nat), .int .i64 (n : Nat)] w fun e w' => e = .returned (.bool (decide (x / 2 ^ n % 2 = 1))) ∧ w' = w := by
  have e : (bits BinOp.and IntKind.u64 ((x : Int) / 2 ^ n) 1 == 1) = decide (x / 2 ^ n % 2 = 1) := by
    have h1 : ((x : Int) / 2 ^ n) = ((x / 2 ^ n : Nat) : Int) := by norm_cast
    have h2 : x / 2 ^ n ≤ x := Nat.div_le_self _ _
    rw [h1, show (1 : Int) = ((1 : Nat) : Int) from rfl, u64_and_nat _ _ (by omega) (by omega), Nat.and_one_is_mod, Bool.eq_iff_iff]
    simp
    omega
  go_enter Tryd.func41, Tryd.ntmps41
  go_wp2
  go_ret
  exact ⟨by rw [← e]; rfl, rfl⟩
theorem half_any (p k : Nat) (h : Blk p k) (w : World) :
    Calls Tryd.prog 40 #[.int .i64 (p : Nat), .int .i64 (k : Nat)] w fun e w' => e = .returned (.int .i64 (mate p k : Nat)) ∧ w' = w := by
  have e : bits BinOp.xor IntKind.i64 (p : Int) (wrap64 (2 ^ min k 64)) = (mate p k : Nat) := by
    have hk : min k 64 = k := by have := h.1; omega
    have h1 := pow_le h.1
    have h0 := pow_pos2 k
    have h4 : k ≤ 6 := h.1
    have h2 : wrap64 (2 ^ k) = ((2 ^ k : Nat) : Int) := by
      have : ((2 ^ k : Nat) : Int) = 2 ^ k := by norm_cast
      rw [← this]
      unfold wrap64
      omega
    have h3 := h.2.2
    rw [hk, h2, i64_xor_nat _ _ (by omega) (by omega), xor_is_mate h]
  go_enter Tryd.func40, Tryd.ntmps40
  go_wp2
  go_ret
  exact ⟨by rw [← e]; rfl, rfl⟩
theorem none_any (k : Int) (w : World) :
    Calls Tryd.prog 37 #[.int .i64 k] w fun e w' => e = .returned (.bool (decide (k < 0) || decide (6 < k))) ∧ w' = w := by
  go_enter Tryd.func37, Tryd.ntmps37
  go_wp2
  all_goals go_ret
  all_goals exact ⟨rfl, rfl⟩
end Go.Proofs.YtjcikoaoemingaaDoor
