/- The walks of math/bits.OnesCount64 and OnesCount, at numbers of sixteen bits. -/
import Derived.Test.YtbnhlnjbgimibaaDoorMask
namespace Go.Proofs.YtbnhlnjbgimibaaDoor
open Go.RowKit

theorem u64_nat {n : Nat} (h : n < 18446744073709551616) : IntKind.u64.wrap (n : Int) = (n : Int) := by rw [IntKind.wrap_u64]; omega
theorem i64_nat {n : Nat} (h : n < 9223372036854775808) : IntKind.i64.wrap (n : Int) = (n : Int) := by rw [IntKind.wrap_i64]; omega
theorem wraps_i63 (n : Int) (h₀ : 0 ≤ n) (h₁ : n < 2 ^ 63) : IntKind.i64.wrap n = n := by rw [IntKind.wrap_i64]; omega
theorem i64_and_nat (a b : Nat) (ha : a < 9223372036854775808) (hb : b < 9223372036854775808) : bits .and .i64 (a : Int) (b : Int) = ((a &&& b : Nat) : Int) :=
  (bits_nat .i64 63 (by decide) wraps_i63 a b ha hb).1

/-- Two ands and a sum, as the count has them. -/
theorem sum_and {a d m : Nat} (ha : a < 1000000) (hm : m < 18446744073709551616) : IntKind.u64.wrap (bits .and .u64 ((a : Int) / (d : Int)) (m : Int) + bits .and .u64 (a : Int) (m : Int)) = (((a / d &&& m) + (a &&& m) : Nat) : Int) := by
  have h1 : a / d ≤ a := Nat.div_le_self a d
  have h2 : a / d &&& m ≤ a / d := Nat.and_le_left
  have h3 : a &&& m ≤ a := Nat.and_le_left
  rw [← Int.natCast_ediv, u64_and_nat _ _ (by omega) hm, u64_and_nat _ _ (by omega) hm, ← Int.natCast_add, u64_nat (by omega)]
theorem add_div {a d : Nat} (ha : a < 10000000) : IntKind.u64.wrap ((a : Int) + (a : Int) / (d : Int)) = ((a + a / d : Nat) : Int) := by
  have h1 : a / d ≤ a := Nat.div_le_self a d
  rw [← Int.natCast_ediv, ← Int.natCast_add, u64_nat (by omega)]
theorem div_add {a d : Nat} (ha : a < 10000000) : IntKind.u64.wrap ((a : Int) / (d : Int) + (a : Int)) = ((a / d + a : Nat) : Int) := by
  have h1 : a / d ≤ a := Nat.div_le_self a d
  rw [← Int.natCast_ediv, ← Int.natCast_add, u64_nat (by omega)]

set_option maxHeartbeats 1000000 in
theorem ones64_any (x : Nat) (hx : x < 65536) (w : World) :
    Calls Tryd.prog 22 #[.int .u64 x] w fun e w' => e = .returned (.int .i64 (ones x)) ∧ w' = w := by
  go_enter Tryd.func22, Tryd.ntmps22
  go_wp2
  go_ret
  refine ⟨?_, rfl⟩
  have hA := sum_and (a := x) (d := 2) (m := 6148914691236517205) (by omega) (by omega)
  have lA : (x / 2 &&& 6148914691236517205) + (x &&& 6148914691236517205) < 131072 := by
    have h1 : x / 2 &&& 6148914691236517205 ≤ x / 2 := Nat.and_le_left
    have h2 : x &&& 6148914691236517205 ≤ x := Nat.and_le_left
    omega
  have hO : ones x = (let a := (x / 2 &&& 6148914691236517205) + (x &&& 6148914691236517205)
    let b := (a / 4 &&& 3689348814741910323) + (a &&& 3689348814741910323)
    let c := (b / 16 + b) &&& 1085102592571150095
    let d := c + c / 256
    let e := d + d / 65536
    let f := e + e / 4294967296
    f &&& 127) := rfl
  rw [hO]
  clear hO
  simp only [Int.cast_ofNat_Int] at hA
  simp only [hA]
  generalize (x / 2 &&& 6148914691236517205) + (x &&& 6148914691236517205) = a at *
  clear hA
  have hB := sum_and (a := a) (d := 4) (m := 3689348814741910323) (by omega) (by omega)
  have lB : (a / 4 &&& 3689348814741910323) + (a &&& 3689348814741910323) < 262144 := by
    have h1 : a / 4 &&& 3689348814741910323 ≤ a / 4 := Nat.and_le_left
    have h2 : a &&& 3689348814741910323 ≤ a := Nat.and_le_left
    omega
  simp only [Int.cast_ofNat_Int] at hB
  simp only [hB]
  generalize (a / 4 &&& 3689348814741910323) + (a &&& 3689348814741910323) = b at *
  clear hB
  have hC := div_add (a := b) (d := 16) (by omega)
  have lC : b / 16 + b < 524288 := by omega
  simp only [Int.cast_ofNat_Int] at hC
  simp only [hC]
  generalize b / 16 + b = c0 at *
  clear hC
  have hD := u64_and_nat c0 1085102592571150095 (by omega) (by omega)
  have lD : c0 &&& 1085102592571150095 ≤ c0 := Nat.and_le_left
  simp only [Int.cast_ofNat_Int] at hD
  simp only [hD]
  generalize c0 &&& 1085102592571150095 = c at *
  clear hD
  have hE := add_div (a := c) (d := 256) (by omega)
  have lE : c + c / 256 < 1048576 := by omega
  simp only [Int.cast_ofNat_Int] at hE
  simp only [hE]
  generalize c + c / 256 = d at *
  clear hE
  have hF := add_div (a := d) (d := 65536) (by omega)
  have lF : d + d / 65536 < 2097152 := by omega
  simp only [Int.cast_ofNat_Int] at hF
  simp only [hF]
  generalize d + d / 65536 = e at *
  clear hF
  have hG := add_div (a := e) (d := 4294967296) (by omega)
  have lG : e + e / 4294967296 < 4194304 := by omega
  simp only [Int.cast_ofNat_Int] at hG
  simp only [hG]
  generalize e + e / 4294967296 = f at *
  clear hG
  have hI := i64_and_nat f 127 (by omega) (by omega)
  simp only [Int.cast_ofNat_Int] at hI
  have hJ : wrap64 (f : Int) = (f : Int) := by unfold wrap64; omega
  rw [← hI, hJ]
  rfl

theorem ones_any (x : Nat) (hx : x < 65536) (w : World) :
    Calls Tryd.prog 19 #[.int .u64 x] w fun e w' => e = .returned (.int .i64 (ones x)) ∧ w' = w := by
  go_enter Tryd.func19, Tryd.ntmps19
  go_wp2_with (go_at_call 22; go_must (refine (ones64_any x hx _).mono ?_; rintro e w' ⟨rfl, hw⟩; have hw := hw.symm; subst hw))
  go_ret
  exact ⟨rfl, rfl⟩
end Go.Proofs.YtbnhlnjbgimibaaDoor
