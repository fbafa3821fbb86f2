/- The walks of least.Start, of a table's All, of landlord.store's many, of landlord.behind and of what landlord.Least hands on. -/
import Derived.Test.YtedmfehjifknbaaDoorOffer
import Derived.Deep.RegionWith
namespace Go.Proofs.YtedmfehjifknbaaDoor
set_option maxRecDepth 100000
open Go.RowKit Go.Maps

def S6.none : S6 := ⟨false, false, false, false, false, false⟩
def startT : S6 → Option Nat := fun s => if s = S6.none then some 0 else none
def S6.at (s : S6) : Nat → Bool
  | 0 => s.a | 1 => s.b | 2 => s.c | 3 => s.d | 4 => s.e | 5 => s.f | _ => false
def S6.to (s : S6) : Nat → Nat
  | 0 => 0
  | k + 1 => S6.to s k + (s.at k).toNat

set_option maxHeartbeats 1000000 in
theorem tall_any (b : Nat) (w : World) :
    Calls Tryd.prog 33 #[.agg #[.map (some b)]] w fun e w' => e = .returned (.func (.func 41) #[] #[.pointer (some ⟨w.heap.size, 0, none⟩)]) ∧ w' = w.alloc (.cells #[.map (some b)] 55) := by
  go_enter Tryd.func33, Tryd.ntmps33
  go_wp2
  go_ret
  exact ⟨rfl, rfl⟩
set_option maxHeartbeats 1000000 in
theorem behind_any (s : S6) (p c n : Int) (w : World) :
    Calls Tryd.prog 27 #[s.v, .int .i64 p, .int .i64 c, .int .i64 n] w fun e w' => e = .returned (.func (.func 35) #[] #[.pointer (some ⟨w.heap.size, 0, none⟩), .pointer (some ⟨w.heap.size + 1, 0, none⟩), .pointer (some ⟨w.heap.size + 3, 0, none⟩), .pointer (some ⟨w.heap.size + 2, 0, none⟩)]) ∧ w' = (((w.alloc (.cells s.cells 58)).alloc (.cells #[.int .i64 p] 3)).alloc (.cells #[.int .i64 c] 3)).alloc (.cells #[.int .i64 n] 3) := by
  go_enter Tryd.func27, Tryd.ntmps27
  go_wp2
  go_ret
  exact ⟨rfl, rfl⟩
theorem index_st0 (a b c d e f : Bool) (w : World) : (Instr.index 58 (.agg #[.bool a, .bool b, .bool c, .bool d, .bool e, .bool f]) (.int .i64 0)).run Tryd.prog w = .ok (.bool a) w := by kernel_rfl
theorem index_st1 (a b c d e f : Bool) (w : World) : (Instr.index 58 (.agg #[.bool a, .bool b, .bool c, .bool d, .bool e, .bool f]) (.int .i64 1)).run Tryd.prog w = .ok (.bool b) w := by kernel_rfl
theorem index_st2 (a b c d e f : Bool) (w : World) : (Instr.index 58 (.agg #[.bool a, .bool b, .bool c, .bool d, .bool e, .bool f]) (.int .i64 2)).run Tryd.prog w = .ok (.bool c) w := by kernel_rfl
theorem index_st3 (a b c d e f : Bool) (w : World) : (Instr.index 58 (.agg #[.bool a, .bool b, .bool c, .bool d, .bool e, .bool f]) (.int .i64 3)).run Tryd.prog w = .ok (.bool d) w := by kernel_rfl
theorem index_st4 (a b c d e f : Bool) (w : World) : (Instr.index 58 (.agg #[.bool a, .bool b, .bool c, .bool d, .bool e, .bool f]) (.int .i64 4)).run Tryd.prog w = .ok (.bool e) w := by kernel_rfl
theorem index_st5 (a b c d e f : Bool) (w : World) : (Instr.index 58 (.agg #[.bool a, .bool b, .bool c, .bool d, .bool e, .bool f]) (.int .i64 5)).run Tryd.prog w = .ok (.bool f) w := by kernel_rfl
theorem index_st (s : S6) (i : Nat) (hi : i < 6) (w : World) : (Instr.index 58 s.v (.int .i64 i)).run Tryd.prog w = .ok (.bool (s.at i)) w := by
  obtain ⟨a, b, c, d, e, f⟩ := s
  have : i = 0 ∨ i = 1 ∨ i = 2 ∨ i = 3 ∨ i = 4 ∨ i = 5 := by omega
  rcases this with rfl | rfl | rfl | rfl | rfl | rfl
  · exact index_st0 a b c d e f w
  · exact index_st1 a b c d e f w
  · exact index_st2 a b c d e f w
  · exact index_st3 a b c d e f w
  · exact index_st4 a b c d e f w
  · exact index_st5 a b c d e f w
theorem to_le (s : S6) : ∀ k, s.to k ≤ k
  | 0 => by simp [S6.to]
  | k + 1 => by
    have := to_le s k
    have h (x : Bool) : x.toNat ≤ 1 := by cases x <;> decide
    have := h (s.at k)
    rw [S6.to]; omega
set_option maxHeartbeats 1000000 in
theorem smany_any (s : S6) (w : World) :
    Calls Tryd.prog 36 #[s.v] w fun e w' => e = .returned (.int .i64 (s.to 6 : Nat)) ∧ w' = w.alloc (.cells s.cells 58) := by
  have HX : Hid (∀ k, k < 6 → ∀ w, (Instr.index 58 s.v (.int .i64 (k : Nat))).run Tryd.prog w = .ok (.bool (s.at k)) w) := fun k hk w => index_st s k hk w
  go_enter Tryd.func36, Tryd.ntmps36
  go_wp2
  go_loop [3, 5, 7] (fun n _ i => ∃ k : Nat, k ≤ 6 ∧ i = .int .i64 k ∧ n = .int .i64 (s.to k : Nat)) (fun _ _ i => 6 - (intOf i).toNat)
  case atStart => exact ⟨0, by omega, rfl, rfl⟩
  case round =>
    obtain ⟨k, hk, rfl, rfl⟩ := hrel
    have hm := to_le s k
    by_cases hlt : k < 6
    · have hix := HX.out k hlt
      have HS : Hid (s.to (k+1) = s.to k + (s.at k).toNat) := rfl
      generalize s.to k = m at *
      generalize s.at k = x at *
      cases x
      all_goals
        go_wp2
        go_round
        case rel => exact ⟨k + 1, by omega, by go_num, by rw [HS.out]; simp⟩
        case measure => simp [intOf]; omega
    · have hk6 : k = 6 := by omega
      subst hk6
      go_wp2
      go_ret
      exact ⟨rfl, rfl⟩
end Go.Proofs.YtedmfehjifknbaaDoor
