/- The walks of acks.waiting's many, of acks.behind and of what it hands on. -/
import Derived.Test.YtnjfmlojbaigjabAckS
import Derived.Deep.RegionWith
namespace Go.Proofs.Ytnjfmlojbaigjab
namespace Wt
set_option maxRecDepth 100000
open Go.RowKit Go.Maps Go.Shelf
attribute [local go_sem] Oper.semAt_some

theorem index_w (s : W20) (i : Nat) (hi : i < 20) (w : World) : (Instr.index 63 (.agg s.cells) (.int .i64 i)).run Try.prog w = .ok (.bool (s.at i)) w := by
  rcases twenty hi with rfl | rfl | rfl | rfl | rfl | rfl | rfl | rfl | rfl | rfl | rfl | rfl | rfl | rfl | rfl | rfl | rfl | rfl | rfl | rfl
  all_goals
    obtain ⟨b0, b1, b2, b3, b4, b5, b6, b7, b8, b9, b10, b11, b12, b13, b14, b15, b16, b17, b18, b19⟩ := s
    kernel_rfl

set_option maxHeartbeats 1000000 in
theorem wmany_any (s : W20) (w : World) :
    Calls Try.prog 56 #[s.v] w fun e w' => e = .returned (.int .i64 (s.to 20 : Nat)) ∧ w' = w.alloc (.cells s.cells 63) := by
  have HX : Hid (∀ k, k < 20 → ∀ w, (Instr.index 63 (.agg s.cells) (.int .i64 (k : Nat))).run Try.prog w = .ok (.bool (s.at k)) w) := fun k hk w => index_w s k hk w
  have hLS := Lies.new w s.cells 63
  go_enter Try.func56, Try.ntmps56
  go_wp2_with (refine wpList_load_waits rfl _ rfl _ rfl s hLS ?_)
  go_loop [3, 5, 7] (fun n _ i => ∃ k : Nat, k ≤ 20 ∧ i = .int .i64 k ∧ n = .int .i64 (s.to k : Nat)) (fun _ _ i => 20 - (intOf i).toNat)
  case atStart => exact ⟨0, by omega, rfl, rfl⟩
  case round =>
    obtain ⟨k, hk, rfl, rfl⟩ := hrel
    have hm := s.to_le k
    by_cases hlt : k < 20
    · have hix := HX.out k hlt
      have HS : Hid (s.to (k+1) = s.to k + (s.at k).toNat) := rfl
      generalize s.to k = m at *
      generalize s.at k = x at *
      cases x
      all_goals
        go_wp2
        go_round
        case rel => exact ⟨k + 1, by omega, by go_num, by rw [HS.out]; simp⟩
        case measure => simp [intOf]; omega
    · have hk6 : k = 20 := by omega
      subst hk6
      go_wp2
      go_ret
      exact ⟨rfl, rfl⟩
set_option maxHeartbeats 1000000 in
theorem wbehind_any (s : W20) (ao : Option Addr) (n cap : Nat) (k p : Int) (w : World) :
    Calls Try.prog 32 #[s.v, .slice ao n cap, .int .i64 k, .int .i64 p] w fun e w' => e = .returned (.func (.func 55) #[] #[.pointer (some ⟨w.heap.size + 3, 0, none⟩), .pointer (some ⟨w.heap.size + 2, 0, none⟩), .pointer (some ⟨w.heap.size + 1, 0, none⟩), .pointer (some ⟨w.heap.size, 0, none⟩)]) ∧ w' = (((w.alloc (.cells s.cells 63)).alloc (.cells #[.slice ao n cap] 22)).alloc (.cells #[.int .i64 k] 3)).alloc (.cells #[.int .i64 p] 3) := by
  go_enter Try.func32, Try.ntmps32
  go_wp2
  go_ret
  exact ⟨rfl, rfl⟩
end Wt
end Go.Proofs.Ytnjfmlojbaigjab
