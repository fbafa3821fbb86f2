/- The walk of larderwicksame.Misses: how many marks are not set. -/
import Derived.Test.YtedmfehjifknbaaLists
namespace Go.Proofs.Ytedmfehjifknbaa
open Go.RowKit Go.Sort

set_option maxHeartbeats 400000 in
theorem misses_any (v : Value) (l : List Bool) (w : World) (hv : IsBools w v l) :
    Calls Try.prog 14 #[v] w fun e w' => e = .returned (.int .i64 (missed l l.length)) ∧ w' = w := by
  rcases hv with ⟨rfl, ao, cap, rfl, hcap⟩ | ⟨b, off, cap, rfl, hpos, hlc, hcap, hc⟩
  · go_enter Try.func14, Try.ntmps14
    go_wp2
    go_loop [3, 4] (fun n i => n = .int .i64 0 ∧ i = .int .i64 0) (fun _ _ => 0)
    case atStart => exact ⟨rfl, rfl⟩
    case round =>
      obtain ⟨rfl, rfl⟩ := hrel
      go_wp2
      go_ret
      exact ⟨rfl, rfl⟩
  · unfold maxLen at hcap
    have HC : Hid (∀ j, j < l.length → w.cell? ⟨b, off + j, none⟩ = some (.bool (l[j]?.getD false))) := hc
    clear hc
    go_enter Try.func14, Try.ntmps14
    go_wp2
    go_loop [3, 4] (fun n i => ∃ k : Nat, k ≤ l.length ∧ i = .int .i64 k ∧ n = .int .i64 (missed l k)) (fun _ i => l.length - (intOf i).toNat)
    case atStart => exact ⟨0, by omega, rfl, by simp [missed]⟩
    case round =>
      obtain ⟨k, hk, rfl, rfl⟩ := hrel
      have hml := missed_le l k
      by_cases hlt : k < l.length
      · have hck := HC.out k hlt
        have HM : Hid (missed l (k+1) = missed l k + (if l[k]?.getD false then 0 else 1)) := missed_succ hlt
        cases hb : l[k]?.getD false
        · rw [hb] at hck HM
          have HM : Hid (missed l (k+1) = missed l k + 1) := HM
          clear hb
          generalize missed l k = n at *
          go_wp2
          go_round
          case rel => exact ⟨k + 1, by omega, by go_num, by rw [HM.out]; go_num⟩
          case measure => simp [intOf]; omega
        · rw [hb] at hck HM
          have HM : Hid (missed l (k+1) = missed l k) := HM
          clear hb
          generalize missed l k = n at *
          go_wp2
          go_round
          case rel => exact ⟨k + 1, by omega, by go_num, by rw [HM.out]⟩
          case measure => simp [intOf]; omega
      · have HE : Hid (missed l l.length = missed l k) := by unfold Hid; rw [show l.length = k by omega]
        generalize missed l k = n at *
        go_wp2
        go_ret
        exact ⟨by rw [HE.out]; rfl, rfl⟩
end Go.Proofs.Ytedmfehjifknbaa
