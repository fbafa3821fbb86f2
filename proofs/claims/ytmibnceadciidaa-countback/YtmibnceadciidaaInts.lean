/- The walk of larderwicksame.Ints where both lists hold the same. -/
import Derived.Test.YtmibnceadciidaaBase
import Derived.Deep.QuietTactic
import Derived.BigQuiet
namespace Go.Proofs.Ytmibnceadciidaa
open Go.RowKit

set_option maxHeartbeats 400000 in
theorem ints_same (v v2 : Value) (l : List Int) (w : World) (hv : IsInts w v l) (hv2 : IsInts w v2 l) :
    Calls Try.prog 34 #[v, v2] w fun e w' => e = .returned (.bool true) ∧ ∃ n, w' = w.drewN n := by
  rcases hv with ⟨rfl, ao, cap, rfl, hcap⟩ | ⟨b, off, cap, rfl, hpos, hlc, hcap, hc⟩
  · rcases hv2 with ⟨_, ao2, cap2, rfl, hcap2⟩ | ⟨b2, off2, cap2, rfl, hpos2, hlc2, hcap2, hc2⟩
    · go_enter Try.func34, Try.ntmps34
      go_wp2
      go_loop [5] (fun i => i = .int .i64 0) (fun _ => 0)
      case atStart => rfl
      case round =>
        obtain rfl := hrel
        go_wp2
        go_ret
        exact ⟨rfl, 0, rfl⟩
    · simp at hpos2
  · rcases hv2 with ⟨h0, _⟩ | ⟨b2, off2, cap2, rfl, hpos2, hlc2, hcap2, hc2⟩
    · subst h0; simp at hpos
    · unfold maxLen at hcap hcap2
      have HC : Hid (∀ j, j < l.length → w.cell? ⟨b, off + j, none⟩ = some (.int .i64 (l[j]?.getD 0))) := hc
      have HC2 : Hid (∀ j, j < l.length → w.cell? ⟨b2, off2 + j, none⟩ = some (.int .i64 (l[j]?.getD 0))) := hc2
      clear hc hc2
      go_enter Try.func34, Try.ntmps34
      go_wp2
      go_loopw [5] (fun i wr => ∃ k q : Nat, k ≤ l.length ∧ i = .int .i64 k ∧ wr = w.drewN q) (fun i _ => l.length - (intOf i).toNat)
      case atStart => exact ⟨0, 0, by omega, rfl, rfl⟩
      case round =>
        obtain ⟨k, q, hk, rfl, rfl⟩ := hrel
        by_cases hlt : k < l.length
        · have hck := HC.out k hlt
          have hck2 := HC2.out k hlt
          generalize l[k]?.getD 0 = p at *
          have hpp : (p != p) = false := by simp
          go_wp2
          go_quiet (fail)
          go_wp2
          go_roundw
          case rel => exact ⟨k + 1, _, by omega, by go_num, rfl⟩
          case measure => simp [intOf]; omega
        · go_wp2
          go_ret
          exact ⟨rfl, q, rfl⟩

end Go.Proofs.Ytmibnceadciidaa
