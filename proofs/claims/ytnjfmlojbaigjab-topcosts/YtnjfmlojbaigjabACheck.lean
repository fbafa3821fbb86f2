/- The walk of acks.Check. -/
import Derived.Test.YtnjfmlojbaigjabASorted
namespace Go.Proofs.Ytnjfmlojbaigjab
set_option maxRecDepth 100000
open Go.RowKit

set_option maxHeartbeats 2000000 in
theorem acheck_any (v : Value) (l : List Int) (p : Int) (w : World) (hv : IsInts w v l) :
    Calls Try.prog 25 #[v, .int .i64 p] w fun e w' => e = .returned (errV (chkA l p)) ∧ ∃ q, w' = w.drewN q := by
  have HV : Hid (IsInts w v l) := hv
  obtain ⟨ao, cap, rfl, hcap, ho⟩ := hv.opened
  have HO : Hid (∀ k, k < l.length → ∃ b off, ao = some ⟨b, off, none⟩ ∧ l.length ≤ cap ∧ b < w.heap.size ∧ ∀ j, j < l.length → w.cell? ⟨b, off + j, none⟩ = some (.int .i64 (l[j]?.getD 0))) := ho
  clear ho hv
  unfold maxLen at hcap
  by_cases h1 : 20 < l.length
  · have HK : Hid (chkA l p = 4) := chkA_long h1
    go_enter Try.func25, Try.ntmps25
    go_wp2
    go_ret
    exact ⟨by rw [HK.out]; rfl, 0, rfl⟩
  have hl20 : l.length ≤ 20 := by omega
  clear h1
  rcases (by omega : p < 1 ∨ (1 ≤ p ∧ p ≤ 20) ∨ 20 < p) with h | ⟨h1, h2⟩ | h
  all_goals
    go_enter Try.func25, Try.ntmps25
    go_wp2
    go_loop [6, 13] (fun _ i => ∃ k : Nat, k ≤ l.length ∧ i = .int .i64 k ∧ Hid ((l.take k).any badT = false)) (fun _ i => l.length - (intOf i).toNat)
    case atStart => exact ⟨0, by omega, rfl, by simp [Hid]⟩
    case round =>
      obtain ⟨k, hk, rfl, HB⟩ := hrel
      by_cases hlt : k < l.length
      · obtain ⟨b, off, rfl, hlc, _, hcell⟩ := HO.out k hlt
        have hck := hcell k hlt
        clear hcell
        generalize hp : l[k]?.getD 0 = t at *
        have HP : Hid (l[k]?.getD 0 = t) := hp
        clear hp
        rcases (by omega : t < 0 ∨ (0 ≤ t ∧ t ≤ 1000) ∨ 1000 < t) with g | ⟨g1, g2⟩ | g
        · go_wp2
          go_ret
          exact ⟨by rw [chkA_time hl20 (any_hereA hlt (by rw [HP.out]; simp [badT]; omega))]; rfl, 0, rfl⟩
        · go_wp2
          go_round
          case rel => exact ⟨k + 1, by omega, by go_num, any_nextA hlt HB.out (by rw [HP.out]; simp [badT]; omega)⟩
          case measure => simp [intOf]; omega
        · go_wp2
          go_ret
          exact ⟨by rw [chkA_time hl20 (any_hereA hlt (by rw [HP.out]; simp [badT]; omega))]; rfl, 0, rfl⟩
      · have hany : l.any badT = false := by have := HB.out; rwa [List.take_of_length_le (by omega)] at this
        have HA : Hid (l.any badT = false) := hany
        clear hany HB
        first
        | (go_wp2
           go_ret
           exact ⟨by rw [chkA_price hl20 (by omega)]; rfl, 0, rfl⟩)
        | (cases hr : decide (rising l) with
           | true =>
             have HC : Hid (chkA l p = 0) := chkA_ok hl20 HA.out ⟨h1, h2⟩ (of_decide_eq_true hr)
             have HR : Hid (decide (rising l) = true) := hr
             clear hr
             go_wp2_with (go_at_call 51; go_must (refine (sorted_any _ l _ hl20 HV.out).mono ?_; rintro e w' ⟨rfl, hw⟩; rw [HR.out]; obtain ⟨q, hq⟩ := hw; subst hq))
             go_ret
             exact ⟨by rw [HC.out]; rfl, _, rfl⟩
           | false =>
             have HC : Hid (chkA l p = 6) := chkA_clash hl20 HA.out ⟨h1, h2⟩ (of_decide_eq_false hr)
             have HR : Hid (decide (rising l) = false) := hr
             clear hr
             go_wp2_with (go_at_call 51; go_must (refine (sorted_any _ l _ hl20 HV.out).mono ?_; rintro e w' ⟨rfl, hw⟩; rw [HR.out]; obtain ⟨q, hq⟩ := hw; subst hq))
             go_ret
             exact ⟨by rw [HC.out]; rfl, _, rfl⟩)
end Go.Proofs.Ytnjfmlojbaigjab
