/- The walk of landlord.Check. -/
import Derived.Test.YtedmfehjifknbaaDoorLandK
namespace Go.Proofs.YtedmfehjifknbaaDoor
set_option maxRecDepth 100000
open Go.RowKit

/-- A row of numbers, opened: its form, and its cells where there are any. -/
theorem IsInts.opened {w : World} {v : Value} {l : List Int} (h : IsInts w v l) : ∃ ao cap, v = .slice ao l.length cap ∧ cap ≤ maxLen ∧ ∀ k, k < l.length → ∃ b off, ao = some ⟨b, off, none⟩ ∧ l.length ≤ cap ∧ b < w.heap.size ∧ ∀ j, j < l.length → w.cell? ⟨b, off + j, none⟩ = some (.int .i64 (l[j]?.getD 0)) := by
  rcases h with ⟨rfl, ao, cap, rfl, hcap⟩ | ⟨b, off, cap, rfl, hpos, hlc, hcap, hc⟩
  · exact ⟨ao, cap, rfl, hcap, fun k hk => absurd hk (Nat.not_lt_zero _)⟩
  · exact ⟨_, cap, rfl, hcap, fun k _ => ⟨b, off, rfl, hlc, World.block_lt_of_cell? w _ (hc 0 hpos), hc⟩⟩

set_option maxHeartbeats 2000000 in
theorem lcheck_any (v vc : Value) (l c : List Int) (s : Int) (w : World) (hv : IsInts w v l) (hvc : IsInts w vc c) :
    Calls Tryd.prog 6 #[v, vc, .int .i64 s] w fun e w' => e = .returned (errV (chkC l c s)) ∧ w' = w := by
  obtain ⟨ao, cap, rfl, hcap, ho⟩ := hv.opened
  obtain ⟨ac, cac, rfl, hcac, hoc⟩ := hvc.opened
  have HO : Hid (∀ k, k < l.length → ∃ b off, ao = some ⟨b, off, none⟩ ∧ l.length ≤ cap ∧ b < w.heap.size ∧ ∀ j, j < l.length → w.cell? ⟨b, off + j, none⟩ = some (.int .i64 (l[j]?.getD 0))) := ho
  have HOC : Hid (∀ k, k < c.length → ∃ b off, ac = some ⟨b, off, none⟩ ∧ c.length ≤ cac ∧ b < w.heap.size ∧ ∀ j, j < c.length → w.cell? ⟨b, off + j, none⟩ = some (.int .i64 (c[j]?.getD 0))) := hoc
  clear ho hoc hv hvc
  unfold maxLen at hcap hcac
  by_cases h1 : 40 < l.length
  · have HK : Hid (chkC l c s = 4) := chkC_long (.inl h1)
    go_enter Tryd.func6, Tryd.ntmps6
    go_wp2
    go_ret
    exact ⟨by rw [HK.out]; rfl, rfl⟩
  have hl40 : l.length ≤ 40 := by omega
  clear h1
  by_cases h2 : 6 < c.length
  · have HK : Hid (chkC l c s = 4) := chkC_long (.inr h2)
    go_enter Tryd.func6, Tryd.ntmps6
    go_wp2
    go_ret
    exact ⟨by rw [HK.out]; rfl, rfl⟩
  have hc6 : c.length ≤ 6 := by omega
  clear h2
  rcases (by omega : s < 1 ∨ (1 ≤ s ∧ s ≤ 8) ∨ 8 < s) with h | ⟨h1, h2⟩ | h
  all_goals
    go_enter Tryd.func6, Tryd.ntmps6
    go_wp2
    go_loop [8, 22] (fun _ i => ∃ k : Nat, k ≤ c.length ∧ i = .int .i64 k ∧ Hid ((c.take k).any badC = false)) (fun _ i => c.length - (intOf i).toNat)
    case atStart => exact ⟨0, by omega, rfl, by simp [Hid]⟩
    case round =>
      obtain ⟨k, hk, rfl, HB⟩ := hrel
      by_cases hlt : k < c.length
      · obtain ⟨b, off, rfl, hlc, _, hcell⟩ := HOC.out k hlt
        have hck := hcell k hlt
        clear hcell
        generalize hp : c[k]?.getD 0 = p at *
        have HP : Hid (c[k]?.getD 0 = p) := hp
        clear hp
        rcases (by omega : p < 0 ∨ (0 ≤ p ∧ p ≤ 20) ∨ 20 < p) with g | ⟨g1, g2⟩ | g
        · go_wp2
          go_ret
          exact ⟨by rw [chkC_cost hl40 hc6 (any_here hlt (by rw [HP.out]; simp [badC]; omega))]; rfl, rfl⟩
        · go_wp2
          go_round
          case rel => exact ⟨k + 1, by omega, by go_num, any_succ hlt HB.out (by rw [HP.out]; simp [badC]; omega)⟩
          case measure => simp [intOf]; omega
        · go_wp2
          go_ret
          exact ⟨by rw [chkC_cost hl40 hc6 (any_here hlt (by rw [HP.out]; simp [badC]; omega))]; rfl, rfl⟩
      · have hany : c.any badC = false := by have := HB.out; rwa [List.take_of_length_le (by omega)] at this
        have HA : Hid (c.any badC = false) := hany
        clear hany HB
        go_wp2
        go_loop [10, 36] (fun _ i => ∃ k : Nat, k ≤ l.length ∧ i = .int .i64 k ∧ Hid ((l.take k).any (badP c.length) = false)) (fun _ i => l.length - (intOf i).toNat)
        case atStart => exact ⟨0, by omega, rfl, by simp [Hid]⟩
        case round =>
          obtain ⟨j, hj, rfl, HB⟩ := hrel
          by_cases hlj : j < l.length
          · obtain ⟨b, off, rfl, hlc, _, hcell⟩ := HO.out j hlj
            have hck := hcell j hlj
            clear hcell
            generalize hp : l[j]?.getD 0 = p at *
            have HP : Hid (l[j]?.getD 0 = p) := hp
            clear hp
            rcases (by omega : p < 0 ∨ (0 ≤ p ∧ p < c.length) ∨ c.length ≤ p) with g | ⟨g1, g2⟩ | g
            · go_wp2
              go_ret
              exact ⟨by rw [chkC_page hl40 hc6 (any_here hlj (by rw [HP.out]; simp [badP]; omega))]; rfl, rfl⟩
            · go_wp2
              go_round
              case rel => exact ⟨j + 1, by omega, by go_num, any_succ hlj HB.out (by rw [HP.out]; simp [badP]; omega)⟩
              case measure => simp [intOf]; omega
            · go_wp2
              go_ret
              exact ⟨by rw [chkC_page hl40 hc6 (any_here hlj (by rw [HP.out]; simp [badP]; omega))]; rfl, rfl⟩
          · have hany : l.any (badP c.length) = false := by have := HB.out; rwa [List.take_of_length_le (by omega)] at this
            have HP : Hid (l.any (badP c.length) = false) := hany
            clear hany HB
            go_wp2
            go_ret
            first
            | exact ⟨by rw [chkC_slots hl40 hc6 (by omega)]; rfl, rfl⟩
            | exact ⟨by rw [chkC_ok hl40 hc6 HA.out HP.out ⟨h1, h2⟩]; rfl, rfl⟩
end Go.Proofs.YtedmfehjifknbaaDoor
