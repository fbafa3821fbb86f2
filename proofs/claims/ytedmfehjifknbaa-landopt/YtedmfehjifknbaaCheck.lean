/- The walk of play.Check. -/
import Derived.Test.YtedmfehjifknbaaBase
namespace Go.Proofs.Ytedmfehjifknbaa
open Go.RowKit

theorem any_take_succ {l : List Int} {k : Nat} (h : k < l.length) (h0 : (l.take k).any bad = false) (hb : bad (l[k]?.getD 0) = false) : (l.take (k+1)).any bad = false := by
  rw [List.take_succ_eq_append_getElem h, List.any_append, h0]
  simp [List.getElem?_eq_getElem h] at hb ⊢
  exact hb
theorem any_of_getD {l : List Int} {k : Nat} (h : k < l.length) (hb : bad (l[k]?.getD 0) = true) : l.any bad = true := by
  rw [List.any_eq_true]
  exact ⟨l[k], List.getElem_mem h, by simpa [List.getElem?_eq_getElem h] using hb⟩

theorem chk_long {l : List Int} {s : Int} (h : 40 < l.length) : chk l s = 4 := by simp [chk, h]
theorem chk_bad {l : List Int} {s : Int} (h : l.length ≤ 40) (hb : l.any bad = true) : chk l s = 1 := by
  simp [chk, hb, Nat.not_lt.2 h]
theorem chk_slots {l : List Int} {s : Int} (h : l.length ≤ 40) (hb : s < 1 ∨ 8 < s) : chk l s = 1 := by
  simp [chk, hb, Nat.not_lt.2 h]
theorem chk_ok {l : List Int} {s : Int} (h : l.length ≤ 40) (hb : l.any bad = false) (hs : 1 ≤ s ∧ s ≤ 8) : chk l s = 0 := by
  have : ¬ (s < 1 ∨ 8 < s) := by omega
  simp [chk, hb, Nat.not_lt.2 h, this]

set_option maxHeartbeats 400000 in
theorem check_any (v : Value) (l : List Int) (s : Int) (w : World) (hv : IsInts w v l) :
    Calls Try.prog 26 #[v, .int .i64 s] w fun e w' => e = .returned (errV (chk l s)) ∧ w' = w := by
  rcases hv with ⟨rfl, ao, cap, rfl, hcap⟩ | ⟨b, off, cap, rfl, hpos, hlc, hcap, hc⟩
  · rcases (by omega : s < 1 ∨ (1 ≤ s ∧ s ≤ 8) ∨ 8 < s) with h | ⟨h1, h2⟩ | h
    all_goals
      go_enter Try.func26, Try.ntmps26
      go_wp2
      go_loop [13] (fun i => i = .int .i64 0) (fun _ => 0)
      case atStart => rfl
      case round =>
        subst hrel
        go_wp2
        go_ret
        first
        | exact ⟨by rw [chk_slots (by simp) (by omega)]; rfl, rfl⟩
        | exact ⟨by rw [chk_ok (by simp) (by simp) ⟨h1, h2⟩]; rfl, rfl⟩
  · by_cases hlong : 40 < l.length
    · have HL := chk_long (s := s) hlong
      have hL : Hid (chk l s = 4) := HL
      clear HL
      unfold maxLen at hcap
      go_enter Try.func26, Try.ntmps26
      go_wp2
      go_ret
      exact ⟨by rw [hL.out]; rfl, rfl⟩
    · have hshort : l.length ≤ 40 := by omega
      clear hlong
      unfold maxLen at hcap
      have HC : Hid (∀ j, j < l.length → w.cell? ⟨b, off + j, none⟩ = some (.int .i64 (l[j]?.getD 0))) := hc
      clear hc
      rcases (by omega : s < 1 ∨ (1 ≤ s ∧ s ≤ 8) ∨ 8 < s) with h | ⟨h1, h2⟩ | h
      all_goals
        go_enter Try.func26, Try.ntmps26
        go_wp2
        go_loop [6, 13] (fun _ i => ∃ k : Nat, k ≤ l.length ∧ i = .int .i64 k ∧ (l.take k).any bad = false) (fun _ i => l.length - (intOf i).toNat)
        case atStart => exact ⟨0, by omega, rfl, by simp⟩
        case round =>
          obtain ⟨k, hk, rfl, hb0⟩ := hrel
          have HB : Hid ((l.take k).any bad = false) := hb0
          clear hb0
          by_cases hlt : k < l.length
          · have hck := HC.out k hlt
            generalize hp : l[k]?.getD 0 = p at *
            have HP : Hid (l[k]?.getD 0 = p) := hp
            clear hp
            rcases (by omega : p < 0 ∨ (0 ≤ p ∧ p < 16) ∨ 16 ≤ p) with g | ⟨g1, g2⟩ | g
            · go_wp2
              go_ret
              exact ⟨by rw [chk_bad hshort (any_of_getD hlt (by rw [HP.out]; simp [bad]; omega))]; rfl, rfl⟩
            · go_wp2
              go_round
              case rel => exact ⟨k + 1, by omega, by go_num, any_take_succ hlt HB.out (by rw [HP.out]; simp [bad]; omega)⟩
              case measure => simp [intOf]; omega
            · go_wp2
              go_ret
              exact ⟨by rw [chk_bad hshort (any_of_getD hlt (by rw [HP.out]; simp [bad]; omega))]; rfl, rfl⟩
          · have hany : l.any bad = false := by have := HB.out; rwa [List.take_of_length_le (by omega)] at this
            have HA : Hid (l.any bad = false) := hany
            clear hany
            go_wp2
            go_ret
            first
            | exact ⟨by rw [chk_slots hshort (by omega)]; rfl, rfl⟩
            | exact ⟨by rw [chk_ok hshort HA.out ⟨h1, h2⟩]; rfl, rfl⟩
end Go.Proofs.Ytedmfehjifknbaa
