/- The walk of the document's answer: Set, a set as a number. -/
import Derived.Test.YtmibnceadciidaaDoorBase
import Derived.Test.YtmibnceadciidaaDoorSetN
namespace Go.Proofs.YtmibnceadciidaaDoor
open Go.RowKit

theorem setN_take {l : List Int} {k : Nat} (h : k < l.length) : setN (l.take (k+1)) = setN (l.take k) + 2 ^ (l[k]?.getD 0).toNat := by
  rw [List.take_succ_eq_append_getElem h, setN_append, List.getElem?_eq_getElem h]; rfl
theorem setN_most {l : List Int} (hl : allIn l) : ∀ k, k ≤ l.length → setN (l.take k) ≤ k * 65536
  | 0, _ => by simp [setN]
  | k + 1, h => by
    have ih := setN_most hl k (by omega)
    have hp : 0 ≤ l[k]?.getD 0 ∧ l[k]?.getD 0 < 16 := by rw [List.getElem?_eq_getElem (by omega)]; exact hl _ (List.getElem_mem _)
    have h2 := two_pow_lt hp.1 hp.2
    rw [setN_take (by omega)]
    omega

set_option maxHeartbeats 1000000 in
theorem refset_any (v : Value) (l : List Int) (w : World) (hv : IsInts w v l) (hl : allIn l) (h40 : l.length ≤ 40) :
    Calls Tryd.prog 16 #[v] w fun e w' => e = .returned (.int .i64 (setN l)) ∧ w' = w := by
  have HA : Hid (allIn l) := hl
  clear hl
  rcases hv with ⟨rfl, ao, cap, rfl, hcap⟩ | ⟨b, off, cap, rfl, hpos, hlc, hcap, hc⟩
  · go_enter Tryd.func16, Tryd.ntmps16
    go_wp2
    go_loop [3, 4] (fun n i => i = .int .i64 0 ∧ n = .int .i64 0) (fun _ _ => 0)
    case atStart => exact ⟨rfl, rfl⟩
    case round =>
      obtain ⟨rfl, rfl⟩ := hrel
      go_wp2
      go_ret
      exact ⟨rfl, rfl⟩
  · unfold maxLen at hcap
    have HC : Hid (∀ j, j < l.length → w.cell? ⟨b, off + j, none⟩ = some (.int .i64 (l[j]?.getD 0))) := hc
    clear hc
    go_enter Tryd.func16, Tryd.ntmps16
    go_wp2
    go_loop [3, 4, 5, 6] (fun n i _ _ => ∃ k : Nat, k ≤ l.length ∧ i = .int .i64 k ∧ n = .int .i64 (setN (l.take k))) (fun _ i _ _ => l.length - (intOf i).toNat)
    case atStart => exact ⟨0, by omega, rfl, by simp [setN]⟩
    case round =>
      obtain ⟨k, hk, rfl, rfl⟩ := hrel
      have hmost := setN_most HA.out k hk
      by_cases hlt : k < l.length
      · have hck := HC.out k hlt
        have HS : Hid (setN (l.take (k+1)) = setN (l.take k) + 2 ^ (l[k]?.getD 0).toNat) := setN_take hlt
        have hp : 0 ≤ l[k]?.getD 0 ∧ l[k]?.getD 0 < 16 := by rw [List.getElem?_eq_getElem hlt]; exact HA.out _ (List.getElem_mem _)
        obtain ⟨p, hp2⟩ : ∃ p : Nat, l[k]?.getD 0 = p := ⟨(l[k]?.getD 0).toNat, by omega⟩
        rw [hp2] at hck hp HS
        rw [Int.toNat_natCast] at HS
        clear hp2
        generalize setN (l.take k) = m at *
        have hp16 : p < 16 := by omega
        clear hp
        go_wp2
        go_loop [5, 6] (fun q j => ∃ t : Nat, t ≤ p ∧ j = .int .i64 t ∧ q = .int .i64 ((2 ^ t : Nat) : Int)) (fun _ j => p - (intOf j).toNat)
        case atStart => exact ⟨0, by omega, rfl, rfl⟩
        case round =>
          obtain ⟨t, ht, rfl, rfl⟩ := hrel
          have h2t : 2 ^ t ≤ 65536 := by have := Nat.pow_le_pow_right (n := 2) (by omega) (show t ≤ 16 by omega); omega
          by_cases htp : t < p
          · have H2 : Hid (2 ^ (t+1) = 2 ^ t * 2) := Nat.pow_succ ..
            generalize 2 ^ t = x at *
            go_wp2
            go_round
            case rel => exact ⟨t + 1, by omega, by go_num, by rw [H2.out]; go_num⟩
            case measure => simp [intOf]; omega
          · have HE : Hid (2 ^ p = 2 ^ t) := by unfold Hid; rw [show p = t by omega]
            generalize 2 ^ t = x at *
            go_wp2
            go_round
            case rel => exact ⟨k + 1, by omega, by go_num, by rw [HS.out, HE.out]; go_num⟩
            case measure => simp [intOf]; omega
      · have HE : Hid (setN l = setN (l.take k)) := by unfold Hid; rw [List.take_of_length_le (by omega)]
        generalize setN (l.take k) = m at *
        go_wp2
        go_ret
        exact ⟨by rw [HE.out]; rfl, rfl⟩
end Go.Proofs.YtmibnceadciidaaDoor
