/- The walks of ski.Check, ski.Cost, ski.Even and ski.Least. -/
import Derived.Test.YtnjfmlojbaigjabBase
import Derived.Deep.QuietTactic
namespace Go.Proofs.Ytnjfmlojbaigjab
set_option maxRecDepth 100000
open Go.RowKit

/-- A price and days that may be. -/
def FineS (p d : Int) : Prop := (1 ≤ p ∧ p ≤ 20) ∧ 0 ≤ d ∧ d ≤ 1000
instance (p d : Int) : Decidable (FineS p d) := by unfold FineS; infer_instance
def chkS (p d : Int) : Nat := if FineS p d then 0 else 1
def FineB (b : Int) : Prop := 1 ≤ b ∧ b ≤ 1000
instance (b : Int) : Decidable (FineB b) := by unfold FineB; infer_instance
def chkB (p d b : Int) : Nat := if FineS p d ∧ FineB b then 0 else 1
def costS (p d b : Int) : Int := if FineS p d ∧ FineB b then (if d < b then d else b - 1 + p) else 0
def leastS (p d : Int) : Int := if FineS p d then (if d < p then d else p) else 0

set_option maxHeartbeats 400000 in
theorem scheck_any (p d : Int) (w : World) : Calls Try.prog 24 #[.int .i64 p, .int .i64 d] w fun e w' => e = .returned (errV (chkS p d)) ∧ w' = w := by
  rcases (by omega : p < 1 ∨ 20 < p ∨ (1 ≤ p ∧ p ≤ 20)) with h | h | ⟨h1, h2⟩
  · have HK : Hid (chkS p d = 1) := by unfold Hid chkS; rw [if_neg (by unfold FineS; omega)]
    go_enter Try.func24, Try.ntmps24
    go_wp2
    go_ret
    exact ⟨by rw [HK.out]; rfl, rfl⟩
  · have HK : Hid (chkS p d = 1) := by unfold Hid chkS; rw [if_neg (by unfold FineS; omega)]
    go_enter Try.func24, Try.ntmps24
    go_wp2
    go_ret
    exact ⟨by rw [HK.out]; rfl, rfl⟩
  · rcases (by omega : d < 0 ∨ 1000 < d ∨ (0 ≤ d ∧ d ≤ 1000)) with g | g | ⟨g1, g2⟩
    · have HK : Hid (chkS p d = 1) := by unfold Hid chkS; rw [if_neg (by unfold FineS; omega)]
      go_enter Try.func24, Try.ntmps24
      go_wp2
      go_ret
      exact ⟨by rw [HK.out]; rfl, rfl⟩
    · have HK : Hid (chkS p d = 1) := by unfold Hid chkS; rw [if_neg (by unfold FineS; omega)]
      go_enter Try.func24, Try.ntmps24
      go_wp2
      go_ret
      exact ⟨by rw [HK.out]; rfl, rfl⟩
    · have HK : Hid (chkS p d = 0) := by unfold Hid chkS; rw [if_pos (by unfold FineS; omega)]
      go_enter Try.func24, Try.ntmps24
      go_wp2
      go_ret
      exact ⟨by rw [HK.out]; rfl, rfl⟩

set_option maxHeartbeats 1000000 in
theorem scost_any (p d b : Int) (w : World) : Calls Try.prog 13 #[.int .i64 p, .int .i64 d, .int .i64 b] w fun e w' => e = .returned (.tuple #[.int .i64 (costS p d b), errV (chkB p d b)]) ∧ w' = w := by
  by_cases hS : FineS p d
  · have HK : Hid (chkS p d = 0) := by unfold Hid chkS; rw [if_pos hS]
    have hS2 := hS
    unfold FineS at hS2
    obtain ⟨⟨hp1, hp2⟩, hd1, hd2⟩ := hS2
    rcases (by omega : b < 1 ∨ 1000 < b ∨ (1 ≤ b ∧ b ≤ 1000)) with h | h | ⟨h1, h2⟩
    · have HN : Hid (costS p d b = 0) := by unfold Hid costS; rw [if_neg (by unfold FineB; omega)]
      have HE : Hid (chkB p d b = 1) := by unfold Hid chkB; rw [if_neg (by unfold FineB; omega)]
      clear hS
      go_enter Try.func13, Try.ntmps13
      go_wp2_with (go_at_call 24; go_must (refine (scheck_any p d _).mono ?_; rintro e w' ⟨rfl, hw⟩; have hw := hw.symm; subst hw; rw [HK.out]; simp only [errV, if_true]))
      go_ret2
      exact ⟨by rw [HN.out, HE.out]; rfl, rfl⟩
    · have HN : Hid (costS p d b = 0) := by unfold Hid costS; rw [if_neg (by unfold FineB; omega)]
      have HE : Hid (chkB p d b = 1) := by unfold Hid chkB; rw [if_neg (by unfold FineB; omega)]
      clear hS
      go_enter Try.func13, Try.ntmps13
      go_wp2_with (go_at_call 24; go_must (refine (scheck_any p d _).mono ?_; rintro e w' ⟨rfl, hw⟩; have hw := hw.symm; subst hw; rw [HK.out]; simp only [errV, if_true]))
      go_ret2
      exact ⟨by rw [HN.out, HE.out]; rfl, rfl⟩
    · have hB : FineB b := ⟨h1, h2⟩
      have HE : Hid (chkB p d b = 0) := by unfold Hid chkB; rw [if_pos ⟨hS, hB⟩]
      by_cases hlt : d < b
      · have HN : Hid (costS p d b = d) := by unfold Hid costS; rw [if_pos ⟨hS, hB⟩, if_pos hlt]
        clear hS hB
        go_enter Try.func13, Try.ntmps13
        go_wp2_with (go_at_call 24; go_must (refine (scheck_any p d _).mono ?_; rintro e w' ⟨rfl, hw⟩; have hw := hw.symm; subst hw; rw [HK.out]; simp only [errV, if_true]))
        go_ret2
        exact ⟨by rw [HN.out, HE.out]; rfl, rfl⟩
      · have HN : Hid (costS p d b = b - 1 + p) := by unfold Hid costS; rw [if_pos ⟨hS, hB⟩, if_neg hlt]
        clear hS hB
        go_enter Try.func13, Try.ntmps13
        go_wp2_with (go_at_call 24; go_must (refine (scheck_any p d _).mono ?_; rintro e w' ⟨rfl, hw⟩; have hw := hw.symm; subst hw; rw [HK.out]; simp only [errV, if_true]))
        go_ret2
        exact ⟨by rw [HN.out, HE.out]; rfl, rfl⟩
  · have HK : Hid (chkS p d = 1) := by unfold Hid chkS; rw [if_neg hS]
    have HN : Hid (costS p d b = 0) := by unfold Hid costS; rw [if_neg (fun h => hS h.1)]
    have HE : Hid (chkB p d b = 1) := by unfold Hid chkB; rw [if_neg (fun h => hS h.1)]
    clear hS
    go_enter Try.func13, Try.ntmps13
    go_wp2_with (go_at_call 24; go_must (refine (scheck_any p d _).mono ?_; rintro e w' ⟨rfl, hw⟩; have hw := hw.symm; subst hw; rw [HK.out]; simp only [errV]))
    go_ret2
    exact ⟨by rw [HN.out, HE.out]; rfl, rfl⟩

set_option maxHeartbeats 400000 in
theorem seven_any (p d : Int) (w : World) : Calls Try.prog 4 #[.int .i64 p, .int .i64 d] w fun e w' => e = .returned (.tuple #[.int .i64 (costS p d p), errV (chkB p d p)]) ∧ w' = w := by
  generalize hN : costS p d p = N
  generalize hE : errV (chkB p d p) = E
  have HN : Hid (costS p d p = N) := hN
  have HE : Hid (errV (chkB p d p) = E) := hE
  clear hN hE
  go_enter Try.func4, Try.ntmps4
  go_wp2_with (go_at_call 13; go_must (refine (scost_any p d p _).mono ?_; rintro e w' ⟨rfl, hw⟩; have hw := hw.symm; subst hw; rw [HN.out, HE.out]))
  first | go_ret2 | go_ret
  exact ⟨rfl, rfl⟩

set_option maxHeartbeats 1000000 in
theorem sleast_any (p d : Int) (w : World) : Calls Try.prog 7 #[.int .i64 p, .int .i64 d] w fun e w' => e = .returned (.tuple #[.int .i64 (leastS p d), errV (chkS p d)]) ∧ w' = w := by
  by_cases hS : FineS p d
  · have HK : Hid (chkS p d = 0) := by unfold Hid chkS; rw [if_pos hS]
    have hS2 := hS
    unfold FineS at hS2
    obtain ⟨⟨hp1, hp2⟩, hd1, hd2⟩ := hS2
    by_cases hlt : d < p
    · have HN : Hid (leastS p d = d) := by unfold Hid leastS; rw [if_pos hS, if_pos hlt]
      clear hS
      go_enter Try.func7, Try.ntmps7
      go_wp2_with (go_at_call 24; go_must (refine (scheck_any p d _).mono ?_; rintro e w' ⟨rfl, hw⟩; have hw := hw.symm; subst hw; rw [HK.out]; simp only [errV, if_true]))
      go_ret2
      exact ⟨by rw [HN.out, HK.out]; rfl, rfl⟩
    · have HN : Hid (leastS p d = p) := by unfold Hid leastS; rw [if_pos hS, if_neg hlt]
      clear hS
      go_enter Try.func7, Try.ntmps7
      go_wp2_with (go_at_call 24; go_must (refine (scheck_any p d _).mono ?_; rintro e w' ⟨rfl, hw⟩; have hw := hw.symm; subst hw; rw [HK.out]; simp only [errV, if_true]))
      go_ret2
      exact ⟨by rw [HN.out, HK.out]; rfl, rfl⟩
  · have HK : Hid (chkS p d = 1) := by unfold Hid chkS; rw [if_neg hS]
    have HN : Hid (leastS p d = 0) := by unfold Hid leastS; rw [if_neg hS]
    clear hS
    go_enter Try.func7, Try.ntmps7
    go_wp2_with (go_at_call 24; go_must (refine (scheck_any p d _).mono ?_; rintro e w' ⟨rfl, hw⟩; have hw := hw.symm; subst hw; rw [HK.out]; simp only [errV]))
    go_ret2
    exact ⟨by rw [HN.out, HK.out]; rfl, rfl⟩
end Go.Proofs.Ytnjfmlojbaigjab
