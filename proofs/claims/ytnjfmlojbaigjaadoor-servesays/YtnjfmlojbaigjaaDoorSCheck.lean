/- What is wrong with servers and asks; the walks of slices.ContainsFunc at a row of numbers, and of serve.Check. -/
import Derived.Test.YtnjfmlojbaigjaaDoorServers
import Derived.Test.YtnjfmlojbaigjaaDoorOpened
import Derived.Test.YtnjfmlojbaigjaaDoorOwn
import Derived.Deep.QuietTactic
import Derived.Deep.RegionWith
namespace Go.Proofs.YtnjfmlojbaigjaaDoor
set_option maxRecDepth 100000
open Go.RowKit

def badP (t : Int) : Bool := decide (t < 0) || decide (12 < t)
def chkV (s asks : List Int) : Nat := if s.length = 0 then 5 else if 3 < s.length ∨ 20 < asks.length then 4 else if s.any badP || asks.any badP then 1 else 0
theorem chkV_cases (s asks : List Int) : chkV s asks = 0 ∨ chkV s asks = 1 ∨ chkV s asks = 4 ∨ chkV s asks = 5 := by
  unfold chkV
  repeat' split
  all_goals simp
/-- What Check lets through. -/
structure FineV (s asks : List Int) : Prop where
  some : s ≠ []
  few : s.length ≤ 3
  many : asks.length ≤ 20
  line : onLine s
  asked : onLine asks
theorem onLine_of {l : List Int} (h : l.any badP = false) : onLine l := fun x hx => by
  have := List.any_eq_false.1 h x hx
  simp [badP] at this; omega
theorem chkV_zero {s asks : List Int} (h : chkV s asks = 0) : FineV s asks := by
  unfold chkV at h
  split at h
  · cases h
  · rename_i h0
    split at h
    · cases h
    · rename_i h1
      split at h
      · cases h
      · rename_i h2
        simp only [Bool.not_eq_true, Bool.or_eq_false_iff] at h2
        exact ⟨fun e => h0 (by rw [e]; rfl), by omega, by omega, onLine_of h2.1, onLine_of h2.2⟩
theorem any_nextS {f : Int → Bool} {l : List Int} {k : Nat} (h : k < l.length) (h0 : (l.take k).any f = false) (hb : f (l[k]?.getD 0) = false) : (l.take (k+1)).any f = false := by
  rw [List.take_succ_eq_append_getElem h, List.any_append, h0]
  simp [List.getElem?_eq_getElem h] at hb ⊢
  exact hb
theorem any_hereS {f : Int → Bool} {l : List Int} {k : Nat} (h : k < l.length) (hb : f (l[k]?.getD 0) = true) : l.any f = true := by
  rw [List.any_eq_true]
  exact ⟨l[k], List.getElem_mem h, by simpa [List.getElem?_eq_getElem h] using hb⟩

theorem outside_any (x : Int) (w : World) : Calls Tryd.prog 17 #[.int .i64 x] w fun e w' => e = .returned (.bool (badP x)) ∧ w' = w := by
  rcases (by omega : x < 0 ∨ (0 ≤ x ∧ x ≤ 12) ∨ 12 < x) with h | ⟨h1, h2⟩ | h
  · have HB : Hid (badP x = true) := by unfold Hid badP; rw [decide_eq_true h]; rfl
    go_enter Tryd.func17, Tryd.ntmps17
    go_wp2
    go_ret
    exact ⟨by rw [HB.out]; rfl, rfl⟩
  · go_enter Tryd.func17, Tryd.ntmps17
    go_wp2
    go_ret
    exact ⟨rfl, rfl⟩
  · have HB : Hid (badP x = true) := by unfold Hid badP; rw [decide_eq_true h, Bool.or_true]
    go_enter Tryd.func17, Tryd.ntmps17
    go_wp2
    go_ret
    exact ⟨by rw [HB.out]; rfl, rfl⟩
set_option maxHeartbeats 1000000 in
theorem indexf_any (v : Value) (l : List Int) (w : World) (hl : l.length ≤ 20) (hv : IsInts w v l) :
    Calls Tryd.prog 33 #[v, .func (.func 17) #[] #[]] w fun e w' => ∃ i : Int, e = .returned (.int .i64 i) ∧ decide (i ≥ 0) = l.any badP ∧ w' = w := by
  obtain ⟨ao, cap, rfl, hcap, ho⟩ := hv.opened
  have HO : Hid (∀ k, k < l.length → ∃ b off, ao = some ⟨b, off, none⟩ ∧ l.length ≤ cap ∧ b < w.heap.size ∧ ∀ j, j < l.length → w.cell? ⟨b, off + j, none⟩ = some (.int .i64 (l[j]?.getD 0))) := ho
  clear ho hv
  unfold maxLen at hcap
  go_enter Tryd.func33, Tryd.ntmps33
  go_wp2
  go_loop [4, 8] (fun _ i => ∃ k : Nat, k ≤ l.length ∧ i = .int .i64 k ∧ Hid ((l.take k).any badP = false)) (fun _ i => l.length - (intOf i).toNat)
  case atStart => exact ⟨0, by omega, rfl, by simp [Hid]⟩
  case round =>
    obtain ⟨k, hk, rfl, HB⟩ := hrel
    by_cases hlt : k < l.length
    · obtain ⟨b, off, rfl, hlc, _, hcell⟩ := HO.out k hlt
      have hck := hcell k hlt
      clear hcell
      generalize hp : l[k]?.getD 0 = t at *
      have HP : Hid (l[k]?.getD 0 = t) := hp
      clear hp
      cases hb : badP t with
      | true =>
        have HBT : Hid (badP t = true) := hb
        clear hb
        go_wp2_with (go_at_call 17; go_must (refine (outside_any t _).mono ?_; rintro e w' ⟨rfl, hw⟩; have hw := hw.symm; subst hw; rw [HBT.out]))
        go_ret
        exact ⟨_, rfl, by rw [any_hereS hlt (by rw [HP.out]; exact HBT.out)]; simp, rfl⟩
      | false =>
        have HBT : Hid (badP t = false) := hb
        clear hb
        go_wp2_with (go_at_call 17; go_must (refine (outside_any t _).mono ?_; rintro e w' ⟨rfl, hw⟩; have hw := hw.symm; subst hw; rw [HBT.out]))
        go_round
        case rel => exact ⟨k + 1, by omega, by go_num, any_nextS hlt HB.out (by rw [HP.out]; exact HBT.out)⟩
        case measure => simp [intOf]; omega
    · have hany : l.any badP = false := by have := HB.out; rwa [List.take_of_length_le (by omega)] at this
      have HA : Hid (l.any badP = false) := hany
      clear hany HB
      go_wp2
      go_ret
      exact ⟨_, rfl, by rw [HA.out]; rfl, rfl⟩
theorem containsf_any (v : Value) (l : List Int) (w : World) (hl : l.length ≤ 20) (hv : IsInts w v l) :
    Calls Tryd.prog 16 #[v, .func (.func 17) #[] #[]] w fun e w' => e = .returned (.bool (l.any badP)) ∧ w' = w := by
  have HV : Hid (IsInts w v l) := hv
  obtain ⟨ao, cap, rfl, _⟩ := hv.opened
  clear hv
  go_enter Tryd.func16, Tryd.ntmps16
  go_wp2_with (go_at_call 33; go_must (refine (indexf_any _ l _ hl HV.out).mono ?_; rintro e w' ⟨i, rfl, hi, hw⟩; have hw := hw.symm; subst hw))
  go_ret
  exact ⟨by rw [← hi]; rfl, rfl⟩

set_option maxHeartbeats 2000000 in
theorem vcheck_any (v va : Value) (s asks : List Int) (w : World) (hv : IsInts w v s) (ha : IsInts w va asks) :
    Calls Tryd.prog 6 #[v, va] w fun e w' => e = .returned (errV (chkV s asks)) ∧ w' = w := by
  have HV : Hid (IsInts w v s) := hv
  have HA : Hid (IsInts w va asks) := ha
  obtain ⟨ao, cap, rfl, hcap, _⟩ := hv.opened
  obtain ⟨aa, capa, rfl, hcapa, _⟩ := ha.opened
  unfold maxLen at hcap hcapa
  clear hv ha
  by_cases h0 : s.length = 0
  · have HC : Hid (chkV s asks = 5) := by unfold Hid chkV; rw [if_pos h0]
    have h0b : ((s.length : Int) == 0) = true := by rw [beq_iff_eq]; omega
    go_enter Tryd.func6, Tryd.ntmps6
    go_wp2
    go_ret
    exact ⟨by rw [HC.out]; rfl, rfl⟩
  · have h0b : ((s.length : Int) == 0) = false := by rw [beq_eq_false_iff_ne]; omega
    by_cases h1 : 3 < s.length ∨ 20 < asks.length
    · have HC : Hid (chkV s asks = 4) := by unfold Hid chkV; rw [if_neg h0, if_pos h1]
      rcases (by omega : 3 < s.length ∨ (s.length ≤ 3 ∧ 20 < asks.length)) with h2 | ⟨h2, h3⟩
      all_goals
        go_enter Tryd.func6, Tryd.ntmps6
        go_wp2
        go_ret
        exact ⟨by rw [HC.out]; rfl, rfl⟩
    · have hs3 : s.length ≤ 3 := by omega
      have ha20 : asks.length ≤ 20 := by omega
      have HC : Hid (chkV s asks = if s.any badP || asks.any badP then 1 else 0) := by unfold Hid chkV; rw [if_neg h0, if_neg h1]
      clear h0 h1
      cases hsb : s.any badP with
      | true =>
        have HSB : Hid (s.any badP = true) := hsb
        clear hsb
        go_enter Tryd.func6, Tryd.ntmps6
        go_wp2_with (go_at_call_of 16 (Value.slice ao s.length cap); go_must (refine (containsf_any _ s _ (by omega) HV.out).mono ?_; rintro e w' ⟨rfl, hw⟩; have hw := hw.symm; subst hw; rw [HSB.out]))
        go_ret
        exact ⟨by rw [HC.out, HSB.out]; rfl, rfl⟩
      | false =>
        have HSB : Hid (s.any badP = false) := hsb
        clear hsb
        cases hab : asks.any badP with
        | true =>
          have HAB : Hid (asks.any badP = true) := hab
          clear hab
          go_enter Tryd.func6, Tryd.ntmps6
          go_wp2_with (first | (go_at_call_of 16 (Value.slice ao s.length cap); go_must (refine (containsf_any _ s _ (by omega) HV.out).mono ?_; rintro e w' ⟨rfl, hw⟩; have hw := hw.symm; subst hw; rw [HSB.out])) | (go_at_call_of 16 (Value.slice aa asks.length capa); go_must (refine (containsf_any _ asks _ (by omega) HA.out).mono ?_; rintro e w' ⟨rfl, hw⟩; have hw := hw.symm; subst hw; rw [HAB.out])))
          go_ret
          exact ⟨by rw [HC.out, HSB.out, HAB.out]; rfl, rfl⟩
        | false =>
          have HAB : Hid (asks.any badP = false) := hab
          clear hab
          go_enter Tryd.func6, Tryd.ntmps6
          go_wp2_with (first | (go_at_call_of 16 (Value.slice ao s.length cap); go_must (refine (containsf_any _ s _ (by omega) HV.out).mono ?_; rintro e w' ⟨rfl, hw⟩; have hw := hw.symm; subst hw; rw [HSB.out])) | (go_at_call_of 16 (Value.slice aa asks.length capa); go_must (refine (containsf_any _ asks _ (by omega) HA.out).mono ?_; rintro e w' ⟨rfl, hw⟩; have hw := hw.symm; subst hw; rw [HAB.out])))
          go_ret
          exact ⟨by rw [HC.out, HSB.out, HAB.out]; rfl, rfl⟩
end Go.Proofs.YtnjfmlojbaigjaaDoor
