/- The walk of larderwickref1.ahead. -/
import Derived.Test.YtkhjpelghlchnaaDoorOptL
namespace Go.Proofs.YtkhjpelghlchnaaDoor
open Go.RowKit Go.Sort

theorem ahead_here {l : List Int} {at0 j : Nat} {p : Int} (hj : j < l.length) (h0 : at0 ≤ j) (hp : l[j]?.getD 0 = p) (hn : ∀ i, at0 ≤ i → i < j → l[i]?.getD 0 ≠ p) : ahead l at0 p = j := by
  induction h : j - at0 generalizing at0 with
  | zero =>
    have : at0 = j := by omega
    subst this
    rw [← hp]; exact ahead_now hj
  | succ m ih =>
    have hlt : at0 < l.length := by omega
    rw [ahead_later hlt (fun e => hn at0 (Nat.le_refl _) (by omega) e.symm)]
    exact ih (by omega) (fun i h1 h2 => hn i (by omega) h2) (by omega)
theorem ahead_end {l : List Int} {at0 : Nat} {p : Int} (h0 : at0 ≤ l.length) (hn : ∀ i, at0 ≤ i → i < l.length → l[i]?.getD 0 ≠ p) : ahead l at0 p = l.length := by
  induction h : l.length - at0 generalizing at0 with
  | zero =>
    have : at0 = l.length := by omega
    subst this
    unfold ahead
    rw [List.drop_length]; simp
  | succ m ih =>
    have hlt : at0 < l.length := by omega
    rw [ahead_later hlt (fun e => hn at0 (Nat.le_refl _) hlt e.symm)]
    exact ih (by omega) (fun i h1 h2 => hn i (by omega) h2) (by omega)

set_option maxHeartbeats 1000000 in
theorem ahead_any (v : Value) (l : List Int) (k : Nat) (p : Int) (w : World) (hv : IsInts w v l) (hk : k < l.length) (hl : l.length ≤ 40) :
    Calls Tryd.prog 13 #[v, .int .i64 k, .int .i64 p] w fun e w' => e = .returned (.int .i64 (ahead l k p)) ∧ w' = w := by
  rcases hv with ⟨rfl, _⟩ | ⟨b, off, cap, rfl, hpos, hlc, hcap, hc⟩
  · simp at hk
  have HC : Hid (∀ j, j < l.length → w.cell? ⟨b, off + j, none⟩ = some (.int .i64 (l[j]?.getD 0))) := hc
  clear hc
  unfold maxLen at hcap
  generalize hr : ahead l k p = r
  have HR : Hid (ahead l k p = r) := hr
  clear hr
  go_enter Tryd.func13, Tryd.ntmps13
  go_wp2
  go_loop [7] (fun i => ∃ j : Nat, k ≤ j ∧ j ≤ l.length ∧ i = .int .i64 j ∧ Hid (∀ m, k ≤ m → m < j → l[m]?.getD 0 ≠ p)) (fun i => l.length - (intOf i).toNat)
  case atStart => exact ⟨k, Nat.le_refl _, by omega, rfl, fun m h1 h2 => by omega⟩
  case round =>
    obtain ⟨j, hkj, hjl, rfl, HN⟩ := hrel
    by_cases hlt : j < l.length
    · have hck := HC.out j hlt
      generalize hx : l[j]?.getD 0 = x at hck
      have HX : Hid (l[j]?.getD 0 = x) := hx
      clear hx
      cases he : (x == p)
      · have HE : Hid (x ≠ p) := by unfold Hid; simpa using he
        go_wp2
        go_round
        case rel =>
          refine ⟨j + 1, by omega, by omega, by go_num, (show Hid _ from fun m h1 h2 => ?_)⟩
          by_cases e : m = j
          · subst e; rw [HX.out]; exact HE.out
          · exact HN.out m h1 (by omega)
        case measure => simp [intOf]; omega
      · have HE : Hid (ahead l k p = j) := ahead_here hlt hkj (by rw [HX.out]; simpa using he) HN.out
        go_wp2
        go_ret
        exact ⟨by rw [← HR.out, HE.out]; rfl, rfl⟩
    · have hjl2 : j = l.length := by omega
      have HE : Hid (ahead l k p = l.length) := ahead_end (by omega) (by rw [← hjl2]; exact HN.out)
      clear hjl2 HN
      go_wp2
      go_ret
      exact ⟨by rw [← HR.out, HE.out]; rfl, rfl⟩
end Go.Proofs.YtkhjpelghlchnaaDoor
