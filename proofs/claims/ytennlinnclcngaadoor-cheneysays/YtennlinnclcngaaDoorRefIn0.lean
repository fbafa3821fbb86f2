/- The walks of the document's answer (larderwickref1): in, All. -/
import Derived.Test.YtennlinnclcngaaDoorBase
namespace Go.Proofs.YtennlinnclcngaaDoor
open Go.RowKit

def inB (n lo hi : Int) : Bool := decide (lo ≤ n) && decide (n ≤ hi)

set_option maxHeartbeats 400000 in
theorem in_any (n lo hi : Int) (w : World) : Calls Tryd.prog 18 #[.int .i64 n, .int .i64 lo, .int .i64 hi] w fun e w' => e = .returned (.bool (inB n lo hi)) ∧ w' = w := by
  unfold inB
  by_cases h1 : lo ≤ n
  · by_cases h2 : n ≤ hi
    · rw [decide_eq_true h1, decide_eq_true h2]
      go_enter Tryd.func18, Tryd.ntmps18
      go_wp2
      go_ret
      exact ⟨rfl, rfl⟩
    · have h2' : decide (n ≤ hi) = false := by simpa using h2
      rw [decide_eq_true h1, h2']
      go_enter Tryd.func18, Tryd.ntmps18
      go_wp2
      go_ret
      exact ⟨rfl, rfl⟩
  · have h1' : decide (lo ≤ n) = false := by simpa using h1
    rw [h1']
    go_enter Tryd.func18, Tryd.ntmps18
    go_wp2
    go_ret
    exact ⟨rfl, rfl⟩

theorem all_take_succ {l : List Int} {f : Int → Bool} {k : Nat} (h : k < l.length) (h0 : (l.take k).all f = true) (hb : f (l[k]?.getD 0) = true) : (l.take (k+1)).all f = true := by
  rw [List.take_succ_eq_append_getElem h, List.all_append, h0]
  simp only [List.getElem?_eq_getElem h, Option.getD_some] at hb
  simp [hb]
theorem all_of_getD {l : List Int} {f : Int → Bool} {k : Nat} (h : k < l.length) (hb : f (l[k]?.getD 0) = false) : l.all f = false := by
  rw [List.all_eq_false]
  exact ⟨l[k], List.getElem_mem h, by simpa [List.getElem?_eq_getElem h] using hb⟩
theorem any_of_getD' {l : List Int} {f : Int → Bool} {k : Nat} (h : k < l.length) (hb : f (l[k]?.getD 0) = true) : l.any f = true := by
  rw [List.any_eq_true]
  exact ⟨l[k], List.getElem_mem h, by simpa [List.getElem?_eq_getElem h] using hb⟩

set_option maxHeartbeats 400000 in
theorem all_any (v : Value) (l : List Int) (lo hi : Int) (w : World) (hv : IsInts w v l) :
    Calls Tryd.prog 11 #[v, .int .i64 lo, .int .i64 hi] w fun e w' => e = .returned (.bool (l.all fun x => inB x lo hi)) ∧ w' = w := by
  rcases hv with ⟨rfl, ao, cap, rfl, hcap⟩ | ⟨b, off, cap, rfl, hpos, hlc, hcap, hc⟩
  · go_enter Tryd.func11, Tryd.ntmps11
    go_wp2
    go_loop [7] (fun i => i = .int .i64 0) (fun _ => 0)
    case atStart => rfl
    case round =>
      obtain rfl := hrel
      go_wp2
      go_ret
      exact ⟨rfl, rfl⟩
  · unfold maxLen at hcap
    have HC : Hid (∀ j, j < l.length → w.cell? ⟨b, off + j, none⟩ = some (.int .i64 (l[j]?.getD 0))) := hc
    clear hc
    go_enter Tryd.func11, Tryd.ntmps11
    go_wp2
    go_loop [7] (fun i => ∃ k : Nat, k ≤ l.length ∧ i = .int .i64 k ∧ Hid ((l.take k).all (fun x => inB x lo hi) = true)) (fun i => l.length - (intOf i).toNat)
    case atStart => exact ⟨0, by omega, rfl, by simp [Hid]⟩
    case round =>
      obtain ⟨k, hk, rfl, HA⟩ := hrel
      by_cases hlt : k < l.length
      · have hck := HC.out k hlt
        generalize hp : l[k]?.getD 0 = p at *
        have HP : Hid (l[k]?.getD 0 = p) := hp
        clear hp
        cases hb : inB p lo hi
        · have HB : Hid (inB p lo hi = false) := hb
          clear hb
          go_wp2_with (go_at_call 18; go_must (refine (in_any p lo hi _).mono ?_; rintro e w' ⟨rfl, hw⟩; have hw := hw.symm; subst hw; rw [HB.out]))
          go_ret
          exact ⟨by rw [all_of_getD (f := fun x => inB x lo hi) hlt (by rw [HP.out]; exact HB.out)]; rfl, rfl⟩
        · have HB : Hid (inB p lo hi = true) := hb
          clear hb
          go_wp2_with (go_at_call 18; go_must (refine (in_any p lo hi _).mono ?_; rintro e w' ⟨rfl, hw⟩; have hw := hw.symm; subst hw; rw [HB.out]))
          go_round
          case rel => exact ⟨k + 1, by omega, by go_num, all_take_succ (f := fun x => inB x lo hi) hlt HA.out (by rw [HP.out]; exact HB.out)⟩
          case measure => simp [intOf]; omega
      · have HF : Hid (l.all (fun x => inB x lo hi) = true) := by have := HA.out; rwa [List.take_of_length_le (by omega)] at this
        go_wp2
        go_ret
        exact ⟨by rw [HF.out]; rfl, rfl⟩
end Go.Proofs.YtennlinnclcngaaDoor
