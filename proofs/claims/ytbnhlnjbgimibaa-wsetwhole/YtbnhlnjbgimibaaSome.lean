/- The walk of larderwicksame.Some. -/
import Derived.Test.YtbnhlnjbgimibaaBase
import Derived.Deep.QuietTactic
import Derived.BigQuiet
namespace Go.Proofs.Ytbnhlnjbgimibaa
open Go.RowKit

theorem ret_int {k : IntKind} {a b : Int} (h : a = b) : Ending.returned (.int k a) = .returned (.int k b) := by rw [h]

theorem flag_no {A T : Bool} {pm pk : Int} (h : false = !A) (hT : T = (A || (pm == pk))) : Hid (false = !T) := by
  unfold Hid; subst hT; cases A <;> simp_all
theorem flag_yes {A T : Bool} {pm pk : Int} (h : true = !A) (hT : T = (A || (pm == pk))) : Hid ((pm != pk) = !T) := by
  unfold Hid; subst hT; cases A <;> simp_all [bne]
theorem first_no {a b : Nat} {A : Bool} (hS : b = a + if A = true then 0 else 1) (h : false = !A) : (.int .i64 a : Value) = .int .i64 b := by
  subst hS; cases A <;> simp_all
theorem first_yes {a b : Nat} {A : Bool} (hS : b = a + if A = true then 0 else 1) (h : true = !A) : (.int .i64 ((a : Int) + 1) : Value) = .int .i64 b := by
  subst hS; cases A <;> simp_all

set_option maxHeartbeats 400000 in
theorem some_any (v : Value) (l : List Int) (w : World) (hv : IsInts w v l) :
    Calls Try.prog 10 #[v] w fun e w' => e = .returned (.int .i64 (firsts l l.length)) ∧ ∃ n, w' = w.drewN n := by
  rcases hv with ⟨rfl, ao, cap, rfl, hcap⟩ | ⟨b, off, cap, rfl, hpos, hlc, hcap, hc⟩
  · go_enter Try.func10, Try.ntmps10
    go_wp2
    go_loop [3, 4] (fun n i => i = .int .i64 0 ∧ n = .int .i64 0) (fun _ _ => 0)
    case atStart => exact ⟨rfl, rfl⟩
    case round =>
      obtain ⟨rfl, rfl⟩ := hrel
      go_wp2
      go_ret
      exact ⟨ret_int (by simp [firsts]), 0, rfl⟩
  · unfold maxLen at hcap
    have HC : Hid (∀ j, j < l.length → w.cell? ⟨b, off + j, none⟩ = some (.int .i64 (l[j]?.getD 0))) := hc
    clear hc
    go_enter Try.func10, Try.ntmps10
    go_wp2
    go_loopw [3, 4, 5, 6] (fun n i _ _ wr => ∃ k q : Nat, k ≤ l.length ∧ i = .int .i64 k ∧ n = .int .i64 (firsts l k) ∧ wr = w.drewN q) (fun _ i _ _ _ => l.length - (intOf i).toNat)
    case atStart => exact ⟨0, 0, by omega, rfl, rfl, rfl⟩
    case round =>
      obtain ⟨k, q, hk, rfl, rfl, rfl⟩ := hrel
      have hf := firsts_le l k
      have HS : Hid (firsts l (k + 1) = firsts l k + (if (l.take k).contains (l[k]?.getD 0) then 0 else 1)) := firsts_succ l k
      by_cases hlt : k < l.length
      · have hck := HC.out k hlt
        go_wp2
        go_loopw [5, 6] (fun f j wr => ∃ (m q : Nat) (fb : Bool), m ≤ k ∧ j = .int .i64 m ∧ f = .bool fb ∧ Hid (fb = !(l.take m).contains (l[k]?.getD 0)) ∧ wr = w.drewN q) (fun _ j _ => k - (intOf j).toNat)
        case atStart => exact ⟨0, q, true, by omega, rfl, rfl, by simp [Hid], rfl⟩
        case round =>
          obtain ⟨m, q2, fb, hm, rfl, rfl, HF, rfl⟩ := hrel
          by_cases hml : m < k
          · have hcm := HC.out m (by omega)
            have HT : Hid ((l.take (m+1)).contains (l[k]?.getD 0) = ((l.take m).contains (l[k]?.getD 0) || (l[m]?.getD 0 == l[k]?.getD 0))) := contains_take_succ (by omega) _
            generalize l[k]?.getD 0 = pk at *
            generalize l[m]?.getD 0 = pm at *
            cases fb
            · go_wp2
              go_quiet (fail)
              go_wp2
              go_roundw
              case rel => exact ⟨m + 1, _, false, by omega, by go_num, rfl, flag_no HF.out HT.out, rfl⟩
              case measure => simp [intOf]; omega
            · go_wp2
              go_quiet (fail)
              go_wp2
              go_roundw
              case rel => exact ⟨m + 1, _, _, by omega, by go_num, rfl, flag_yes HF.out HT.out, rfl⟩
              case measure => simp [intOf]; omega
          · have hmk : m = k := by omega
            subst hmk
            clear hml
            cases fb
            · go_wp2
              go_roundw
              case rel => exact ⟨m + 1, q2, by omega, by go_num, first_no HS.out HF.out, rfl⟩
              case measure => simp [intOf]; omega
            · go_wp2
              go_roundw
              case rel => exact ⟨m + 1, q2, by omega, by go_num, first_yes HS.out HF.out, rfl⟩
              case measure => simp [intOf]; omega
      · go_wp2
        go_ret
        exact ⟨ret_int (by rw [show k = l.length by omega]), q, rfl⟩
end Go.Proofs.Ytbnhlnjbgimibaa
