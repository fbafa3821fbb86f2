/- The walk of slices.IsSorted at a row of numbers. -/
import Derived.Test.YtnjfmlojbaigjabAcks
import Derived.Test.YtnjfmlojbaigjabOpened
import Derived.Test.YtnjfmlojbaigjabShelf
import Derived.Test.YtnjfmlojbaigjabOwn
namespace Go.Proofs.Ytnjfmlojbaigjab
set_option maxRecDepth 100000
open Go.RowKit

set_option maxHeartbeats 2000000 in
theorem sorted_any (v : Value) (l : List Int) (w : World) (hl : l.length ≤ 20) (hv : IsInts w v l) :
    Calls Try.prog 51 #[v] w fun e w' => e = .returned (.bool (decide (rising l))) ∧ ∃ q, w' = w.drewN q := by
  obtain ⟨ao, cap, rfl, hcap, ho⟩ := hv.opened
  have HO : Hid (∀ k, k < l.length → ∃ b off, ao = some ⟨b, off, none⟩ ∧ l.length ≤ cap ∧ b < w.heap.size ∧ ∀ j, j < l.length → w.cell? ⟨b, off + j, none⟩ = some (.int .i64 (l[j]?.getD 0))) := ho
  have HLN : Hid (l.length ≤ 20) := hl
  clear ho hv
  unfold maxLen at hcap
  generalize hn : l.length = n at *
  have HN : Hid (l.length = n) := hn
  clear hn
  go_enter Try.func51, Try.ntmps51
  go_wp2
  go_loopw [3] (fun i wr => ∃ (k q : Nat), k ≤ n ∧ i = .int .i64 ((k : Int) - 1) ∧ wr = w.drewN q ∧ Hid (∀ m, k ≤ m + 1 → m + 1 < n → l[m]?.getD 0 ≤ l[m+1]?.getD 0)) (fun i _ => (intOf i).toNat)
  case atStart => exact ⟨n, 0, Nat.le_refl _, rfl, rfl, fun m h1 h2 => by omega⟩
  case round =>
    obtain ⟨k, q, hk, rfl, rfl, HA⟩ := hrel
    by_cases hlt : 2 ≤ k
    · obtain ⟨a, ha⟩ : ∃ a : Nat, k = a + 1 := ⟨k - 1, by omega⟩
      obtain ⟨m, hm⟩ : ∃ m : Nat, a = m + 1 := ⟨a - 1, by omega⟩
      obtain ⟨b, off, rfl, hlc, hbw, hcell⟩ := HO.out a (by omega)
      have hca : (w.drewN q).cell? ⟨b, off + a, none⟩ = some (.int .i64 (l[a]?.getD 0)) := hcell a (by omega)
      have hcm : (w.drewN q).cell? ⟨b, off + m, none⟩ = some (.int .i64 (l[m]?.getD 0)) := hcell m (by omega)
      have HW0 : Hid (∀ n, ∃ q', (w.drewN q).drewN n = w.drewN q') := fun n => ⟨q + n, by rw [World.drewN_drewN]⟩
      have HAM : Hid (k = a + 1 ∧ a = m + 1) := ⟨ha, hm⟩
      have e : (k : Int) - 1 = (a : Int) := by omega
      have hsub : IntKind.i64.wrap ((a : Int) - 1) = (m : Int) := by rw [IntKind.wrap_i64]; omega
      have ha0 : 0 < (a : Int) := by omega
      have han : (a : Int) < (n : Int) := by omega
      have hmn : (m : Int) < (n : Int) := by omega
      rw [e]
      clear hcell ha hm e hlt hk
      generalize w.drewN q = wq at *
      generalize hx : l[a]?.getD 0 = x at *
      generalize hy : l[m]?.getD 0 = y at *
      have HX : Hid (l[a]?.getD 0 = x ∧ l[m]?.getD 0 = y) := ⟨hx, hy⟩
      clear hx hy
      by_cases hxy : x < y
      · have HR : Hid (decide (rising l) = false) := decide_eq_false fun hr => by
          have := rising_adj hr (m := m) (by rw [HN.out]; have := HAM.out; omega)
          rw [HX.out.2, show m + 1 = a from HAM.out.2.symm, HX.out.1] at this
          omega
        have hd : decide (x < y) = true := decide_eq_true hxy
        go_wp2
        go_quiet (first | (go_at_call 68; exact Calls.quiet_of_same (Try.cmp_Less_int2 _ _ _)))
        go_wp2
        go_ret
        exact ⟨by rw [HR.out]; rfl, HW0.out _⟩
      · have hd : decide (x < y) = false := decide_eq_false hxy
        go_wp2
        go_quiet (first | (go_at_call 68; exact Calls.quiet_of_same (Try.cmp_Less_int2 _ _ _)))
        go_wp2
        go_roundw
        case rel =>
          obtain ⟨q', hq'⟩ := HW0.out nq
          obtain ⟨hA1, hA2⟩ := HAM.out
          refine ⟨a, q', by omega, by rw [show ((m : Nat) : Int) = (a : Int) - 1 by omega], hq', fun j h1 h2 => ?_⟩
          by_cases ej : a = j + 1
          · have e : j = m := by omega
            rw [e, HX.out.2, ← hA2, HX.out.1]; omega
          · have hkj : k ≤ j + 1 := by omega
            exact HA.out j hkj h2
        case measure =>
          obtain ⟨hA1, hA2⟩ := HAM.out
          simp [intOf]; omega
    · have HR : Hid (decide (rising l) = true) := decide_eq_true (adj_rising fun m hm => HA.out m (by omega) (by rw [← HN.out]; exact hm))
      have hle : ¬ 1 < (k : Int) := by omega
      clear HA hlt
      go_wp2
      go_ret
      exact ⟨by rw [HR.out]; rfl, _, rfl⟩
end Go.Proofs.Ytnjfmlojbaigjab
