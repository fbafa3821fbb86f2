/- The walk of the document's Heap (larderwickref2): what is wrong with one. -/
import Derived.Test.YtennlinnclcngaaDoorHeapI
import Derived.Test.YtennlinnclcngaaDoorHeapK
import Derived.Test.YtennlinnclcngaaDoorRefIn0
import Derived.Deep.QuietTactic
namespace Go.Proofs.YtennlinnclcngaaDoor
set_option maxRecDepth 100000
open Go.RowKit Go.Sort

theorem all_badN (l : List Int) (n : Nat) : (l.all fun x => inB x 0 ((n : Int) - 1)) = !l.any (badN n) := by
  rw [Bool.eq_iff_iff, List.all_eq_true, Bool.not_eq_true', badN_any]
  refine forall_congr' fun x => imp_congr_right fun _ => ?_
  unfold inB
  rw [Bool.and_eq_true, decide_eq_true_eq, decide_eq_true_eq]
  omega
theorem rall_at {v : Value} {l : List Int} {n : Nat} {r : Bool} {w0 : World} (hv : IsInts w0 v l) (hr : (!l.any (badN n)) = r) (w : World) (hh : w.heap = w0.heap) :
    Calls Tryd.prog 11 #[v, .int .i64 0, .int .i64 ((n : Int) - 1)] w fun e w' => e = .returned (.bool r) ∧ w' = w := by
  have := all_any v l 0 ((n : Int) - 1) w (hv.heap hh)
  rwa [all_badN, hr] at this
set_option maxHeartbeats 2000000 in
theorem rheap_any (v : Value) (L : List (List Int)) (R : List Int) (w : World) (hv : IsHeap w v L R) :
    Calls Tryd.prog 4 #[v] w fun e w' => e = .returned (.int .i64 (chkH L R)) ∧ Below w.heap.size w w' := by
  obtain ⟨ao, co, ar, cr, rfl, h1, h2⟩ := hv.form
  have HBX : Hid (Boxed w (w.alloc (.cells #[.slice ao L.length co, .slice ar R.length cr] 25)) w.heap.size ao co ar cr L R) := boxed h1 h2 _
  have hd0 : (w.alloc (.cells #[.slice ao L.length co, .slice ar R.length cr] 25)).cell? ⟨w.heap.size, 0, none⟩ = some (.slice ao L.length co) := HBX.out.outs
  have hd1 : (w.alloc (.cells #[.slice ao L.length co, .slice ar R.length cr] 25)).cell? ⟨w.heap.size, 1, none⟩ = some (.slice ar R.length cr) := HBX.out.roots
  have hcO := HBX.out.capO
  have hcR := HBX.out.capR
  clear hv h1 h2
  by_cases h12 : 12 < L.length
  · have HC : Hid (chkH L R = 4) := by unfold Hid chkH; rw [if_pos (.inl h12)]
    have h12' : 12 < (L.length : Int) := by omega
    go_enter Tryd.func4, Tryd.ntmps4
    go_wp2
    go_ret
    exact ⟨by rw [HC.out]; rfl, HBX.out.below⟩
  have h12' : ¬ 12 < (L.length : Int) := by omega
  by_cases r12 : 12 < R.length
  · have HC : Hid (chkH L R = 4) := by unfold Hid chkH; rw [if_pos (.inr r12)]
    have r12' : 12 < (R.length : Int) := by omega
    go_enter Tryd.func4, Tryd.ntmps4
    go_wp2
    go_ret
    exact ⟨by rw [HC.out]; rfl, HBX.out.below⟩
  have r12' : ¬ 12 < (R.length : Int) := by omega
  have hsub : IntKind.i64.wrap ((L.length : Int) - 1) = (L.length : Int) - 1 := by rw [IntKind.wrap_i64]; omega
  have HCK : Hid (chkH L R = if R.any (badN L.length) then 1 else hRows L.length L) := by unfold Hid chkH; rw [if_neg (by omega)]
  cases hrb : R.any (badN L.length) with
  | true =>
    have HRB : Hid (R.any (badN L.length) = true) := hrb
    have HRN : Hid ((!R.any (badN L.length)) = false) := by unfold Hid; rw [hrb]; rfl
    clear hrb
    go_enter Tryd.func4, Tryd.ntmps4
    go_wp2_with (go_at_call 11; go_must (refine (rall_at HBX.out.ints HRN.out _ rfl).mono ?_; rintro e w' ⟨rfl, hw⟩; have hw := hw.symm; subst hw))
    go_ret
    exact ⟨by rw [HCK.out, HRB.out]; rfl, HBX.out.below⟩
  | false =>
    have HRB : Hid (R.any (badN L.length) = false) := hrb
    have HRN : Hid ((!R.any (badN L.length)) = true) := by unfold Hid; rw [hrb]; rfl
    clear hrb
    go_enter Tryd.func4, Tryd.ntmps4
    go_wp2_with (go_at_call 11; go_must (refine (rall_at HBX.out.ints HRN.out _ rfl).mono ?_; rintro e w' ⟨rfl, hw⟩; have hw := hw.symm; subst hw))
    clear hd0 hd1
    generalize w.alloc (.cells #[.slice ao L.length co, .slice ar R.length cr] 25) = W at *
    go_loopw [3] (fun i wr => ∃ k : Nat, k ≤ L.length ∧ i = .int .i64 (k : Nat) ∧ Hid (hRows L.length (L.take k) = 0) ∧ ∃ q, wr = W.drewN q) (fun i _ => L.length - (intOf i).toNat)
    case atStart => exact ⟨0, by omega, rfl, by simp [Hid, hRows], 0, rfl⟩
    case round =>
      obtain ⟨k, hk, rfl, HA, q, hq⟩ := hrel
      have HB2 : Hid (Boxed w wr w.heap.size ao co ar cr L R) := by unfold Hid; rw [hq]; exact HBX.out.drewN q
      have HW0 : Hid (∀ n, ∃ q', wr.drewN n = W.drewN q') := fun n => ⟨q + n, by rw [hq, World.drewN_drewN]⟩
      have hd0 : wr.cell? ⟨w.heap.size, 0, none⟩ = some (.slice ao L.length co) := HB2.out.outs
      have HBF : Hid (∀ n, Below w.heap.size w (wr.drewN n)) := fun n => below_drewN HB2.out.below n
      clear hq
      by_cases hlt : k < L.length
      · obtain ⟨b, off, rfl, hlc, hbs, au, cu, hcu, hiu, hm, hcum⟩ := HB2.out.rows.at hlt
        have HIU : Hid (IsInts wr (.slice au (rowAt L k).length cu) (rowAt L k)) := hiu
        clear hiu hbs
        have hlt' : (k : Int) < (L.length : Int) := by omega
        have HRW : Hid (rowAt L k = L[k]?.getD []) := rfl
        by_cases h4 : 4 < (rowAt L k).length
        · have h4' : 4 < ((rowAt L k).length : Int) := by omega
          have HC : Hid (hRows L.length L = 4) := by
            have hr : hRow L.length (L[k]?.getD []) = 4 := by unfold hRow; rw [if_pos (by rw [← HRW.out]; exact h4)]
            unfold Hid
            rw [hRows_here hlt HA.out (by rw [hr]; decide), hr]
          go_wp2
          go_ret
          exact ⟨by rw [HCK.out, HRB.out, if_neg (by decide), HC.out]; rfl, HB2.out.below⟩
        · have h4' : ¬ 4 < ((rowAt L k).length : Int) := by omega
          cases hb : (rowAt L k).any (badN L.length) with
          | true =>
            have HBB : Hid ((rowAt L k).any (badN L.length) = true) := hb
            have HBN : Hid ((!(rowAt L k).any (badN L.length)) = false) := by unfold Hid; rw [hb]; rfl
            clear hb
            have HC : Hid (hRows L.length L = 1) := by
              have hr : hRow L.length (L[k]?.getD []) = 1 := by unfold hRow; rw [← HRW.out, if_neg h4, HBB.out]; rfl
              unfold Hid
              rw [hRows_here hlt HA.out (by rw [hr]; decide), hr]
            go_wp2
            go_quiet (first | (go_at_call 11; exact (rall_at HIU.out HBN.out _ (by rfl)).mono fun _ _ ⟨he, hm⟩ => ⟨he, _, hm⟩))
            go_wp2
            go_ret
            exact ⟨by rw [HCK.out, HRB.out, if_neg (by decide), HC.out]; rfl, HBF.out _⟩
          | false =>
            have HBB : Hid ((rowAt L k).any (badN L.length) = false) := hb
            have HBN : Hid ((!(rowAt L k).any (badN L.length)) = true) := by unfold Hid; rw [hb]; rfl
            clear hb
            have HC : Hid (hRows L.length (L.take (k+1)) = 0) := hRows_next hlt HA.out (by unfold hRow; rw [← HRW.out, if_neg h4, HBB.out]; rfl)
            go_wp2
            go_quiet (first | (go_at_call 11; exact (rall_at HIU.out HBN.out _ (by rfl)).mono fun _ _ ⟨he, hm⟩ => ⟨he, _, hm⟩))
            go_wp2
            go_roundw
            case rel => exact ⟨k + 1, by omega, by go_num, HC, HW0.out _⟩
            case measure => simp [intOf]; omega
      · have hlt' : ¬ (k : Int) < (L.length : Int) := by omega
        have HC : Hid (hRows L.length L = 0) := by have := HA.out; rwa [List.take_of_length_le (by omega)] at this
        go_wp2
        go_ret
        exact ⟨by rw [HCK.out, HRB.out, if_neg (by decide), HC.out]; rfl, HB2.out.below⟩
end Go.Proofs.YtennlinnclcngaaDoor
