/- The walks of graph.spread, Reach and Rounds. -/
import Derived.Test.YtmibnceadciidaaGCheck
import Derived.Test.YtmibnceadciidaaGSet
import Derived.Test.YtmibnceadciidaaGraphN
namespace Go.Proofs.Ytmibnceadciidaa
set_option maxRecDepth 100000
open Go.RowKit Go.Sort

theorem msk_union {m n : Nat} {A B C : List Int} (hm : Msk m A) (hn : Msk n B) (hC : ∀ x, x ∈ C ↔ x ∈ A ∨ x ∈ B) : Msk (m ||| n) C := by
  refine ⟨Nat.or_lt_two_pow (n := 16) hm.1 hn.1, fun i hi => ?_⟩
  rw [Nat.testBit_or, Bool.or_eq_true, hm.2 i hi, hn.2 i hi, hC]
theorem msk_bit {m : Nat} {A : List Int} (h : Msk m A) {i : Nat} (hi : i < 16) : m.testBit i = A.contains (i : Int) := by
  rw [Bool.eq_iff_iff, h.2 i hi, List.contains_iff_mem]
/-- The nodes found behind n turns and k nodes. -/
def spTo (L : List (List Int)) (A : List Int) (n k : Nat) : List Int := spreadPass (gOf L) (spreadAll (gOf L) (upTo L.length) A n) (upTo k)
theorem upTo_succ (k : Nat) : upTo (k+1) = upTo k ++ [(k : Int)] := by unfold upTo; rw [List.range_succ, List.map_append]; rfl
theorem spTo_zero (L : List (List Int)) (A : List Int) (n : Nat) : spTo L A n 0 = spreadAll (gOf L) (upTo L.length) A n := rfl
theorem spTo_last (L : List (List Int)) (A : List Int) (n : Nat) : spTo L A n L.length = spreadAll (gOf L) (upTo L.length) A (n+1) := rfl
theorem spTo_succ (L : List (List Int)) (A : List Int) (n k : Nat) : spTo L A n (k+1) = if (spTo L A n k).contains (k : Int) then addNew (spTo L A n k) (L[k]?.getD []) else spTo L A n k := by
  unfold spTo
  rw [upTo_succ, spreadPass_snoc, spreadStep, gOf_at]

set_option maxHeartbeats 2000000 in
theorem spread_any (v : Value) (L : List (List Int)) (R : List Int) (m : Nat) (A : List Int) (w : World) (hv : IsHeap w v L R) (hf : FineH L R) (hm : Msk m A) :
    Calls Try.prog 29 #[v, .int .i64 (m : Nat)] w fun e w' => (∃ m' : Nat, e = .returned (.int .i64 (m' : Nat)) ∧ Msk m' (spreadAll (gOf L) (upTo L.length) A L.length)) ∧ Below w.heap.size w w' := by
  obtain ⟨ao, co, ar, cr, rfl, h1, h2⟩ := hv.form
  have HBX : Hid (Boxed w (w.alloc (.cells #[.slice ao L.length co, .slice ar R.length cr] 28)) w.heap.size ao co ar cr L R) := boxed h1 h2 _
  have hd0 : (w.alloc (.cells #[.slice ao L.length co, .slice ar R.length cr] 28)).cell? ⟨w.heap.size, 0, none⟩ = some (.slice ao L.length co) := HBX.out.outs
  have hcO := HBX.out.capO
  have HF : Hid (FineH L R) := hf
  have hl12 := hf.few
  have HM : Hid (Msk m A) := hm
  clear hv h1 h2 hf hm
  go_enter Try.func29, Try.ntmps29
  go_wp2
  generalize w.alloc (.cells #[.slice ao L.length co, .slice ar R.length cr] 28) = W at *
  go_loop [1, 10] (fun s i => ∃ n m : Nat, n ≤ L.length ∧ i = .int .i64 n ∧ s = .int .i64 m ∧ Hid (Msk m (spTo L A n 0))) (fun _ i => L.length - (intOf i).toNat)
  case atStart => exact ⟨0, m, by omega, rfl, rfl, HM⟩
  case round =>
    obtain ⟨n, m1, hn, rfl, rfl, HM1⟩ := hrel
    by_cases hlt : n < L.length
    · have hlt' : (n : Int) < (L.length : Int) := by omega
      go_wp2
      go_loop [1, 15] (fun s i => ∃ k m : Nat, k ≤ L.length ∧ i = .int .i64 k ∧ s = .int .i64 m ∧ Hid (Msk m (spTo L A n k))) (fun _ i => L.length - (intOf i).toNat)
      case atStart => exact ⟨0, m1, by omega, rfl, rfl, HM1⟩
      case round =>
        obtain ⟨k, m2, hk, rfl, rfl, HM2⟩ := hrel
        by_cases hkt : k < L.length
        · have hkt' : (k : Int) < (L.length : Int) := by omega
          obtain ⟨b, off, rfl, hlc, hbs, au, cu, hcu, hiu, hmm, hcum⟩ := HBX.out.rows.at hkt
          have HIU : Hid (IsInts W (.slice au (rowAt L k).length cu) (rowAt L k)) := hiu
          have HRW : Hid (rowAt L k = L[k]?.getD []) := rfl
          have hall : allIn (rowAt L k) := fun x hx => by
            have := HF.out.node _ (rowAt_mem hkt) x hx; omega
          have HAL : Hid (allIn (rowAt L k)) := hall
          have HSM : Hid (Msk (setM (rowAt L k)) (rowAt L k)) := setM_msk hall
          have hs16 := HSM.out.1
          have hm16 : m2 < 65536 := HM2.out.1
          have HBIT : Hid (m2.testBit k = (spTo L A n k).contains (k : Int)) := msk_bit HM2.out (by omega)
          have HSU : Hid (spTo L A n (k+1) = if (spTo L A n k).contains (k : Int) then addNew (spTo L A n k) (L[k]?.getD []) else spTo L A n k) := spTo_succ _ _ _ _
          clear hiu hall hbs
          cases hb : m2.testBit k with
          | true =>
            have HBT : Hid (m2.testBit k = true) := hb
            have HM3 : Hid (Msk (m2 ||| setM (rowAt L k)) (spTo L A n (k+1))) := by
              unfold Hid
              rw [HSU.out, ← HBIT.out, HBT.out, if_pos rfl]
              exact msk_union HM2.out HSM.out fun x => by rw [addNew_mem, HRW.out]
            have HQ : Hid (bits .or .i64 (m2 : Int) (setM (rowAt L k) : Int) = ((m2 ||| setM (rowAt L k) : Nat) : Int)) := or64 _ _ (by omega) (by omega)
            clear hb
            go_wp2_with (first | (go_at_call 31; go_must (refine (ghas_any m2 k hm16 (by omega) _).mono ?_; rintro e w' ⟨rfl, hw⟩; have hw := hw.symm; subst hw; rw [HBT.out])) | (go_at_call 30; go_must (refine (setof_any _ _ _ HIU.out HAL.out).mono ?_; rintro e w' ⟨rfl, hw⟩; have hw := hw.symm; subst hw)))
            go_round
            case rel => exact ⟨k + 1, m2 ||| setM (rowAt L k), by omega, by go_num, by rw [HQ.out], HM3⟩
            case measure => simp [intOf]; omega
          | false =>
            have HBT : Hid (m2.testBit k = false) := hb
            have HM3 : Hid (Msk m2 (spTo L A n (k+1))) := by
              unfold Hid
              rw [HSU.out, ← HBIT.out, HBT.out, if_neg (by decide)]
              exact HM2.out
            clear hb
            go_wp2_with (go_at_call 31; go_must (refine (ghas_any m2 k hm16 (by omega) _).mono ?_; rintro e w' ⟨rfl, hw⟩; have hw := hw.symm; subst hw; rw [HBT.out]))
            go_round
            case rel => exact ⟨k + 1, m2, by omega, by go_num, rfl, HM3⟩
            case measure => simp [intOf]; omega
        · have hkt' : ¬ (k : Int) < (L.length : Int) := by omega
          have HM3 : Hid (Msk m2 (spTo L A (n+1) 0)) := by
            have := HM2.out
            rw [show k = L.length by omega, spTo_last, ← spTo_zero] at this
            exact this
          go_wp2
          go_round
          case rel => exact ⟨n + 1, m2, by omega, by go_num, rfl, HM3⟩
          case measure => simp [intOf]; omega
    · have hlt' : ¬ (n : Int) < (L.length : Int) := by omega
      have HM3 : Hid (Msk m1 (spreadAll (gOf L) (upTo L.length) A L.length)) := by
        have := HM1.out
        rw [show n = L.length by omega, spTo_zero] at this
        exact this
      go_wp2
      go_ret
      exact ⟨⟨m1, rfl, HM3.out⟩, HBX.out.below⟩
/-- What it comes to. -/
theorem spread_come {L : List (List Int)} {R S A : List Int} {m : Nat} (hf : FineH L R) (hA : A.Nodup) (hS : ∀ y, y ∈ A ↔ y ∈ S) (hS2 : ∀ x, x ∈ S → 0 ≤ x ∧ x < L.length) (hm : Msk m (spreadAll (gOf L) (upTo L.length) A L.length)) {i : Nat} (hi : i < 16) : m.testBit i = true ↔ Come (gOf L) S (i : Int) := by
  rw [hm.2 i hi]
  have := spread_all (g := gOf L) (nodes := upTo L.length) (A := A) (R := S) (fun x hx => gOf_out hx) hA hS (fun x hx => upTo_mem.2 (hf.come hS2 hx)) (i : Int)
  rwa [upTo_length] at this
/-- m has as its bits what some nodes come to. -/
def Comes (L : List (List Int)) (S : List Int) (m : Nat) : Prop := m < 65536 ∧ ∀ i : Nat, i < 16 → (m.testBit i = true ↔ Come (gOf L) S (i : Int))
theorem spread_comes (v : Value) (L : List (List Int)) (R S : List Int) (w : World) (hv : IsHeap w v L R) (hf : FineH L R) (hS : ∀ x, x ∈ S → 0 ≤ x ∧ x < L.length) :
    Calls Try.prog 29 #[v, .int .i64 (setM S : Nat)] w fun e w' => (∃ m' : Nat, e = .returned (.int .i64 (m' : Nat)) ∧ Comes L S m') ∧ Below w.heap.size w w' := by
  have h16 : allIn S := fun x hx => by have := hS x hx; have := hf.few; omega
  have hmem : ∀ y, y ∈ addNew [] S ↔ y ∈ S := fun y => by rw [addNew_mem]; simp
  refine (spread_any v L R (setM S) (addNew [] S) w hv hf (msk_same (setM_msk h16) fun x => (hmem x).symm)).mono ?_
  rintro e w' ⟨⟨m', rfl, hm'⟩, hb⟩
  exact ⟨⟨m', rfl, hm'.1, fun i hi => spread_come hf (addNew_nodup (by simp)) hmem hS hm' hi⟩, hb⟩
end Go.Proofs.Ytmibnceadciidaa
