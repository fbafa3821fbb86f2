/- The walks of the laws' own small functions of chapter 16: the closed fact, and an arena in which some was lent, packed and given back. -/
import Derived.Test.YtjcikoaoemingaaDoorFLend
import Derived.Test.YtjcikoaoemingaaDoorFBack
import Derived.Test.YtjcikoaoemingaaDoorFPack
import Derived.Test.YtjcikoaoemingaaDoorInts
import Derived.Test.YtjcikoaoemingaaDoorInRange
namespace Go.Proofs.YtjcikoaoemingaaDoor
open Go.RowKit Go.Sort

theorem fit_lend5 : lendG [] 5 = (0, 0, [(0, 5)]) := by decide +kernel
theorem fit_lend3 : lendG [(0, 5)] 3 = (5, 0, [(0, 5), (5, 3)]) := by decide +kernel
theorem fit_back0 : backG [(0, 5), (5, 3)] 0 = (0, [(5, 3)]) := by decide +kernel
theorem fit_holes1 : atsI (holes 0 [(5, 3)]) = [0, 8] := by decide +kernel
theorem fit_holes2 : ordsI (holes 0 [(5, 3)]) = [5, 56] := by decide +kernel

set_option maxHeartbeats 1000000 in
theorem fitFact_any (w : World) : Calls Tryd.prog 6 #[] w fun e w' => e = .returned (.bool true) ∧ Below w.heap.size w w' := by
  go_enter Tryd.func6, Tryd.ntmps6
  go_wp2_with (go_at_call 12; fail)
  refine (newF_any _).mono ?_
  rintro e w1 ⟨a, rfl, hA, hb⟩
  have HA1 : Hid (FAr w1 w.heap.size a []) := hA
  have HB1 : Hid (Below w.heap.size w w1) := hb
  clear hA hb
  have hn0 : errV 0 = .nilIface := rfl
  go_wp2_with (go_at_call 9; fail)
  refine (lendF_any _ _ _ _ _ HB1.out.size HA1.out).mono ?_
  rw [fit_lend5]
  rintro e w2 ⟨rfl, hA, ht⟩
  have HA2 : Hid (FAr w2 w.heap.size a [(0, 5)]) := hA
  have HB2 : Hid (Below w.heap.size w w2) := ht.below HB1.out HB1.out.size (Nat.le_refl _) hA.fromA
  clear hA ht HA1 HB1
  simp only [hn0]
  go_wp2_with (go_at_call 9; fail)
  refine (lendF_any _ _ _ _ _ HB2.out.size HA2.out).mono ?_
  rw [fit_lend3]
  rintro e w3 ⟨rfl, hA, ht⟩
  have HA3 : Hid (FAr w3 w.heap.size a [(0, 5), (5, 3)]) := hA
  have HB3 : Hid (Below w.heap.size w w3) := ht.below HB2.out HB2.out.size (Nat.le_refl _) hA.fromA
  clear hA ht HA2 HB2
  simp only [hn0]
  go_wp2_with (go_at_call 18; fail)
  refine (backF_any _ _ _ _ _ HA3.out).mono ?_
  rw [fit_back0]
  rintro e w4 ⟨rfl, hA, ht⟩
  have HA4 : Hid (FAr w4 w.heap.size a [(5, 3)]) := hA
  have HB4 : Hid (Below w.heap.size w w4) := ht.below HB3.out HB3.out.size (Nat.le_refl _) hA.fromA
  clear hA ht HA3 HB3
  simp only [hn0]
  go_wp2_with (go_at_call 8; fail)
  refine (holesF_any _ _ _ _ HA4.out).mono ?_
  rw [fit_holes1, fit_holes2]
  rintro e w5 ⟨v1, v2, rfl, h1, h2, hb⟩
  have HB5 : Hid (Below w.heap.size w w5) := HB4.out.trans (hb.mono HB4.out.size)
  have HO1 : Hid (IsInts w5 v1 [0, 8]) := h1.isInts
  have HO2 : Hid (IsInts w5 v2 [5, 56]) := h2.isInts
  clear h1 h2 hb HA4 HB4
  go_wp2_with (go_at_call 15; fail)
  refine (ints_same _ _ [0, 8] _ (HO1.out.below ((Below.refl _ w5).alloc (Nat.le_refl _) _)) (two_new _ _ _)).mono ?_
  rintro e w6 ⟨rfl, q6, hw6⟩
  have hb6 : Below w5.heap.size w5 w6 := by rw [hw6]; exact below_drewN ((Below.refl _ w5).alloc (Nat.le_refl _) _) q6
  have HB6 : Hid (Below w.heap.size w w6) := HB5.out.trans (hb6.mono HB5.out.size)
  have HO3 : Hid (IsInts w6 v2 [5, 56]) := HO2.out.below hb6
  clear hw6 hb6 HB5 HO1 HO2
  go_wp2_with (go_at_call 15; fail)
  refine (ints_same _ _ [5, 56] _ (HO3.out.below ((Below.refl _ w6).alloc (Nat.le_refl _) _)) (two_new _ _ _)).mono ?_
  rintro e w7 ⟨rfl, q7, hw7⟩
  have HB7 : Hid (Below w.heap.size w w7) := by unfold Hid; rw [hw7]; exact below_drewN (HB6.out.alloc HB6.out.size _) q7
  clear hw7 HB6 HO3
  go_wp2
  go_ret
  exact ⟨rfl, HB7.out⟩

set_option maxRecDepth 100000 in
set_option maxHeartbeats 2000000 in
theorem fitted_any (v : Value) (l : List Int) (w : World) (hv : IsInts w v l) (hform : ∃ ao cap, v = .slice ao l.length cap) :
    Calls Tryd.prog 7 #[v] w fun e w' => ∃ a, e = .returned (.pointer (some ⟨a, 0, none⟩)) ∧ (∃ L, FAr w' w.heap.size a L) ∧ Below w.heap.size w w' := by
  have HV : Hid (IsInts w v l) := hv
  obtain ⟨ao, cap, rfl⟩ := hform
  clear hv
  go_enter Tryd.func7, Tryd.ntmps7
  go_wp2_with (go_at_call 12; go_must (refine (newF_any _).mono ?_; rintro e w1 ⟨a, rfl, hA, hb⟩; have HA1 : Hid (FAr w1 w.heap.size a []) := hA; have HB1 : Hid (Below w.heap.size w w1) := hb; clear hA hb))
  go_loopw [4] (fun i wr => ∃ (k : Nat) (L : List (Nat × Nat)), i = .int .i64 (k : Nat) ∧ k ≤ l.length ∧ k ≤ 100 ∧ FAr wr w.heap.size a L ∧ Below w.heap.size w wr) (fun i _ => 100 - (RowKit.intOf i).toNat)
  case atStart => exact ⟨0, [], rfl, Nat.zero_le _, Nat.zero_le _, HA1.out, HB1.out⟩
  case round =>
    obtain ⟨k, L, rfl, hkl, hk1, hA, hb⟩ := hrel
    have HA2 : Hid (FAr wr w.heap.size a L) := hA
    have HB2 : Hid (Below w.heap.size w wr) := hb
    clear hA hb HA1 HB1
    by_cases hlt : k < l.length ∧ k < 100
    · obtain ⟨h1, h2⟩ := hlt
      have h1' : (k : Int) < (l.length : Int) := by omega
      have h2' : (k : Int) < 100 := by omega
      rcases HV.out with ⟨rfl, _⟩ | ⟨g, off, cap', hv, hp, hlc, hm, hc⟩
      · simp at h1
      · simp only [Value.slice.injEq, true_and] at hv
        obtain ⟨rfl, rfl⟩ := hv
        have hck := hc k h1
        have hgl : g < w.heap.size := World.block_lt_of_cell? w _ hck
        have hcw : wr.cell? ⟨g, off + k, none⟩ = some (.int .i64 (l[k]?.getD 0)) := by
          rw [HB2.out.cell (p := ⟨g, off + k, none⟩) hgl]; exact hck
        clear hc hck hgl HV
        generalize l[k]?.getD 0 = s at *
        by_cases hs : 0 < s
        · have HLE : Hid (∀ w0, w0 = wr → Calls Tryd.prog 9 #[.pointer (some ⟨a, 0, none⟩), .int .i64 s] w0 fun e w' => (∃ v, e = .returned v) ∧ ∃ M, FAr w' w.heap.size a M ∧ Below w.heap.size w w') := by
            rintro w0 rfl
            refine (lendF_any _ _ _ s _ HB2.out.size HA2.out).mono ?_
            rintro e w' ⟨rfl, hA, ht⟩
            exact ⟨⟨_, rfl⟩, _, hA, ht.below HB2.out HB2.out.size (Nat.le_refl _) hA.fromA⟩
          go_wp2_with (go_at_call 9; go_must (refine (HLE.out _ rfl).mono ?_; rintro e w3 ⟨⟨v, rfl⟩, M, hA, hb⟩; have HA3 : Hid (FAr w3 w.heap.size a M) := hA; have HB3 : Hid (Below w.heap.size w w3) := hb; clear hA hb))
          go_roundw
          case rel => exact ⟨k + 1, M, by go_num, by omega, by omega, HA3.out, HB3.out⟩
          case measure => simp [RowKit.intOf]; omega
        · by_cases hs0 : s = 0
          · have HLE : Hid (∀ w0, w0 = wr → Calls Tryd.prog 16 #[.pointer (some ⟨a, 0, none⟩)] w0 fun e w' => (∃ v, e = .returned v) ∧ ∃ M, FAr w' w.heap.size a M ∧ Below w.heap.size w w') := by
              rintro w0 rfl
              refine (packF_any _ _ _ _ HA2.out).mono ?_
              rintro e w' ⟨v1, rfl, _, hA, ht⟩
              exact ⟨⟨_, rfl⟩, _, hA, ht.below HB2.out HB2.out.size (Nat.le_refl _) hA.fromA⟩
            subst hs0
            go_wp2_with (go_at_call 16; go_must (refine (HLE.out _ rfl).mono ?_; rintro e w3 ⟨⟨v, rfl⟩, M, hA, hb⟩; have HA3 : Hid (FAr w3 w.heap.size a M) := hA; have HB3 : Hid (Below w.heap.size w w3) := hb; clear hA hb))
            go_roundw
            case rel => exact ⟨k + 1, M, by go_num, by omega, by omega, HA3.out, HB3.out⟩
            case measure => simp [RowKit.intOf]; omega
          · have HLE : Hid (∀ w0 z, w0 = wr → Calls Tryd.prog 18 #[.pointer (some ⟨a, 0, none⟩), .int .i64 z] w0 fun e w' => (∃ v, e = .returned v) ∧ ∃ M, FAr w' w.heap.size a M ∧ Below w.heap.size w w') := by
              rintro w0 z rfl
              refine (backF_any _ _ _ z _ HA2.out).mono ?_
              rintro e w' ⟨rfl, hA, ht⟩
              exact ⟨⟨_, rfl⟩, _, hA, ht.below HB2.out HB2.out.size (Nat.le_refl _) hA.fromA⟩
            have hs0' : (s == 0) = false := by simpa using hs0
            clear hs0
            go_wp2_with (go_at_call 18; go_must (refine (HLE.out _ _ rfl).mono ?_; rintro e w3 ⟨⟨v, rfl⟩, M, hA, hb⟩; have HA3 : Hid (FAr w3 w.heap.size a M) := hA; have HB3 : Hid (Below w.heap.size w w3) := hb; clear hA hb))
            go_roundw
            case rel => exact ⟨k + 1, M, by go_num, by omega, by omega, HA3.out, HB3.out⟩
            case measure => simp [RowKit.intOf]; omega
    · by_cases h1 : k < l.length
      · have h1' : (k : Int) < (l.length : Int) := by omega
        have h2' : ¬ (k : Int) < 100 := by omega
        clear hlt
        go_wp2
        go_ret
        exact ⟨_, rfl, ⟨L, HA2.out⟩, HB2.out⟩
      · have h1' : ¬ (k : Int) < (l.length : Int) := by omega
        clear hlt
        go_wp2
        go_ret
        exact ⟨_, rfl, ⟨L, HA2.out⟩, HB2.out⟩
end Go.Proofs.YtjcikoaoemingaaDoor
