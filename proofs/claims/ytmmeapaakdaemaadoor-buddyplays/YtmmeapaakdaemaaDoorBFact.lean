/- The walks of the laws' own small functions of chapter 15: in, Pow2, the closed fact, an arena in which some was lent. -/
import Derived.Test.YtmmeapaakdaemaaDoorBLent
import Derived.Test.YtmmeapaakdaemaaDoorInts
namespace Go.Proofs.YtmmeapaakdaemaaDoor
open Go.RowKit Go.Maps Go.Sort

theorem in_range (n lo hi : Int) (w : World) :
    Calls Tryd.prog 12 #[.int .i64 n, .int .i64 lo, .int .i64 hi] w fun e w' => e = .returned (.bool (decide (lo ≤ n) && decide (n ≤ hi))) ∧ w' = w := by
  go_enter Tryd.func12, Tryd.ntmps12
  go_wp2
  all_goals go_ret
  all_goals (refine ⟨?_, rfl⟩; refine congrArg Ending.returned ?_; show Value.bool _ = _; congr 1; simp_all; try omega)
theorem pow_any (k : Nat) (hk : k ≤ 7) (w : World) :
    Calls Tryd.prog 11 #[.int .i64 (k : Nat)] w fun e w' => e = .returned (.int .i64 ((2 ^ k : Nat))) ∧ w' = w := by
  go_enter Tryd.func11, Tryd.ntmps11
  go_wp2
  go_loopw [3, 4] (fun s i wr => ∃ j : Nat, j ≤ k ∧ i = .int .i64 (j : Nat) ∧ s = .int .i64 ((2 ^ j : Nat)) ∧ wr = w) (fun _ i _ => k - (RowKit.intOf i).toNat)
  case atStart => exact ⟨0, Nat.zero_le _, rfl, rfl, rfl⟩
  case round =>
    obtain ⟨j, hj, rfl, rfl, rfl⟩ := hrel
    by_cases hjk : j = k
    · subst hjk
      have HP : Hid ((2 ^ j : Nat) = 2 ^ j) := rfl
      generalize hx : (2 ^ j : Nat) = x at *
      go_wp2
      go_ret
      exact ⟨rfl, rfl⟩
    · have hlt : (j : Int) < (k : Int) := by omega
      have h7 : (2 ^ j : Nat) ≤ 2 ^ 7 := Nat.pow_le_pow_right (by decide) (by omega)
      have HX : Hid ((2 ^ (j + 1) : Nat) = 2 ^ j * 2) := Nat.pow_succ ..
      generalize (2 ^ j : Nat) = x at *
      go_wp2
      go_roundw
      case rel => exact ⟨j + 1, by omega, by go_num, by rw [HX.out]; go_num, trivial⟩
      case measure => simp [RowKit.intOf]; omega

theorem fact_lend3 : lendF [] 3 = (0, 0, [(0, 3)]) := by decide +kernel
theorem fact_lend2 : lendF [(0, 3)] 2 = (8, 0, [(0, 3), (8, 2)]) := by decide +kernel
theorem fact_free2 : freeI [(0, 3), (8, 2)] 2 = [12] := by decide +kernel
theorem fact_free4 : freeI [(0, 3), (8, 2)] 4 = [16] := by decide +kernel
theorem one_new (w : World) (x : Int) : IsInts (w.alloc (.cells #[.int .i64 x] 3)) (.slice (some ⟨w.heap.size, 0, none⟩) 1 1) [x] :=
  isInts_new (l := [x]) (t := 3) (cur := #[.int .i64 x]) rfl (by simp) (heap_alloc_new _ _)
set_option maxHeartbeats 1000000 in
theorem fact_any (w : World) (hT : Tabbed w) : Calls Tryd.prog 7 #[] w fun e w' => e = .returned (.bool true) ∧ Below w.heap.size w w' := by
  have HT : Hid (Tabbed w) := hT
  have HTL : Hid (0 < w.heap.size) := hT.lt
  clear hT
  go_enter Tryd.func7, Tryd.ntmps7
  go_wp2_with (go_at_call 17; fail)
  refine (new_any Unit _).mono ?_
  rintro e w1 ⟨a, b, rfl, hA, hb⟩
  have HA1 : Hid (Arena Unit w1 w.heap.size a b []) := hA
  have HB1 : Hid (Below w.heap.size w w1) := hb
  clear hA hb
  go_wp2_with (go_at_call 15; fail)
  refine (lend_any Unit _ _ _ _ _ _ HA1.out (HT.out.below HB1.out HTL.out) HTL.out).mono ?_
  rw [fact_lend3]
  rintro e w2 ⟨rfl, hA, ht⟩
  have HA2 : Hid (Arena Unit w2 w.heap.size a b [(0, 3)]) := hA
  have HB2 : Hid (Below w.heap.size w w2) := ht.below HB1.out HB1.out.size hA.fromA hA.fromB
  clear hA ht HA1 HB1
  have hn0 : errV 0 = .nilIface := rfl
  simp only [hn0]
  go_wp2_with (go_at_call 15; fail)
  refine (lend_any Unit _ _ _ _ _ _ HA2.out (HT.out.below HB2.out HTL.out) HTL.out).mono ?_
  rw [fact_lend2]
  rintro e w3 ⟨rfl, hA, ht⟩
  have HA3 : Hid (Arena Unit w3 w.heap.size a b [(0, 3), (8, 2)]) := hA
  have HB3 : Hid (Below w.heap.size w w3) := ht.below HB2.out HB2.out.size hA.fromA hA.fromB
  clear hA ht HA2 HB2
  simp only [hn0]
  go_wp2_with (go_at_call 10; fail)
  refine (free_any Unit _ _ _ _ _ _ HA3.out (HT.out.below HB3.out HTL.out)).mono ?_
  rw [fact_free2]
  rintro e w4 ⟨v4, rfl, ho, hb⟩
  have HA4 : Hid (Arena Unit w4 w.heap.size a b [(0, 3), (8, 2)]) := HA3.out.later hb
  have HB4 : Hid (Below w.heap.size w w4) := HB3.out.trans (hb.mono HB3.out.size)
  have HO4 : Hid (IsInts w4 v4 [12]) := ho.isInts
  clear ho hb HA3 HB3
  go_wp2_with (go_at_call 14; fail)
  refine (ints_same _ _ [12] _ (HO4.out.below ((Below.refl _ w4).alloc (Nat.le_refl _) _)) (one_new _ _)).mono ?_
  rintro e w5 ⟨rfl, q5, hw5⟩
  have hb5 : Below w4.heap.size w4 w5 := by rw [hw5]; exact below_drewN ((Below.refl _ w4).alloc (Nat.le_refl _) _) q5
  have HA5 : Hid (Arena Unit w5 w.heap.size a b [(0, 3), (8, 2)]) := HA4.out.later hb5
  have HB5 : Hid (Below w.heap.size w w5) := HB4.out.trans (hb5.mono HB4.out.size)
  clear hw5 hb5 HA4 HB4 HO4
  go_wp2_with (go_at_call 10; fail)
  refine (free_any Unit _ _ _ _ _ _ HA5.out (HT.out.below HB5.out HTL.out)).mono ?_
  rw [fact_free4]
  rintro e w6 ⟨v6, rfl, ho, hb⟩
  have HB6 : Hid (Below w.heap.size w w6) := HB5.out.trans (hb.mono HB5.out.size)
  have HO6 : Hid (IsInts w6 v6 [16]) := ho.isInts
  clear ho hb HA5 HB5
  go_wp2_with (go_at_call 14; fail)
  refine (ints_same _ _ [16] _ (HO6.out.below ((Below.refl _ w6).alloc (Nat.le_refl _) _)) (one_new _ _)).mono ?_
  rintro e w7 ⟨rfl, q7, hw7⟩
  have HB7 : Hid (Below w.heap.size w w7) := by unfold Hid; rw [hw7]; exact below_drewN (HB6.out.alloc HB6.out.size _) q7
  clear hw7 HB6 HO6
  go_wp2
  go_ret
  exact ⟨rfl, HB7.out⟩

/-- One step: lending, or giving back. -/
def stepF (L : List (Nat × Nat)) (s : Int) : List (Nat × Nat) := if 0 ≤ s then (lendF L s).2.2 else (backF L (wrap64 (-1 - s))).2
set_option maxHeartbeats 1000000 in
theorem lent_some (v : Value) (l : List Int) (w : World) (hv : IsInts w v l) (hform : ∃ ao cap, v = .slice ao l.length cap) (hT : Tabbed w) :
    Calls Tryd.prog 8 #[v] w fun e w' => ∃ a, e = .returned (.pointer (some ⟨a, 0, none⟩)) ∧ (∃ b L, Arena Unit w' w.heap.size a b L) ∧ Below w.heap.size w w' := by
  have HT : Hid (Tabbed w) := hT
  have HTL : Hid (0 < w.heap.size) := hT.lt
  have HV : Hid (IsInts w v l) := hv
  obtain ⟨ao, cap, rfl⟩ := hform
  clear hT hv
  go_enter Tryd.func8, Tryd.ntmps8
  go_wp2_with (go_at_call 17; go_must (refine (new_any Unit _).mono ?_; rintro e w1 ⟨a, b, rfl, hA, hb⟩; have HA1 : Hid (Arena Unit w1 w.heap.size a b []) := hA; have HB1 : Hid (Below w.heap.size w w1) := hb; clear hA hb))
  go_loopw [4] (fun i wr => ∃ (k : Nat) (L : List (Nat × Nat)), i = .int .i64 (k : Nat) ∧ k ≤ l.length ∧ k ≤ 100 ∧ Arena Unit wr w.heap.size a b L ∧ Below w.heap.size w wr) (fun i _ => 100 - (RowKit.intOf i).toNat)
  case atStart => exact ⟨0, [], rfl, Nat.zero_le _, Nat.zero_le _, HA1.out, HB1.out⟩
  case round =>
    obtain ⟨k, L, rfl, hkl, hk1, hA, hb⟩ := hrel
    have HA2 : Hid (Arena Unit wr w.heap.size a b L) := hA
    have HB2 : Hid (Below w.heap.size w wr) := hb
    clear hA hb HA1 HB1
    by_cases hlt : k < l.length ∧ k < 100
    · obtain ⟨h1, h2⟩ := hlt
      have h1' : (k : Int) < (l.length : Int) := by omega
      have h2' : (k : Int) < 100 := by omega
      rcases HV.out with ⟨rfl, _⟩ | ⟨g, off, cap', hv, hp, hlc, hm, hc⟩
      · simp at h1
      · simp only [Value.slice.injEq, true_and] at hv
        obtain ⟨rfl, rfl⟩ := hv
        have hck := hc k h1
        have hgl : g < w.heap.size := World.block_lt_of_cell? w _ hck
        have hcw : wr.cell? ⟨g, off + k, none⟩ = some (.int .i64 (l[k]?.getD 0)) := by
          rw [HB2.out.cell (p := ⟨g, off + k, none⟩) hgl]; exact hck
        clear hc hck hgl HV
        generalize l[k]?.getD 0 = s at *
        by_cases hs : 0 ≤ s
        · have HLE : Hid (∀ w0, w0 = wr → Calls Tryd.prog 15 #[.pointer (some ⟨a, 0, none⟩), .int .i64 s] w0 fun e w' => (∃ v, e = .returned v) ∧ ∃ M, Arena Unit w' w.heap.size a b M ∧ Below w.heap.size w w') := by
            rintro w0 rfl
            refine (lend_any Unit _ _ _ _ s _ HA2.out (HT.out.below HB2.out HTL.out) HTL.out).mono ?_
            rintro e w' ⟨rfl, hA, ht⟩
            exact ⟨⟨_, rfl⟩, _, hA, ht.below HB2.out HB2.out.size hA.fromA hA.fromB⟩
          go_wp2_with (go_at_call 15; go_must (refine (HLE.out _ rfl).mono ?_; rintro e w3 ⟨⟨v, rfl⟩, M, hA, hb⟩; have HA3 : Hid (Arena Unit w3 w.heap.size a b M) := hA; have HB3 : Hid (Below w.heap.size w w3) := hb; clear hA hb))
          go_roundw
          case rel => exact ⟨k + 1, M, by go_num, by omega, by omega, HA3.out, HB3.out⟩
          case measure => simp [RowKit.intOf]; omega
        · have HLE : Hid (∀ w0 z, w0 = wr → z = wrap64 (-1 - s) → Calls Tryd.prog 13 #[.pointer (some ⟨a, 0, none⟩), .int .i64 z] w0 fun e w' => (∃ v, e = .returned v) ∧ ∃ M, Arena Unit w' w.heap.size a b M ∧ Below w.heap.size w w') := by
            rintro w0 z rfl rfl
            refine (back_any Unit _ _ _ _ _ (by unfold wrap64; omega) (by unfold wrap64; omega) _ HA2.out).mono ?_
            rintro e w' ⟨rfl, hA, ht⟩
            exact ⟨⟨_, rfl⟩, _, hA, ht.below HB2.out HB2.out.size hA.fromA hA.fromB⟩
          go_wp2_with (go_at_call 13; go_must (refine (HLE.out _ _ rfl rfl).mono ?_; rintro e w3 ⟨⟨v, rfl⟩, M, hA, hb⟩; have HA3 : Hid (Arena Unit w3 w.heap.size a b M) := hA; have HB3 : Hid (Below w.heap.size w w3) := hb; clear hA hb))
          go_roundw
          case rel => exact ⟨k + 1, M, by go_num, by omega, by omega, HA3.out, HB3.out⟩
          case measure => simp [RowKit.intOf]; omega
    · have hd : (decide ((k : Int) < (l.length : Int)) && decide ((k : Int) < 100)) = false := by
        rw [Bool.and_eq_false_iff, decide_eq_false_iff_not, decide_eq_false_iff_not]
        omega
      by_cases h1 : k < l.length
      · have h1' : (k : Int) < (l.length : Int) := by omega
        have h2' : ¬ (k : Int) < 100 := by omega
        go_wp2
        go_ret
        exact ⟨_, rfl, ⟨b, L, HA2.out⟩, HB2.out⟩
      · have h1' : ¬ (k : Int) < (l.length : Int) := by omega
        go_wp2
        go_ret
        exact ⟨_, rfl, ⟨b, L, HA2.out⟩, HB2.out⟩
end Go.Proofs.YtmmeapaakdaemaaDoor
