/- The walk of TopPlaces: what blocks that are halved have room for has room where it fits first. -/
import Derived.Test.YtjcikoaoemingaaDoorTopPl
namespace Go.Proofs.YtjcikoaoemingaaDoor
open Go.RowKit Go.Maps Go.Sort

theorem in_top (n lo hi : Int) (w : World) :
    Calls Tryd.prog 24 #[.int .i64 n, .int .i64 lo, .int .i64 hi] w fun e w' => e = .returned (.bool (decide (lo ≤ n) && decide (n ≤ hi))) ∧ w' = w := by
  go_enter Tryd.func24, Tryd.ntmps24
  go_wp2
  all_goals go_ret
  all_goals (refine ⟨?_, rfl⟩; refine congrArg Ending.returned ?_; show Value.bool _ = _; congr 1; simp_all; try omega)

set_option maxRecDepth 100000 in
set_option maxHeartbeats 2000000 in
theorem topPlaces_any (v : Value) (l : List Int) (w : World) (hv : IsInts w v l) (hform : ∃ ao cap, v = .slice ao l.length cap) (hT : Tabbed w) :
    Calls Tryd.prog 5 #[v] w fun e w' => e = .returned (.bool true) ∧ Below w.heap.size w w' := by
  have HT : Hid (Tabbed w) := hT
  have HTL : Hid (1 < w.heap.size) := hT.lt
  have HV : Hid (IsInts w v l) := hv
  obtain ⟨ao, cap, rfl⟩ := hform
  clear hT hv
  go_enter Tryd.func5, Tryd.ntmps5
  go_wp2_with (go_at_call 21; fail)
  refine (new_any Unit _).mono ?_
  rintro e w1 ⟨a, b, rfl, hA, hb⟩
  have HA1 : Hid (Arena Unit w1 w.heap.size a b []) := hA
  have HB1 : Hid (Below w.heap.size w w1) := hb
  clear hA hb
  go_wp2_with (go_at_call 12; fail)
  refine (newF_any _).mono ?_
  rintro e w2 ⟨fa, rfl, hF, hb⟩
  have HA2 : Hid (Arena Unit w2 w.heap.size a b []) := HA1.out.later hb
  have HF2 : Hid (FAr w2 w1.heap.size fa []) := hF
  have HB2 : Hid (Below w.heap.size w w2) := HB1.out.trans (hb.mono HB1.out.size)
  have hw1 := HB1.out.size
  clear hF hb HA1 HB1
  have hn0 : errV 0 = .nilIface := rfl
  have h00 : ((0 : Nat) : Int) = 0 := rfl
  go_wp2_with (go_at_call 22; fail)
  refine (lend_any Unit _ _ _ _ _ _ HA2.out (HT.out.below HB2.out HTL.out) HTL.out).mono ?_
  rw [top_lend6]
  simp only [hn0, h00]
  rintro e w3 ⟨rfl, hA, ht⟩
  have HA3 : Hid (Arena Unit w3 w.heap.size a b [(0, 6)]) := hA
  have HF3 : Hid (FAr w3 w1.heap.size fa []) := HF2.out.turn HA2.out ht
  have HB3 : Hid (Below w.heap.size w w3) := ht.below HB2.out HB2.out.size hA.fromA hA.fromB
  clear hA ht HA2 HF2 HB2
  obtain ⟨ve, hve⟩ : ∃ ve, ve = errV 4 := ⟨_, rfl⟩
  have hvi : ∃ x : Int, ve = .iface 54 (.int .i64 x) := ⟨4, by rw [hve]; exact errV_pos (by omega)⟩
  go_wp2_with (go_at_call 22; fail)
  refine (lend_any Unit _ _ _ _ _ _ HA3.out (HT.out.below HB3.out HTL.out) HTL.out).mono ?_
  rw [top_lend0]
  simp only [h00]
  rintro e w4 ⟨rfl, hA, ht⟩
  have HA4 : Hid (Arena Unit w4 w.heap.size a b [(0, 6)]) := hA
  have HF4 : Hid (FAr w4 w1.heap.size fa []) := HF3.out.turn HA3.out ht
  have HB4 : Hid (Below w.heap.size w w4) := ht.below HB3.out HB3.out.size hA.fromA hA.fromB
  clear hA ht HA3 HF3 HB3
  simp only [← hve]
  obtain ⟨xe, rfl⟩ := hvi
  clear hve
  go_wp2_with (go_at_call 23; fail)
  refine (back_any Unit _ _ _ _ 0 (by omega) (by omega) _ HA4.out).mono ?_
  rw [top_back0]
  rintro e w5 ⟨rfl, hA, ht⟩
  have HA5 : Hid (Arena Unit w5 w.heap.size a b []) := hA
  have HF5 : Hid (FAr w5 w1.heap.size fa []) := HF4.out.turn HA4.out ht
  have HB5 : Hid (Below w.heap.size w w5) := ht.below HB4.out HB4.out.size hA.fromA hA.fromB
  clear hA ht HA4 HF4 HB4
  simp only [hn0]
  go_wp2
  go_loopw [9] (fun vi wr => ∃ (k : Nat) (L F : List (Nat × Nat)), vi = .int .i64 (k : Nat) ∧ k ≤ l.length ∧ k ≤ 70 ∧ Arena Unit wr w.heap.size a b L ∧ FAr wr w1.heap.size fa (packF 0 F) ∧ Below w.heap.size w wr ∧ sumF F = sizeB L ∧ ∀ b, b ∈ F → 1 ≤ b.2) (fun vi _ => 70 - (RowKit.intOf vi).toNat)
  case atStart => exact ⟨0, [], [], rfl, Nat.zero_le _, Nat.zero_le _, HA5.out, HF5.out, HB5.out, rfl, fun b hb => by simp at hb⟩
  case round =>
    obtain ⟨k, L, F, rfl, hkl, hk70, hA, hF, hb, hsz, hone⟩ := hrel
    have HA6 : Hid (Arena Unit wr w.heap.size a b L) := hA
    have HF6 : Hid (FAr wr w1.heap.size fa (packF 0 F)) := hF
    have HB6 : Hid (Below w.heap.size w wr) := hb
    have HSZ : Hid (sumF F = sizeB L ∧ ∀ b, b ∈ F → 1 ≤ b.2) := ⟨hsz, hone⟩
    clear hA hF hb hsz hone HA5 HF5 HB5
    by_cases hlt : k < l.length ∧ k < 70
    · obtain ⟨h1, h2⟩ := hlt
      have h1' : (k : Int) < (l.length : Int) := by omega
      have h2' : (k : Int) < 70 := by omega
      rcases HV.out with ⟨rfl, _⟩ | ⟨g, off, cap', hv, hp, hlc, hm, hc⟩
      · simp at h1
      · simp only [Value.slice.injEq, true_and] at hv
        obtain ⟨rfl, rfl⟩ := hv
        have hck := hc k h1
        have hgl : g < w.heap.size := World.block_lt_of_cell? w _ hck
        have HCW : Hid (∀ W, Below w.heap.size w W → W.cell? ⟨g, off + k, none⟩ = some (.int .i64 (l[k]?.getD 0))) := fun W hW => (hW.cell (p := ⟨g, off + k, none⟩) hgl).trans hck
        have hcw := HCW.out _ HB6.out
        clear hc hck hgl HV
        generalize l[k]?.getD 0 = s at *
        by_cases hs : 0 ≤ s ∧ s ≤ 6
        · obtain ⟨o, rfl⟩ : ∃ o : Nat, s = o := ⟨s.toNat, by omega⟩
          have ho : o ≤ 6 := by omega
          have hin : (decide ((0 : Int) ≤ (o : Int)) && decide ((o : Int) ≤ 6)) = true := by
            rw [Bool.and_eq_true, decide_eq_true_eq, decide_eq_true_eq]; omega
          clear hs
          go_wp2_with (go_at_call 24; fail)
          refine (in_top (o : Nat) 0 6 _).mono ?_
          rw [hin]
          rintro e w6 ⟨rfl, rfl⟩
          clear hin
          go_wp2_with (go_at_call 22; fail)
          refine (lend_any Unit _ _ _ _ (o : Nat) _ HA6.out (HT.out.below HB6.out HTL.out) HTL.out).mono ?_
          rcases both_lend ho HA6.out.okay HSZ.out.1 HSZ.out.2 with hl | ⟨p, hl, hg, hsz, hone⟩
          · rw [hl]
            rintro e w7 ⟨rfl, hA, ht⟩
            have HA7 : Hid (Arena Unit w7 w.heap.size a b L) := hA
            have HF7 : Hid (FAr w7 w1.heap.size fa (packF 0 F)) := HF6.out.turn HA6.out ht
            have HB7 : Hid (Below w.heap.size w w7) := ht.below HB6.out HB6.out.size hA.fromA hA.fromB
            have hcw7 := HCW.out _ HB7.out
            obtain ⟨ve, hve⟩ : ∃ ve, ve = errV 4 := ⟨_, rfl⟩
            have hvi : ∃ x : Int, ve = .iface 54 (.int .i64 x) := ⟨4, by rw [hve]; exact errV_pos (by omega)⟩
            simp only [← hve]
            obtain ⟨xe, rfl⟩ := hvi
            clear hve hA ht hl HA6 HF6 HB6 hcw
            go_wp2_with (go_at_call 25; fail)
            refine (pow_any o (by omega) _).mono ?_
            rintro e w8 ⟨rfl, rfl⟩
            go_wp2_with (go_at_call 9; fail)
            refine (lendF_any w1.heap.size fa (packF 0 F) ((2 ^ o : Nat) : Int) _ (by have := HF7.out.fromA; have := HF7.out.lt; omega) HF7.out).mono ?_
            obtain ⟨p2, c2, M2, hq2⟩ : ∃ p2 c2 M2, lendG (packF 0 F) ((2 ^ o : Nat) : Int) = (p2, c2, M2) := ⟨_, _, _, rfl⟩
            rw [hq2]
            rintro e w9 ⟨rfl, hF, ht⟩
            have HB9 : Hid (Below w.heap.size w w9) := ht.below HB7.out HB7.out.size hw1 (by have := hF.fromA; omega)
            clear hF ht hq2
            generalize errV c2 = ve2 at *
            go_wp2
            go_ret
            exact ⟨rfl, HB9.out⟩
          · rw [hl]
            rintro e w7 ⟨rfl, hA, ht⟩
            have HA7 : Hid (Arena Unit w7 w.heap.size a b (insP p o L)) := hA
            have HF7 : Hid (FAr w7 w1.heap.size fa (packF 0 F)) := HF6.out.turn HA6.out ht
            have HB7 : Hid (Below w.heap.size w w7) := ht.below HB6.out HB6.out.size hA.fromA hA.fromB
            have hcw7 := HCW.out _ HB7.out
            have HSN : Hid (sumF (F ++ [(0, 2 ^ o)]) = sizeB (insP p o L) ∧ ∀ b, b ∈ F ++ [(0, 2 ^ o)] → 1 ≤ b.2) := ⟨hsz, hone⟩
            have HG : Hid (lendG (packF 0 F) ((2 ^ o : Nat) : Int) = (sizeB L, 0, packF 0 (F ++ [(0, 2 ^ o)]))) := hg
            simp only [hn0]
            clear hA ht hl HA6 HF6 HB6 hcw hsz hone hg HSZ
            go_wp2_with (go_at_call 25; fail)
            refine (pow_any o (by omega) _).mono ?_
            rintro e w8 ⟨rfl, rfl⟩
            go_wp2_with (go_at_call 9; fail)
            refine (lendF_any w1.heap.size fa (packF 0 F) ((2 ^ o : Nat) : Int) _ (by have := HF7.out.fromA; have := HF7.out.lt; omega) HF7.out).mono ?_
            rw [HG.out]
            rintro e w9 ⟨rfl, hF, ht⟩
            have HA9 : Hid (Arena Unit w9 w.heap.size a b (insP p o L)) := ht.arena HA7.out HF7.out
            have HF9 : Hid (FAr w9 w1.heap.size fa (packF 0 (F ++ [(0, 2 ^ o)]))) := hF
            have HB9 : Hid (Below w.heap.size w w9) := ht.below HB7.out HB7.out.size hw1 (by have := hF.fromA; omega)
            simp only [hn0]
            clear hF ht HA7 HF7 HB7 hcw7
            go_wp2
            go_roundw
            case rel => exact ⟨k + 1, _, _, by go_num, by omega, by omega, HA9.out, HF9.out, HB9.out, HSN.out⟩
            case measure => simp [RowKit.intOf]; omega
        · have hin : (decide ((0 : Int) ≤ s) && decide (s ≤ 6)) = false := by
            rw [Bool.and_eq_false_iff, decide_eq_false_iff_not, decide_eq_false_iff_not]; omega
          clear hs
          go_wp2_with (go_at_call 24; fail)
          refine (in_top s 0 6 _).mono ?_
          rw [hin]
          rintro e w6 ⟨rfl, rfl⟩
          clear hin
          go_wp2
          go_ret
          exact ⟨rfl, HB6.out⟩
    · by_cases h1 : k < l.length
      · have h1' : (k : Int) < (l.length : Int) := by omega
        have h2' : ¬ (k : Int) < 70 := by omega
        clear hlt
        go_wp2
        go_ret
        exact ⟨rfl, HB6.out⟩
      · have h1' : ¬ (k : Int) < (l.length : Int) := by omega
        clear hlt
        go_wp2
        go_ret
        exact ⟨rfl, HB6.out⟩
end Go.Proofs.YtjcikoaoemingaaDoor
