/- The walk of FitPack: when all is packed there is one hole at most, at the end. -/
import Derived.Test.YtjcikoaoemingaaFFact
import Derived.Test.YtjcikoaoemingaaFitSum
import Derived.Test.YtjcikoaoemingaaLawkit
namespace Go.Proofs.Ytjcikoaoemingaa
open Go.ChangeShapes Go.WideShapes Go.ChangeAt Go.RowKit Go.Sort

theorem pack_lend {L : List (Nat × Nat)} {n : Nat} (hn : 1 ≤ n) (h : sumF L + n = 64) : lendG (packF 0 L) (n : Nat) = (sumF L, 0, putF (sumF L) n (packF 0 L)) := by
  unfold lendG
  rw [if_neg (by omega), show ((n : Nat) : Int).toNat = n from rfl, packF_roomF hn, Nat.zero_add, if_pos (by omega)]

set_option maxRecDepth 100000 in
set_option maxHeartbeats 2000000 in
theorem fitPack_any (v : Value) (l : List Int) (w : World) (hv : IsInts w v l) (hform : ∃ ao cap, v = .slice ao l.length cap) :
    Calls Try.prog 4 #[v] w fun e w' => e = .returned (.bool true) ∧ Below w.heap.size w w' := by
  have HV : Hid (IsInts w v l) := hv
  have HFO : Hid (∃ ao cap, v = .slice ao l.length cap) := hform
  clear hv hform
  go_enter Try.func4, Try.ntmps4
  go_wp2_with (go_at_call 5; fail)
  refine (fitFact_any _).mono ?_
  rintro e w1 ⟨rfl, hb⟩
  have HB1 : Hid (Below w.heap.size w w1) := hb
  clear hb
  go_wp2_with (go_at_call 6; fail)
  refine (fitted_any v l _ (HV.out.below HB1.out) HFO.out).mono ?_
  rintro e w2 ⟨a, rfl, ⟨L, hA⟩, hb⟩
  have HA2 : Hid (FAr w2 w1.heap.size a L) := hA
  have HB2 : Hid (Below w.heap.size w w2) := HB1.out.trans (hb.mono HB1.out.size)
  have HL : Hid (LaidF 0 L) := hA.laid
  have h12 := HB1.out.size
  have hlm := hA.most
  clear hA hb HB1 HV HFO
  go_wp2_with (go_at_call 7; fail)
  refine (lentF_any _ _ _ _ HA2.out).mono ?_
  rintro e w3 ⟨v1, v2, rfl, _, h2, hb⟩
  have HA3 : Hid (FAr w3 w1.heap.size a L) := HA2.out.later hb
  have HB3 : Hid (Below w.heap.size w w3) := HB2.out.trans (hb.mono HB2.out.size)
  have HS3 : Hid (OwnI w3 w2.heap.size v2 (ordsI L)) := h2
  have h23 := hb.size
  clear h2 hb HA2
  go_wp2_with (go_at_call 9; fail)
  refine (packF_any _ _ _ _ HA3.out).mono ?_
  rintro e w4 ⟨v3, rfl, _, hA, ht⟩
  obtain ⟨v0, hbx0, _⟩ := HA3.out.row
  have HA4 : Hid (FAr w4 w1.heap.size a (packF 0 L)) := hA
  have HB4 : Hid (Below w.heap.size w w4) := ht.below HB3.out HB3.out.size (by omega) (by have := hA.fromA; omega)
  have HS4 : Hid (OwnI w4 w2.heap.size v2 (ordsI L)) := ht.own HS3.out hbx0 (by decide)
  clear hA ht hbx0 HA3 HS3 HB3
  go_wp2_with (go_at_call 7; fail)
  refine (lentF_any _ _ _ _ HA4.out).mono ?_
  rintro e w5 ⟨v5, v6, rfl, h1, h2, hb⟩
  have HA5 : Hid (FAr w5 w1.heap.size a (packF 0 L)) := HA4.out.later hb
  have HB5 : Hid (Below w.heap.size w w5) := HB4.out.trans (hb.mono HB4.out.size)
  have HS5 : Hid (OwnI w5 w2.heap.size v2 (ordsI L)) := HS4.out.later hb
  have HP5 : Hid (OwnI w5 w4.heap.size v5 (atsI (packF 0 L))) := h1
  have HN5 : Hid (OwnI w5 w4.heap.size v6 (ordsI L)) := by rw [ordsI_pack] at h2; exact h2
  clear h1 h2 hb HA4 HS4
  go_wp2_with (go_at_call 8; fail)
  refine (holesF_any _ _ _ _ HA5.out).mono ?_
  rintro e w6 ⟨v7, v8, rfl, h1, h2, hb⟩
  have HA6 : Hid (FAr w6 w1.heap.size a (packF 0 L)) := HA5.out.later hb
  have HB6 : Hid (Below w.heap.size w w6) := HB5.out.trans (hb.mono HB5.out.size)
  have HS6 : Hid (IsInts w6 v2 (ordsI L)) := (HS5.out.later hb).isInts
  have HP6 : Hid (IsInts w6 v5 (atsI (packF 0 L))) := (HP5.out.later hb).isInts
  have HN6 : Hid (IsInts w6 v6 (ordsI L)) := (HN5.out.later hb).isInts
  have HH6 : Hid (OwnI w6 w5.heap.size v7 (atsI (holes 0 (packF 0 L)))) := h1
  have HM6 : Hid (OwnI w6 w5.heap.size v8 (ordsI (holes 0 (packF 0 L)))) := h2
  obtain ⟨a5, c5, hf5⟩ := HP5.out.form
  obtain ⟨a6, c6, hf6⟩ := HN5.out.form
  obtain ⟨a7, c7, hf7⟩ := h1.form
  rw [atsI_length, packF_length] at hf5
  rw [ordsI_length] at hf6
  rw [atsI_length] at hf7
  clear h1 h2 hb HA5 HS5 HP5 HN5 HB5 HB2
  subst hf5 hf6 hf7
  go_wp2_with (go_at_call 10; fail)
  refine (sumS_any _ L HL.out _ HS6.out).mono ?_
  rintro e w7 ⟨rfl, rfl⟩
  have hs64 := laid_sum HL.out
  rw [Nat.zero_add] at hs64
  have hin : (decide ((0 : Int) ≤ (sumF L : Nat)) && decide (((sumF L : Nat) : Int) ≤ 64)) = true := by
    rw [Bool.and_eq_true, decide_eq_true_eq, decide_eq_true_eq]; omega
  have HIN : Hid (∀ W : World, Calls Try.prog 12 #[.int .i64 (sumF L : Nat), .int .i64 0, .int .i64 64] W fun e w' => e = .returned (.bool true) ∧ w' = W) := fun W => by
    have h := in_range (sumF L : Nat) 0 64 W
    rw [hin] at h
    exact h
  have HHE : Hid (holes 0 (packF 0 L) = if sumF L < 64 then [(sumF L, 64 - sumF L)] else []) := by unfold Hid; rw [packF_holes, Nat.zero_add]
  have HPL : Hid (∀ n : Nat, 1 ≤ n → sumF L + n = 64 → lendG (packF 0 L) (n : Nat) = (sumF L, 0, putF (sumF L) n (packF 0 L))) := fun n h1 h2 => pack_lend h1 h2
  have HAT : Hid (∀ k, k < L.length → (atsI (packF 0 L))[k]?.getD 0 = (sumF (L.take k) : Nat) ∧ (ordsI L)[k]?.getD 0 = ((blkAt L k).2 : Nat) ∧ sumF (L.take (k+1)) = sumF (L.take k) + (blkAt L k).2 ∧ sumF (L.take (k+1)) ≤ 64) := fun k hk => by
    refine ⟨?_, ords_blk hk, by rw [blkAt_lt hk]; exact sumF_take hk, sumF_part HL.out _⟩
    rw [ats_blk (by rw [packF_length]; exact hk), packF_get 0 L k hk, Nat.zero_add]
  clear hin
  generalize holes 0 (packF 0 L) = H at *
  generalize hsm : sumF L = s at *
  go_wp2_with (go_at_call 11; fail)
  refine (ints_same _ _ (ordsI L) _ HS6.out HN6.out).mono ?_
  rintro e w8 ⟨rfl, q8, hw8⟩
  have hb8 : Below w7.heap.size w7 w8 := by rw [hw8]; exact below_drewN (Below.refl _ w7) q8
  have HA8 : Hid (FAr w8 w1.heap.size a (packF 0 L)) := HA6.out.later hb8
  have HB8 : Hid (Below w.heap.size w w8) := HB6.out.trans (hb8.mono HB6.out.size)
  have HP8 : Hid (IsInts w8 (.slice a5 L.length c5) (atsI (packF 0 L))) := HP6.out.below hb8
  have HN8 : Hid (IsInts w8 (.slice a6 L.length c6) (ordsI L)) := HN6.out.below hb8
  have HH8 : Hid (OwnI w8 w5.heap.size (.slice a7 H.length c7) (atsI H)) := HH6.out.later hb8
  have HM8 : Hid (OwnI w8 w5.heap.size v8 (ordsI H)) := HM6.out.later hb8
  clear hw8 hb8 HA6 HB6 HS6 HP6 HN6 HH6 HM6
  go_wp2_with (go_at_call 12; go_must (refine (HIN.out _).mono ?_; rintro e w9 ⟨rfl, hw9⟩; have hw9 := hw9.symm; subst hw9))
  go_loopw [12, 13] (fun vp vi wr => ∃ k : Nat, k ≤ L.length ∧ vi = .int .i64 (k : Nat) ∧ vp = .int .i64 (sumF (L.take k) : Nat) ∧ wr = w8) (fun _ vi _ => L.length - (RowKit.intOf vi).toNat)
  case atStart => exact ⟨0, Nat.zero_le _, rfl, rfl, rfl⟩
  case round =>
    obtain ⟨k, hk, rfl, rfl, rfl⟩ := hrel
    by_cases hkl : k < L.length
    · have hlt : (k : Int) < (L.length : Int) := by omega
      obtain ⟨e1, e2, e3, e4⟩ := HAT.out k hkl
      obtain ⟨ao5, cap5, hv5, hm5, ho5⟩ := HP8.out.opened
      obtain ⟨ao6, cap6, hv6, hm6, ho6⟩ := HN8.out.opened
      rw [atsI_length, packF_length] at hv5 ho5
      rw [ordsI_length] at hv6 ho6
      simp only [Value.slice.injEq, true_and] at hv5 hv6
      obtain ⟨rfl, rfl⟩ := hv5
      obtain ⟨rfl, rfl⟩ := hv6
      obtain ⟨b5, o5, rfl, hl5, _, hc5⟩ := ho5 k hkl
      obtain ⟨b6, o6, rfl, hl6, _, hc6⟩ := ho6 k hkl
      have hk5 := hc5 k hkl
      have hk6 := hc6 k hkl
      rw [e1] at hk5
      rw [e2] at hk6
      have HS : Hid (sumF (L.take (k+1)) = sumF (L.take k) + (blkAt L k).2) := e3
      rw [e3] at e4
      unfold maxLen at hm5 hm6
      clear hc5 hc6 ho5 ho6 e1 e2 e3
      generalize sumF (L.take k) = t at *
      generalize (blkAt L k).2 = y at *
      have htt : ((t : Int) != (t : Int)) = false := by simp
      go_wp2
      go_roundw
      case rel => exact ⟨k + 1, by omega, by go_num, by rw [HS.out]; go_num, trivial⟩
      case measure => simp [RowKit.intOf]; omega
    · have hlt : ¬ (k : Int) < (L.length : Int) := by omega
      clear HAT HP8 HN8
      by_cases hs : s = 64
      · have hh : H = [] := by have := HHE.out; rw [if_neg (by omega)] at this; exact this
        subst hh
        have hsi : ((s : Int) == 64) = true := by simp; omega
        rw [List.length_nil]
        clear HHE HPL
        go_wp2
        go_ret
        exact ⟨rfl, HB8.out⟩
      · obtain ⟨n, hn⟩ : ∃ n, s + n = 64 := ⟨64 - s, by omega⟩
        have hn1 : 1 ≤ n := by omega
        have hh : H = [(s, n)] := by have := HHE.out; rw [if_pos (by omega)] at this; rw [this, show 64 - s = n by omega]
        subst hh
        have hsi : ((s : Int) == 64) = false := by simp; omega
        have hwn : IntKind.i64.wrap (64 - (s : Int)) = (n : Int) := by rw [IntKind.wrap_i64]; omega
        have HLE : Hid (Calls Try.prog 13 #[.pointer (some ⟨a, 0, none⟩), .int .i64 (n : Nat)] wr fun e w' => e = .returned (.tuple #[.int .i64 (s : Nat), .nilIface]) ∧ Hid (Below w.heap.size w w') ∧ Hid (IsInts w' (.slice a7 1 c7) [(s : Int)]) ∧ Hid (IsInts w' v8 [(n : Int)])) := by
          have hA := HA8.out
          have h := lendF_any w1.heap.size a (packF 0 L) (n : Nat) wr (by have := hA.fromA; have := hA.lt; omega) hA
          rw [HPL.out n hn1 hn] at h
          refine h.mono ?_
          rintro e w' ⟨rfl, hA', ht⟩
          obtain ⟨v0, hbx0, _⟩ := hA.row
          exact ⟨rfl, ht.below HB8.out HB8.out.size h12 (by have := hA'.fromA; omega), (ht.own HH8.out hbx0 (by decide)).isInts, (ht.own HM8.out hbx0 (by decide)).isInts⟩
        clear HHE HPL HH8 HM8 HA8 HB8
        go_wp2_with (go_at_call 13; fail)
        refine HLE.out.mono ?_
        rintro e w10 ⟨rfl, HB10, HL10, HM10⟩
        clear HLE
        go_wp2_with (go_at_call 11; fail)
        refine (ints_same _ _ [(s : Int)] _ (HL10.out.below ((Below.refl _ w10).alloc (Nat.le_refl _) _)) (one_new _ _)).mono ?_
        rintro e w11 ⟨rfl, q11, hw11⟩
        have hb11 : Below w10.heap.size w10 w11 := by rw [hw11]; exact below_drewN ((Below.refl _ w10).alloc (Nat.le_refl _) _) q11
        have HB11 : Hid (Below w.heap.size w w11) := HB10.out.trans (hb11.mono HB10.out.size)
        have HM11 : Hid (IsInts w11 v8 [(n : Int)]) := HM10.out.below hb11
        clear hw11 hb11 HB10 HL10 HM10
        go_wp2_with (go_at_call 11; fail)
        refine (ints_same _ _ [(n : Int)] _ (HM11.out.below ((Below.refl _ w11).alloc (Nat.le_refl _) _)) (one_new _ _)).mono ?_
        rintro e w12 ⟨rfl, q12, hw12⟩
        have HB12 : Hid (Below w.heap.size w w12) := by unfold Hid; rw [hw12]; exact below_drewN (HB11.out.alloc HB11.out.size _) q12
        clear hw12 HB11 HM11
        have hss : ((s : Int) == (s : Int)) = true := by simp
        go_wp2
        go_ret
        exact ⟨rfl, HB12.out⟩

theorem fitPack_own : ownKnob Try.prog.godebug = none := by kernel_rfl
theorem fitPack_laidOut : laidOutB Try.prog = true := by kernel_rfl

set_option maxRecDepth 100000 in
theorem fitPack_lifted (os : Os) (started : os.Started) (H : Type) (enc : TypeId × Value → H) :
    ReturnsInHanded {} Try.checked os 4 .any (Rows.fitPackSpec.pre6 enc Try.prog Try.f4 Rows.fitPackRow.domain false) (Rows.fitPackSpec.post enc Try.prog Try.f4 false true false false) := by
  refine returnsInHanded_of_change (C := Try.checked) fitPack_own started (by kernel_rfl) Try.func4
    (ChangeSpec.witness6 (enc := enc) (C := Try.checked) false ⟨#[], #[.slice none 0 0], []⟩ 8 (by kernel_rfl) (by kernel_rfl) (by kernel_rfl) (by kernel_rfl)) ?_
  intro W base args ds gs before hval0 hW _ _
  have hval : ∀ (j : Nat) t v, Try.f4.params[j]? = some t → args[j]? = some v → Value.okWide Try.prog W .any base t v := hval0
  have hW' : DataW.Whole enc Try.prog Try.f4.params.toList Rows.fitPackSpec.vars false W args.toList ds gs before := hW
  obtain ⟨p, q, hA0, hV, rfl, hfz, hnd⟩ := hW
  have hA : DataW.TrodAll enc Try.prog W 0 (fun _ => true) true Try.f4.params.toList args.toList ds p := hA0
  rw [Try.params4] at hA hval
  obtain ⟨v0, vs0, d0, ds0, p0, q0, hargs, rfl, rfl, h0, r0⟩ := trodAll_cons hA
  obtain ⟨rfl, rfl, rfl⟩ := trodAll_nil r0
  obtain rfl : args = #[v0] := by cases args; simp_all
  obtain ⟨rfl, rfl⟩ := trodVars_none hV
  obtain ⟨l0, ao0, cap0, hv0, hl0⟩ := arg_ints Try.underlying22 Try.underlying3 (by kernel_rfl) (hval 0 22 v0 rfl rfl) h0
  clear hA0 hval0
  refine (fitPack_any v0 l0 W hl0 ⟨ao0, cap0, hv0⟩).mono fun e W' ⟨he, hb⟩ => ?_
  subst he
  exact ⟨_, rfl, law_post hW' hb fitPack_laidOut rfl (by kernel_rfl) (by kernel_rfl) Try.underlying4 rfl rfl rfl⟩

theorem fitPack_holds : Rows.FitPackSaid :=
  OpenClaim.holds_of_wide 4 Try.f4 rfl rfl rfl rfl rfl rfl rfl ⟨rfl, rfl, rfl, rfl, rfl⟩ rfl rfl rfl rfl rfl (by kernel_rfl) Try.func4 (by kernel_rfl)
    (of_decide_eq_true (by kernel_rfl)) (by unfold Func.isWrapper; first | (rw [if_pos (by decide +kernel)]; kernel_rfl) | (rw [if_neg (by decide +kernel)]; exact ⟨rfl, rfl⟩))
    (fun os started H enc _ => fitPack_lifted os started H enc)
end Go.Proofs.Ytjcikoaoemingaa
