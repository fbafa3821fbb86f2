/- The walk of FitApart: blocks and holes part the places. -/
import Derived.Test.YtjcikoaoemingaaFFact
import Derived.Test.YtjcikoaoemingaaFitSum
import Derived.Test.YtjcikoaoemingaaFitPart
import Derived.Test.YtjcikoaoemingaaLawkit
namespace Go.Proofs.Ytjcikoaoemingaa
open Go.ChangeShapes Go.WideShapes Go.ChangeAt Go.RowKit Go.Sort

set_option maxRecDepth 100000 in
set_option maxHeartbeats 2000000 in
theorem fitApart_any (v : Value) (l : List Int) (w : World) (hv : IsInts w v l) (hform : ∃ ao cap, v = .slice ao l.length cap) :
    Calls Try.prog 3 #[v] w fun e w' => e = .returned (.bool true) ∧ Below w.heap.size w w' := by
  have HV : Hid (IsInts w v l) := hv
  have HFO : Hid (∃ ao cap, v = .slice ao l.length cap) := hform
  clear hv hform
  go_enter Try.func3, Try.ntmps3
  go_wp2_with (go_at_call 5; fail)
  refine (fitFact_any _).mono ?_
  rintro e w1 ⟨rfl, hb⟩
  have HB1 : Hid (Below w.heap.size w w1) := hb
  clear hb
  go_wp2_with (go_at_call 6; fail)
  refine (fitted_any v l _ (HV.out.below HB1.out) HFO.out).mono ?_
  rintro e w2 ⟨a, rfl, ⟨L, hA⟩, hb⟩
  have HA2 : Hid (FAr w2 w1.heap.size a L) := hA
  have HB2 : Hid (Below w.heap.size w w2) := HB1.out.trans (hb.mono HB1.out.size)
  have HST : Hid (Stand L 0 0 0 false) := Stand.start hA.laid
  have hlm := hA.most
  have hhl := holes_len 0 L
  clear hA hb HB1 HV HFO
  go_wp2_with (go_at_call 7; fail)
  refine (lentF_any _ _ _ _ HA2.out).mono ?_
  rintro e w3 ⟨v1, v2, rfl, h1, h2, hb⟩
  have HA3 : Hid (FAr w3 w1.heap.size a L) := HA2.out.later hb
  have HB3 : Hid (Below w.heap.size w w3) := HB2.out.trans (hb.mono HB2.out.size)
  have HP3 : Hid (IsInts w3 v1 (atsI L)) := h1.isInts
  have HS3 : Hid (IsInts w3 v2 (ordsI L)) := h2.isInts
  clear h1 h2 hb HA2 HB2
  go_wp2_with (go_at_call 8; fail)
  refine (holesF_any _ _ _ _ HA3.out).mono ?_
  rintro e w6 ⟨v3, v4, rfl, h3, h4, hb⟩
  have HB6 : Hid (Below w.heap.size w w6) := HB3.out.trans (hb.mono HB3.out.size)
  have h1 := HP3.out.below hb
  have h2 := HS3.out.below hb
  obtain ⟨a1, c1, rfl, hm1, k1⟩ := h1.opened
  obtain ⟨a2, c2, rfl, hm2, k2⟩ := h2.opened
  obtain ⟨a3, c3, rfl, hm3, k3⟩ := h3.isInts.opened
  obtain ⟨a4, c4, rfl, hm4, k4⟩ := h4.isInts.opened
  rw [atsI_length] at k1 k3
  rw [ordsI_length] at k2 k4
  rw [atsI_length, ordsI_length, atsI_length, ordsI_length]
  have HK1 : Hid (∀ k, k < L.length → ∃ b off, a1 = some ⟨b, off, none⟩ ∧ L.length ≤ c1 ∧ w6.cell? ⟨b, off + k, none⟩ = some (.int .i64 ((blkAt L k).1 : Nat))) := fun k hk => by
    obtain ⟨b, off, e, hl, _, hc⟩ := k1 k hk
    exact ⟨b, off, e, hl, by rw [hc k hk, ats_blk hk]⟩
  have HK2 : Hid (∀ k, k < L.length → ∃ b off, a2 = some ⟨b, off, none⟩ ∧ L.length ≤ c2 ∧ w6.cell? ⟨b, off + k, none⟩ = some (.int .i64 ((blkAt L k).2 : Nat))) := fun k hk => by
    obtain ⟨b, off, e, hl, _, hc⟩ := k2 k hk
    exact ⟨b, off, e, hl, by rw [hc k hk, ords_blk hk]⟩
  have HK3 : Hid (∀ k, k < (holes 0 L).length → ∃ b off, a3 = some ⟨b, off, none⟩ ∧ (holes 0 L).length ≤ c3 ∧ w6.cell? ⟨b, off + k, none⟩ = some (.int .i64 ((blkAt (holes 0 L) k).1 : Nat))) := fun k hk => by
    obtain ⟨b, off, e, hl, _, hc⟩ := k3 k hk
    exact ⟨b, off, e, hl, by rw [hc k hk, ats_blk hk]⟩
  have HK4 : Hid (∀ k, k < (holes 0 L).length → ∃ b off, a4 = some ⟨b, off, none⟩ ∧ (holes 0 L).length ≤ c4 ∧ w6.cell? ⟨b, off + k, none⟩ = some (.int .i64 ((blkAt (holes 0 L) k).2 : Nat))) := fun k hk => by
    obtain ⟨b, off, e, hl, _, hc⟩ := k4 k hk
    exact ⟨b, off, e, hl, by rw [hc k hk, ords_blk hk]⟩
  unfold maxLen at hm1 hm2 hm3 hm4
  clear h1 h2 h3 h4 k1 k2 k3 k4 hb HA3 HB3 HP3 HS3
  go_wp2
  go_loopw [9, 10, 11, 12] (fun vp vi vk vh wr => ∃ (p i k : Nat) (h : Bool), vp = .int .i64 (p : Nat) ∧ vi = .int .i64 (i : Nat) ∧ vk = .int .i64 (k : Nat) ∧ vh = .bool h ∧ Hid (Stand L p i k h) ∧ wr = w6) (fun vp _ _ _ _ => 64 - (RowKit.intOf vp).toNat)
  case atStart => exact ⟨0, 0, 0, false, rfl, rfl, rfl, rfl, HST, rfl⟩
  case round =>
    obtain ⟨p, i, k, h, rfl, rfl, rfl, rfl, HS, rfl⟩ := hrel
    have hpm := HS.out.most
    have him := HS.out.il
    have hkm := HS.out.kl
    by_cases hp : p < 64
    · have hp' : (p : Int) < 64 := by omega
      by_cases hA : i < L.length ∧ (blkAt L i).1 = p
      · obtain ⟨hi, hb⟩ := hA
        have hi' : (i : Int) < (L.length : Int) := by omega
        obtain ⟨h1, h2, h3⟩ := HS.out.block hi hb
        have HN : Hid (Stand L (p + (blkAt L i).2) (i+1) k false) := h3
        obtain ⟨b1, o1, rfl, hl1, hc1⟩ := HK1.out i hi
        obtain ⟨b2, o2, rfl, hl2, hc2⟩ := HK2.out i hi
        rw [hb] at hc1
        have hpp : ((p : Int) == (p : Int)) = true := by simp
        have h1' : (0 : Int) < (((blkAt L i).2 : Nat) : Int) := by omega
        clear h3 HS hb
        generalize (blkAt L i).2 = y at *
        go_wp2
        go_roundw
        case rel => exact ⟨p + y, i + 1, k, false, by go_num, by go_num, rfl, rfl, HN, trivial⟩
        case measure => simp [RowKit.intOf]; omega
      · obtain ⟨rfl, hk, h1, h2, h3, h4⟩ := HS.out.hole hp fun hi hb => hA ⟨hi, hb⟩
        have HN : Hid (Stand L (p + (blkAt (holes 0 L) k).2) i (k+1) true) := h4
        have hk' : (k : Int) < ((holes 0 L).length : Int) := by omega
        obtain ⟨b3, o3, rfl, hl3, hc3⟩ := HK3.out k hk
        obtain ⟨b4, o4, rfl, hl4, hc4⟩ := HK4.out k hk
        rw [h1] at hc3
        have hpp : ((p : Int) == (p : Int)) = true := by simp
        have h2' : (0 : Int) < (((blkAt (holes 0 L) k).2 : Nat) : Int) := by omega
        clear h4 HS h1
        generalize (blkAt (holes 0 L) k).2 = y at *
        by_cases hi : i < L.length
        · have hi' : (i : Int) < (L.length : Int) := by omega
          obtain ⟨b1, o1, rfl, hl1, hc1⟩ := HK1.out i hi
          obtain ⟨b2, o2, rfl, hl2, hc2⟩ := HK2.out i hi
          have hne : (((blkAt L i).1 : Nat) == p) = false := by
            have : (blkAt L i).1 ≠ p := fun e => hA ⟨hi, e⟩
            simpa using this
          have hne' : ((((blkAt L i).1 : Nat) : Int) == (p : Int)) = false := by
            have : (blkAt L i).1 ≠ p := fun e => hA ⟨hi, e⟩
            simp; omega
          clear hA
          generalize (blkAt L i).1 = x at *
          generalize (blkAt L i).2 = z at *
          go_wp2
          go_roundw
          case rel => exact ⟨p + y, i, k + 1, true, by go_num, rfl, by go_num, rfl, HN, trivial⟩
          case measure => simp [RowKit.intOf]; omega
        · have hi' : ¬ (i : Int) < (L.length : Int) := by omega
          clear hA
          go_wp2
          go_roundw
          case rel => exact ⟨p + y, i, k + 1, true, by go_num, rfl, by go_num, rfl, HN, trivial⟩
          case measure => simp [RowKit.intOf]; omega
    · obtain ⟨hp64, hi, hk⟩ := HS.out.end_ hp
      have hp' : ¬ (p : Int) < 64 := by omega
      have e1 : ((p : Int) == 64) = true := by simp; omega
      have e2 : ((i : Int) == (L.length : Int)) = true := by simp; omega
      have e3 : ((k : Int) == ((holes 0 L).length : Int)) = true := by simp; omega
      clear hp64 hi hk HS
      go_wp2
      go_ret
      exact ⟨rfl, HB6.out⟩

theorem fitApart_own : ownKnob Try.prog.godebug = none := by kernel_rfl
theorem fitApart_laidOut : laidOutB Try.prog = true := by kernel_rfl

set_option maxRecDepth 100000 in
theorem fitApart_lifted (os : Os) (started : os.Started) (H : Type) (enc : TypeId × Value → H) :
    ReturnsInHanded {} Try.checked os 3 .any (Rows.fitApartSpec.pre6 enc Try.prog Try.f3 Rows.fitApartRow.domain false) (Rows.fitApartSpec.post enc Try.prog Try.f3 false true false false) := by
  refine returnsInHanded_of_change (C := Try.checked) fitApart_own started (by kernel_rfl) Try.func3
    (ChangeSpec.witness6 (enc := enc) (C := Try.checked) false ⟨#[], #[.slice none 0 0], []⟩ 8 (by kernel_rfl) (by kernel_rfl) (by kernel_rfl) (by kernel_rfl)) ?_
  intro W base args ds gs before hval0 hW _ _
  have hval : ∀ (j : Nat) t v, Try.f3.params[j]? = some t → args[j]? = some v → Value.okWide Try.prog W .any base t v := hval0
  have hW' : DataW.Whole enc Try.prog Try.f3.params.toList Rows.fitApartSpec.vars false W args.toList ds gs before := hW
  obtain ⟨p, q, hA0, hV, rfl, hfz, hnd⟩ := hW
  have hA : DataW.TrodAll enc Try.prog W 0 (fun _ => true) true Try.f3.params.toList args.toList ds p := hA0
  rw [Try.params3] at hA hval
  obtain ⟨v0, vs0, d0, ds0, p0, q0, hargs, rfl, rfl, h0, r0⟩ := trodAll_cons hA
  obtain ⟨rfl, rfl, rfl⟩ := trodAll_nil r0
  obtain rfl : args = #[v0] := by cases args; simp_all
  obtain ⟨rfl, rfl⟩ := trodVars_none hV
  obtain ⟨l0, ao0, cap0, hv0, hl0⟩ := arg_ints Try.underlying22 Try.underlying3 (by kernel_rfl) (hval 0 22 v0 rfl rfl) h0
  clear hA0 hval0
  refine (fitApart_any v0 l0 W hl0 ⟨ao0, cap0, hv0⟩).mono fun e W' ⟨he, hb⟩ => ?_
  subst he
  exact ⟨_, rfl, law_post hW' hb fitApart_laidOut rfl (by kernel_rfl) (by kernel_rfl) Try.underlying4 rfl rfl rfl⟩

theorem fitApart_holds : Rows.FitApartSaid :=
  OpenClaim.holds_of_wide 3 Try.f3 rfl rfl rfl rfl rfl rfl rfl ⟨rfl, rfl, rfl, rfl, rfl⟩ rfl rfl rfl rfl rfl (by kernel_rfl) Try.func3 (by kernel_rfl)
    (of_decide_eq_true (by kernel_rfl)) (by unfold Func.isWrapper; first | (rw [if_pos (by decide +kernel)]; kernel_rfl) | (rw [if_neg (by decide +kernel)]; exact ⟨rfl, rfl⟩))
    (fun os started H enc _ => fitApart_lifted os started H enc)
end Go.Proofs.Ytjcikoaoemingaa
