/- The walk of phase.Starts. -/
import Derived.Test.YtldeonnbpfkmoaaOnes
import Derived.Test.YtldeonnbpfkmoaaCheck
namespace Go.Proofs.Ytldeonnbpfkmoaa
open Go.RowKit Go.Sort

def phaseL (l : List Int) (s : Int) : List Int := if chk l s = 0 then starts s.toNat l l.length else []
theorem phaseL_ok {l : List Int} {s : Int} (h : chk l s = 0) : phaseL l s = starts s.toNat l l.length := if_pos h
theorem phaseL_bad {l : List Int} {s : Int} (h : chk l s ≠ 0) : phaseL l s = [] := if_neg h

/-- The loop's relation: the starts, and the bits of what was asked for since the last one, behind k requests. -/
def PhaseRel (w : World) (s : Nat) (l : List Int) (vs va i : Value) (wr : World) : Prop :=
  ∃ k m : Nat, k ≤ l.length ∧ i = .int .i64 k ∧ va = .int .u64 m ∧ Msk m (since s l k) ∧ OwnI wr w.heap.size vs (starts s l k) ∧ Below w.heap.size w wr
theorem phase_start (w : World) (s : Nat) (l : List Int) : PhaseRel w s l (.slice none 0 0) (.int .u64 0) (.int .i64 0) w :=
  ⟨0, 0, Nat.zero_le _, rfl, rfl, msk_nil, OwnI.nil _ _, Below.refl _ _⟩

set_option maxHeartbeats 1000000 in
theorem phase_ok (v : Value) (l : List Int) (s : Nat) (w : World) (hv : IsInts w v l) (hc0 : chk l s = 0) (hl40 : l.length ≤ 40) (hs1 : 1 ≤ s) (hs8 : s ≤ 8) (hpos : 0 < l.length) :
    Calls Try.prog 10 #[v, .int .i64 s] w fun e w' => ∃ vs, e = .returned (.tuple #[vs, .nilIface]) ∧ OwnI w' w.heap.size vs (starts s l l.length) ∧ Below w.heap.size w w' := by
  have HV : Hid (IsInts w v l) := hv
  rcases hv with ⟨rfl, _⟩ | ⟨b, off, cap, rfl, _, hlc, hcap, hc⟩
  · simp at hpos
  have HC : Hid (∀ j, j < l.length → w.cell? ⟨b, off + j, none⟩ = some (.int .i64 (l[j]?.getD 0))) := hc
  have HCK : Hid (chk l s = 0) := hc0
  have hbB : b < w.heap.size := World.block_lt_of_cell? w _ (hc 0 hpos)
  obtain ⟨i0, hi, hz0, hz1, hz2⟩ := info_parts Try.info3
  have HI : Hid (Try.prog.info? 3 = some i0 ∧ i0.zero = some (.int .i64 0) ∧ i0.size = 1 ∧ i0.bytes = 8) := ⟨hi, hz0, hz1, hz2⟩
  clear hc hc0 hi hz0 hz1 hz2
  unfold maxLen at hcap
  go_enter Try.func10, Try.ntmps10
  go_wp2_with (go_at_call 22; go_must (refine (check_any _ l s _ HV.out).mono ?_; rintro e w' ⟨rfl, hw⟩; have hw := hw.symm; subst hw; rw [HCK.out]; simp only [errV, if_true]))
  go_loopw [7, 8, 9, 10, 11, 20] (fun vs va _ _ _ i wr => PhaseRel w s l vs va i wr) (fun _ _ _ _ _ i _ => l.length - (intOf i).toNat)
  case atStart => exact phase_start w s l
  case round =>
    obtain ⟨k, m, hk, rfl, rfl, hm, hoh, hbel⟩ := hrel
    by_cases hlt : k < l.length
    · have hck : wr.cell? ⟨b, off + k, none⟩ = some (.int .i64 (l[k]?.getD 0)) := (hbel.cell (by exact hbB)).trans (HC.out k hlt)
      have hp : 0 ≤ l[k]?.getD 0 ∧ l[k]?.getD 0 < 16 := by
        rw [List.getElem?_eq_getElem hlt]
        exact chk_allIn HCK.out _ (List.getElem_mem _)
      obtain ⟨hp0, hp1⟩ := hp
      have HTU : Hid (Turn s l k m) := turn_all hs1 hs8 (chk_allIn HCK.out) hlt hm
      have hm16 : m < 65536 := hm.1
      clear hm
      have hsl := starts_le s l k
      obtain ⟨ao, oc, hvo⟩ := hoh.form
      have HO : Hid (OwnI wr w.heap.size u7 (starts s l k)) := hoh
      clear hoh
      generalize hno : (starts s l k).length = no at *
      have HNO : Hid ((starts s l k).length = no) := hno
      subst hvo
      clear hno
      have HW : Hid (IntKind.u64.wrap (2 ^ (l[k]?.getD 0).toNat) = ((2 ^ (l[k]?.getD 0).toNat : Nat) : Int)) := by
        have := u64_nat (n := 2 ^ (l[k]?.getD 0).toNat) (by have := HTU.out.own; omega)
        unfold Hid
        rw [← this, Int.natCast_pow]; rfl
      have HQ : Hid (bits .or .u64 (m : Int) ((2 ^ (l[k]?.getD 0).toNat : Nat) : Int) = ((m ||| 2 ^ (l[k]?.getD 0).toNat : Nat) : Int)) :=
        u64_or_nat _ _ (by omega) (by have := HTU.out.own; omega)
      have HQ16 : Hid ((m ||| 2 ^ (l[k]?.getD 0).toNat) < 65536) := HTU.out.lt
      cases hbg : begins s l k
      · obtain ⟨hk0, hmk, hle⟩ := HTU.out.no hbg
        have HM : Hid (Msk (m ||| 2 ^ (l[k]?.getD 0).toNat) (since s l (k+1))) := hmk
        have HS : Hid (starts s l (k+1) = starts s l k) := starts_no hbg
        have hkz : ((k : Int) == 0) = false := by rw [beq_eq_false_iff_ne]; omega
        clear HTU hmk hbg
        generalize l[k]?.getD 0 = p at *
        generalize hq : m ||| 2 ^ p.toNat = q at *
        clear hq
        generalize hn : ones q = n at *
        have HN : Hid (ones q = n) := hn
        clear hn
        go_wp2_with (go_at_call 25; go_must (rw [HW.out, HQ.out]; refine (ones_any q HQ16.out _).mono ?_; rintro e w' ⟨rfl, hw⟩; have hw := hw.symm; subst hw; rw [HN.out]))
        go_roundw
        case rel => exact ⟨k + 1, q, by omega, by go_num, rfl, HM.out, by rw [HS.out]; exact HO.out, hbel⟩
        case measure => simp [intOf]; omega
      · obtain ⟨hmk, hgt⟩ := HTU.out.yes hbg
        have HM : Hid (Msk (2 ^ (l[k]?.getD 0).toNat) (since s l (k+1))) := hmk
        have HS : Hid (starts s l (k+1) = starts s l k ++ [(k : Int)]) := starts_yes hbg
        by_cases hk0 : k = 0
        · have hkz : ((k : Int) == 0) = true := by rw [hk0]; rfl
          clear HTU hmk hbg hgt hk0
          generalize l[k]?.getD 0 = p at *
          go_wp2_with (at_builtin; go_must (refine wpList_append_own _ rfl _ _ 22 rfl w.heap.size 3 i0 (.int .i64 0) 1 8 Try.underlying22 HI.out.1 HI.out.2.1 HI.out.2.2.1 HI.out.2.2.2 rfl (by decide) _ no ((starts s l k).map (Value.int .i64)) rfl (World.ownsRow.alloc (HO.out.rows HNO.out rfl) _) ⟨wr.heap.size, 0, none⟩ 1 1 [.int .i64 (k : Int)] rfl rfl (by exact new_one _ _ _) (one_cell _) (by unfold maxLen; omega) (by omega) (by have := hbel.size; simp; omega) ?_; intro vo' w1 hown' hgrow _; have HOW := own_append2 HO.out HNO.out hbel (Nat.le_refl _) hown' hgrow; have HOW := And.intro (show Hid _ from HOW.1) (show Hid _ from HOW.2); clear hown' hgrow))
          go_roundw
          case rel => exact ⟨k + 1, 2 ^ p.toNat, by omega, by go_num, by rw [HW.out], HM.out, by rw [HS.out]; exact HOW.1.out, HOW.2.out⟩
          case measure => simp [intOf]; omega
        · have hkz : ((k : Int) == 0) = false := by rw [beq_eq_false_iff_ne]; omega
          obtain ⟨hgt1, hgt2⟩ := hgt (by omega)
          clear HTU hmk hbg hgt
          generalize l[k]?.getD 0 = p at *
          generalize hq : m ||| 2 ^ p.toNat = q at *
          clear hq
          generalize hn : ones q = n at *
          have HN : Hid (ones q = n) := hn
          clear hn
          go_wp2_with (first | (go_at_call 25; go_must (rw [HW.out, HQ.out]; refine (ones_any q HQ16.out _).mono ?_; rintro e w' ⟨rfl, hw⟩; have hw := hw.symm; subst hw; rw [HN.out])) | (at_builtin; go_must (refine wpList_append_own _ rfl _ _ 22 rfl w.heap.size 3 i0 (.int .i64 0) 1 8 Try.underlying22 HI.out.1 HI.out.2.1 HI.out.2.2.1 HI.out.2.2.2 rfl (by decide) _ no ((starts s l k).map (Value.int .i64)) rfl (World.ownsRow.alloc (HO.out.rows HNO.out rfl) _) ⟨wr.heap.size, 0, none⟩ 1 1 [.int .i64 (k : Int)] rfl rfl (by exact new_one _ _ _) (one_cell _) (by unfold maxLen; omega) (by omega) (by have := hbel.size; simp; omega) ?_; intro vo' w1 hown' hgrow _; have HOW := own_append2 HO.out HNO.out hbel (Nat.le_refl _) hown' hgrow; have HOW := And.intro (show Hid _ from HOW.1) (show Hid _ from HOW.2); clear hown' hgrow)))
          go_roundw
          case rel => exact ⟨k + 1, 2 ^ p.toNat, by omega, by go_num, rfl, HM.out, by rw [HS.out]; exact HOW.1.out, HOW.2.out⟩
          case measure => simp [intOf]; omega
    · have hkl : k = l.length := by omega
      have HO : Hid (OwnI wr w.heap.size u7 (starts s l l.length)) := by rw [hkl] at hoh; exact hoh
      clear hoh hkl hm
      go_wp2
      go_ret2
      exact ⟨_, rfl, HO.out, hbel⟩

theorem phase_none (v : Value) (s : Nat) (w : World) (hv : IsInts w v []) (hs1 : 1 ≤ s) (hs8 : s ≤ 8) :
    Calls Try.prog 10 #[v, .int .i64 s] w fun e w' => e = .returned (.tuple #[.slice none 0 0, .nilIface]) ∧ w' = w := by
  have HV : Hid (IsInts w v []) := hv
  have HCK : Hid (chk [] s = 0) := chk_ok (by simp) (by simp) ⟨by omega, by omega⟩
  rcases hv with ⟨_, ao, cap, rfl, hcap⟩ | ⟨b, off, cap, rfl, hpos, _⟩
  · go_enter Try.func10, Try.ntmps10
    go_wp2_with (go_at_call 22; go_must (refine (check_any _ [] s _ HV.out).mono ?_; rintro e w' ⟨rfl, hw⟩; have hw := hw.symm; subst hw; rw [HCK.out]; simp only [errV, if_true]))
    go_loop [7, 20] (fun b i => b = .slice none 0 0 ∧ i = .int .i64 0) (fun _ _ => 0)
    case atStart => exact ⟨rfl, rfl⟩
    case round =>
      obtain ⟨rfl, rfl⟩ := hrel
      go_wp2
      go_ret2
      exact ⟨rfl, rfl⟩
  · simp at hpos

theorem phase_err (v : Value) (l : List Int) (s : Int) (w : World) (hv : IsInts w v l) (n : Nat) (hn : n = 1 ∨ n = 4) (hc : chk l s = n) :
    Calls Try.prog 10 #[v, .int .i64 s] w fun e w' => e = .returned (.tuple #[.slice none 0 0, errV n]) ∧ w' = w := by
  have HV : Hid (IsInts w v l) := hv
  have HCK : Hid (chk l s = n) := hc
  clear hc hv
  rcases hn with rfl | rfl
  all_goals
    go_enter Try.func10, Try.ntmps10
    go_wp2_with (go_at_call 22; go_must (refine (check_any _ l s _ HV.out).mono ?_; rintro e w' ⟨rfl, hw⟩; have hw := hw.symm; subst hw; rw [HCK.out]; simp only [errV]))
    go_ret2
    exact ⟨rfl, rfl⟩

/-- What phase.Starts answers. -/
theorem phase_any (v : Value) (l : List Int) (s : Int) (w : World) (hv : IsInts w v l) :
    Calls Try.prog 10 #[v, .int .i64 s] w fun e w' => ∃ vs, e = .returned (.tuple #[vs, errV (chk l s)]) ∧ OwnI w' w.heap.size vs (phaseL l s) ∧ Below w.heap.size w w' := by
  rcases chk_cases l s with h | h
  · obtain ⟨h40, h1, h8⟩ := chk_zero h
    rw [phaseL_ok h, h]
    obtain ⟨n, rfl⟩ : ∃ n : Nat, s = n := ⟨s.toNat, by omega⟩
    rw [Int.toNat_natCast]
    by_cases hl : l = []
    · subst hl
      refine (phase_none v n w hv (by omega) (by omega)).mono ?_
      rintro e w' ⟨rfl, rfl⟩
      exact ⟨_, rfl, OwnI.nil _ _, Below.refl _ _⟩
    · exact phase_ok v l n w hv h h40 (by omega) (by omega) (List.length_pos_iff.2 hl)
  · have hne : chk l s ≠ 0 := by omega
    rw [phaseL_bad hne]
    refine (phase_err v l s w hv (chk l s) h rfl).mono ?_
    rintro e w' ⟨rfl, rfl⟩
    exact ⟨_, rfl, OwnI.nil _ _, Below.refl _ _⟩
end Go.Proofs.Ytldeonnbpfkmoaa
