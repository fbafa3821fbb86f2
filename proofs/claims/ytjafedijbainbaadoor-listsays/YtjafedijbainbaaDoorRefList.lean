/- The walks of the document's answer (larderwickref1): Things, Count, Place, Put. -/
import Derived.Test.YtjafedijbainbaaDoorOChk
import Derived.Test.YtjafedijbainbaaDoorOPerm
import Derived.Test.YtjafedijbainbaaDoorWithoutS
import Derived.Test.YtjafedijbainbaaDoorCame
namespace Go.Proofs.YtjafedijbainbaaDoor
set_option maxRecDepth 100000
open Go.RowKit Go.Sort

theorem any_not_all {n : Int} (l : List Int) : l.any (badT n) = !(l.all fun x => inB x 0 (n - 1)) := by
  rw [Bool.eq_iff_iff]
  simp only [Bool.not_eq_true', List.any_eq_true, List.all_eq_false]
  constructor
  · rintro ⟨x, hx, h⟩
    refine ⟨x, hx, ?_⟩
    simp [badT] at h; simp [inB]; omega
  · rintro ⟨x, hx, h⟩
    refine ⟨x, hx, ?_⟩
    simp [inB] at h; simp [badT]; omega
set_option maxHeartbeats 400000 in
theorem rthings_any (n : Int) (v : Value) (l : List Int) (w : World) (hv : IsInts w v l) :
    Calls Tryd.prog 4 #[.int .i64 n, v] w fun e w' => e = .returned (.int .i64 (chkL n l : Nat)) ∧ w' = w := by
  have HV : Hid (IsInts w v l) := hv
  obtain ⟨ao, cap, rfl, hcap, _⟩ := hv.opened
  clear hv
  unfold maxLen at hcap
  by_cases h1 : 40 < l.length
  · have HK : Hid (chkL n l = 4) := chkL_long h1
    go_enter Tryd.func4, Tryd.ntmps4
    go_wp2
    go_ret
    exact ⟨by rw [HK.out]; rfl, rfl⟩
  have hl40 : l.length ≤ 40 := by omega
  clear h1
  by_cases h2 : 1 ≤ n ∧ n ≤ 4
  · have HI : Hid (inB n 1 4 = true) := by unfold Hid inB; simp [h2]
    have HA := any_not_all (n := n) l
    cases ha : l.all fun x => inB x 0 (n - 1)
    · have HAA : Hid ((l.all fun x => inB x 0 (n - 1)) = false) := ha
      have HK : Hid (chkL n l = 1) := chkL_bad hl40 (by rw [HA, ha]; rfl)
      clear HA ha
      go_enter Tryd.func4, Tryd.ntmps4
      go_wp2_with (first | (go_at_call 13; go_must (refine (in_any n 1 4 _).mono ?_; rintro e w' ⟨rfl, hw⟩; have hw := hw.symm; subst hw; rw [HI.out])) | (go_at_call 14; go_must (refine (all_any _ l 0 (n - 1) _ HV.out).mono ?_; rintro e w' ⟨rfl, hw⟩; have hw := hw.symm; subst hw; rw [HAA.out])))
      go_ret
      exact ⟨by rw [HK.out]; rfl, rfl⟩
    · have HAA : Hid ((l.all fun x => inB x 0 (n - 1)) = true) := ha
      have HK : Hid (chkL n l = 0) := chkL_ok hl40 h2 (by rw [HA, ha]; rfl)
      clear HA ha
      go_enter Tryd.func4, Tryd.ntmps4
      go_wp2_with (first | (go_at_call 13; go_must (refine (in_any n 1 4 _).mono ?_; rintro e w' ⟨rfl, hw⟩; have hw := hw.symm; subst hw; rw [HI.out])) | (go_at_call 14; go_must (refine (all_any _ l 0 (n - 1) _ HV.out).mono ?_; rintro e w' ⟨rfl, hw⟩; have hw := hw.symm; subst hw; rw [HAA.out])))
      go_ret
      exact ⟨by rw [HK.out]; rfl, rfl⟩
  · have HI : Hid (inB n 1 4 = false) := by unfold Hid inB; simp; omega
    have HK : Hid (chkL n l = 1) := chkL_n hl40 (by omega)
    clear h2
    go_enter Tryd.func4, Tryd.ntmps4
    go_wp2_with (go_at_call 13; go_must (refine (in_any n 1 4 _).mono ?_; rintro e w' ⟨rfl, hw⟩; have hw := hw.symm; subst hw; rw [HI.out]))
    go_ret
    exact ⟨by rw [HK.out]; rfl, rfl⟩

/-- Where a number stands; below 0: nowhere. -/
def plc (l : List Int) (x : Int) : Int := if x ∈ l then (pos l x : Int) else -1
theorem plc_here {l : List Int} {k : Nat} {x : Int} (hk : k < l.length) (h : (l.take k).contains x = false) (hp : l[k]?.getD 0 = x) : plc l x = k := by
  rw [List.getElem?_eq_getElem hk, Option.getD_some] at hp
  have hx : x ∉ l.take k := by simpa using h
  have hm : x ∈ l := hp ▸ List.getElem_mem hk
  unfold plc pos
  rw [if_pos hm]
  have e : l = l.take k ++ l[k] :: l.drop (k+1) := by rw [← List.drop_eq_getElem_cons hk, List.take_append_drop]
  have h2 : List.idxOf x (l.take k ++ l[k] :: l.drop (k+1)) = k := by
    rw [List.idxOf_append, if_neg hx, hp, List.idxOf_cons_self, List.length_take]; omega
  rw [← e] at h2
  rw [h2]
theorem plc_none {l : List Int} {x : Int} (h : l.contains x = false) : plc l x = -1 := by
  unfold plc
  rw [if_neg (by simpa using h)]
theorem plc_pos {l : List Int} {x : Int} (h : x ∈ l) : plc l x = (pos l x : Int) := if_pos h
set_option maxHeartbeats 400000 in
theorem rplace_any (v : Value) (l : List Int) (x : Int) (w : World) (hv : IsInts w v l) :
    Calls Tryd.prog 17 #[v, .int .i64 x] w fun e w' => e = .returned (.int .i64 (plc l x)) ∧ w' = w := by
  obtain ⟨ao, cap, rfl, hcap, ho⟩ := hv.opened
  have HO : Hid (∀ k, k < l.length → ∃ b off, ao = some ⟨b, off, none⟩ ∧ l.length ≤ cap ∧ b < w.heap.size ∧ ∀ j, j < l.length → w.cell? ⟨b, off + j, none⟩ = some (.int .i64 (l[j]?.getD 0))) := ho
  clear ho hv
  unfold maxLen at hcap
  go_enter Tryd.func17, Tryd.ntmps17
  go_wp2
  go_loop [5] (fun i => ∃ k : Nat, k ≤ l.length ∧ i = .int .i64 k ∧ Hid ((l.take k).contains x = false)) (fun i => l.length - (intOf i).toNat)
  case atStart => exact ⟨0, by omega, rfl, by simp [Hid]⟩
  case round =>
    obtain ⟨k, hk, rfl, HA⟩ := hrel
    by_cases hlt : k < l.length
    · obtain ⟨b, off, rfl, hlc, _, hcell⟩ := HO.out k hlt
      have hck := hcell k hlt
      clear hcell
      have HT : Hid ((l.take (k+1)).contains x = ((l.take k).contains x || (l[k]?.getD 0 == x))) := contains_take_succ hlt x
      generalize hp : l[k]?.getD 0 = p at *
      have HP : Hid (l[k]?.getD 0 = p) := hp
      clear hp
      by_cases hb : p = x
      · have HPL : Hid (plc l x = k) := plc_here hlt HA.out (HP.out.trans hb)
        have hpx : (p == x) = true := by simpa using hb
        clear hb
        go_wp2
        go_ret
        exact ⟨by rw [HPL.out]; rfl, rfl⟩
      · have hpx : (p == x) = false := by simpa using hb
        have HX : Hid ((p == x) = false) := hpx
        clear hb
        go_wp2
        go_round
        case rel => exact ⟨k + 1, by omega, by go_num, by unfold Hid; rw [HT.out, HA.out, HX.out]; rfl⟩
        case measure => simp [intOf]; omega
    · have HF : Hid (plc l x = -1) := by have := HA.out; rw [List.take_of_length_le (by omega)] at this; exact plc_none this
      go_wp2
      go_ret
      exact ⟨by rw [HF.out]; rfl, rfl⟩
theorem Un_succ (n : Nat) : Un (n+1) = Un n ++ [(n : Int)] := by unfold Un; rw [List.range_succ, List.map_append]; rfl
set_option maxHeartbeats 400000 in
theorem rcount_any (n : Nat) (hn : n ≤ 1000) (w : World) :
    Calls Tryd.prog 16 #[.int .i64 (n : Nat)] w fun e w' => ∃ v', e = .returned v' ∧ OwnI w' w.heap.size v' (Un n) ∧ Below w.heap.size w w' := by
  obtain ⟨i0, hi, hz0, hz1, hz2⟩ := info_parts info_int
  have HI : Hid (Tryd.prog.info? 3 = some i0 ∧ i0.zero = some (.int .i64 0) ∧ i0.size = 1 ∧ i0.bytes = 8) := ⟨hi, hz0, hz1, hz2⟩
  clear hi hz0 hz1 hz2
  go_enter Tryd.func16, Tryd.ntmps16
  go_wp2
  go_loopw [3, 4] (fun o i wr => ∃ (k : Nat) (ol : List Int), k ≤ n ∧ i = .int .i64 k ∧ Hid (OwnI wr w.heap.size o ol) ∧ Below w.heap.size w wr ∧ Hid (Un k = ol) ∧ ol.length = k) (fun _ i _ => n - (intOf i).toNat)
  case atStart => exact ⟨0, [], by omega, rfl, OwnI.nil _ _, Below.refl _ _, by simp [Hid, Un], rfl⟩
  case round =>
    obtain ⟨k, ol, hk, rfl, HO, hbel, HE, hol⟩ := hrel
    obtain ⟨ao, hcp, rfl⟩ := ownI_form HO.out
    by_cases hlt : k < n
    · have HU : Hid (Un (k+1) = ol ++ [(k : Int)]) := by unfold Hid; rw [Un_succ, HE.out]
      go_wp2_with (at_builtin; go_must (refine wpList_append_own _ rfl _ _ 22 rfl w.heap.size 3 i0 (.int .i64 0) 1 8 Tryd.underlying22 HI.out.1 HI.out.2.1 HI.out.2.2.1 HI.out.2.2.2 rfl (by decide) _ ol.length (ol.map (Value.int .i64)) rfl (World.ownsRow.alloc HO.out _) ⟨wr.heap.size, 0, none⟩ 1 1 [.int .i64 (k : Int)] rfl rfl (new_one _ _ _) (one_cell _) (by unfold maxLen; omega) (by omega) (by have := hbel.size; simp; omega) ?_; intro v' w1 hown' hgrow _; have R := own_append HO.out hbel (Nat.le_refl _) hown' hgrow; clear hown' hgrow))
      go_roundw
      case rel => exact ⟨k + 1, ol ++ [(k : Int)], by omega, by go_num, R.1, R.2, HU.out, by simp; omega⟩
      case measure => simp [intOf]; omega
    · have hkn : k = n := by omega
      subst hkn
      go_wp2
      go_ret
      exact ⟨_, rfl, by rw [HE.out]; exact HO.out, hbel⟩
end Go.Proofs.YtjafedijbainbaaDoor
