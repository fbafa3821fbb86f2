/- The walk of the document's answer (larderwickref1): List. -/
import Derived.Test.YtjafedijbainbaaDoorRefPut
import Derived.Test.YtjafedijbainbaaDoorOLook
namespace Go.Proofs.YtjafedijbainbaaDoor
set_option maxRecDepth 100000
open Go.RowKit Go.Sort

def RLRel (f : Nat → Nat) (w : World) (n : Nat) (l : List Int) (vl s i : Value) (wr : World) : Prop :=
  ∃ k : Nat, k ≤ l.length ∧ i = .int .i64 k ∧ s = .int .i64 (wayCost f (Un n) l k : Nat) ∧ OwnI wr w.heap.size vl (wayRow f (Un n) l k) ∧ Below w.heap.size w wr
theorem erase_mv (A : List Int) (x : Int) (t : Nat) : (A.erase x).take t ++ x :: (A.erase x).drop t = mv A x t := rfl
set_option maxHeartbeats 1000000 in
theorem reffront_any (n : Nat) (v : Value) (l : List Int) (w : World) (hv : IsInts w v l) (hc0 : chkL n l = 0) :
    Calls Tryd.prog 7 #[.int .i64 (n : Nat), v, .bool true] w fun e w' => ∃ vr, e = .returned (.tuple #[.int .i64 (wayCost (fun _ => 0) (Un n) l l.length : Nat), vr]) ∧ OwnI w' w.heap.size vr (wayRow (fun _ => 0) (Un n) l l.length) ∧ Below w.heap.size w w' := by
  have F := chkL_zero hc0
  have hn1 : 1 ≤ n := by have := F.low; omega
  have hn4 : n ≤ 4 := by have := F.low; omega
  have hl40 := F.reqs
  have HF : Hid (FineL n l) := F
  have HIN : Hid (∀ p, p ∈ l → p ∈ Un n) := thing_in F
  have HCO : Hid (∀ k, k ≤ l.length → wayCost (fun _ => 0) (Un n) l k ≤ k * n) := fun k hk => by have := way_cost_le (f := (fun _ => 0)) (Un_nodup n) (thing_in F) k hk; rwa [Un_length] at this
  obtain ⟨ao, cap, rfl, hcap, ho⟩ := hv.opened
  have HO : Hid (∀ k, k < l.length → ∃ b off, ao = some ⟨b, off, none⟩ ∧ l.length ≤ cap ∧ b < w.heap.size ∧ ∀ j, j < l.length → w.cell? ⟨b, off + j, none⟩ = some (.int .i64 (l[j]?.getD 0))) := ho
  clear ho hv hc0 F
  unfold maxLen at hcap
  go_enter Tryd.func7, Tryd.ntmps7
  go_wp2_with (go_at_call 16; go_must (refine (rcount_any n (by omega) _).mono ?_; rintro e w1 ⟨vl, rfl, hO1, hb1⟩; have HR0 : Hid (RLRel (fun _ => 0) w n l vl (.int .i64 0) (.int .i64 0) w1) := ⟨0, Nat.zero_le _, rfl, rfl, hO1, hb1⟩; clear hO1 hb1))
  go_loopw [8, 9, 10] (fun vl s i wr => RLRel (fun _ => 0) w n l vl s i wr) (fun _ _ i _ => l.length - (intOf i).toNat)
  case atStart => exact HR0.out
  case round =>
    clear HR0
    obtain ⟨k, hk, rfl, rfl, hown, hbel⟩ := hrel
    have hwr := hbel.size
    have hck := HCO.out k hk
    have hkn : k * n ≤ 160 := by have := Nat.mul_le_mul (show k ≤ 40 by omega) hn4; omega
    by_cases hlt : k < l.length
    · obtain ⟨br, off, rfl, hlc, hbw, hcell⟩ := HO.out k hlt
      have hcl : wr.cell? ⟨br, off + k, none⟩ = some (.int .i64 (l[k]?.getD 0)) := (hbel.cell (by exact hbw)).trans (hcell k hlt)
      have HBW : Hid (br < wr.heap.size) := by unfold Hid; omega
      have hrow := way_row (f := (fun _ => 0)) (Un_nodup n) HIN.out k hk
      have hxU := asked_in HIN.out hlt
      have hxm : l[k]?.getD 0 ∈ wayRow (fun _ => 0) (Un n) l k := (hrow.mem _).2 hxU
      have hlen : (wayRow (fun _ => 0) (Un n) l k).length = n := by rw [same_length hrow.nd (Un_nodup n) hrow.mem, Un_length]
      have hpl := pos_lt hxm
      rw [hlen] at hpl
      have HPL : Hid (plc (wayRow (fun _ => 0) (Un n) l k) (l[k]?.getD 0) = (pos (wayRow (fun _ => 0) (Un n) l k) (l[k]?.getD 0) : Nat)) := plc_pos hxm
      have HEL : Hid (((wayRow (fun _ => 0) (Un n) l k).erase (l[k]?.getD 0)).length = n - 1) := by unfold Hid; rw [List.length_erase_of_mem hxm, hlen]
      have HLEN : Hid ((wayRow (fun _ => 0) (Un n) l k).length = n) := hlen
      have HWR : Hid (wayRow (fun _ => 0) (Un n) l (k+1) = mv (wayRow (fun _ => 0) (Un n) l k) (l[k]?.getD 0) ((fun _ => 0) (pos (wayRow (fun _ => 0) (Un n) l k) (l[k]?.getD 0)))) := rfl
      have HWC : Hid (wayCost (fun _ => 0) (Un n) l (k+1) = wayCost (fun _ => 0) (Un n) l k + pos (wayRow (fun _ => 0) (Un n) l k) (l[k]?.getD 0) + 1) := rfl
      have HOWN : Hid (OwnI wr w.heap.size u8 (wayRow (fun _ => 0) (Un n) l k)) := hown
      have HBEL : Hid (Below w.heap.size w wr) := hbel
      clear hcell hbw hrow hxU hxm hlen hown hbel
      generalize l[k]?.getD 0 = x at *
      generalize wayRow (fun _ => 0) (Un n) l k = R at *
      generalize wayCost (fun _ => 0) (Un n) l k = C at *
      generalize pos R x = p at *
      go_wp2_with (go_at_call 17; go_must (refine (rplace_any _ R x _ HOWN.out.isInts).mono ?_; rintro e w' ⟨rfl, hw⟩; have hw := hw.symm; subst hw; rw [HPL.out]))
      have HOWD : Hid (IsInts wr.drew u8 R) := (show OwnI wr.drew w.heap.size u8 R from HOWN.out).isInts
      go_region_with (first | (go_at_call 19; go_must (refine (without_any _ R x wr.drew HOWD.out (by rw [HLEN.out]; omega)).mono ?_; rintro e w2 ⟨v2, rfl, hO2, hb2⟩; have HO2 : Hid (OwnI w2 wr.heap.size v2 (R.erase x)) := hO2; have hcl2 : w2.cell? ⟨br, off + k, none⟩ = some (.int .i64 x) := (hb2.cell (p := ⟨br, off + k, none⟩) HBW.out).trans hcl; have HB2 : Hid (Below w.heap.size w w2) := HBEL.out.drew.trans (hb2.mono hwr); have hs2 : w.heap.size ≤ w2.heap.size := HB2.out.size; clear hO2 hb2)) | (go_at_call 18; go_must (refine (rput_any _ (R.erase x) 0 x _ _ HO2.out (by rw [HEL.out]; omega) (by rw [HEL.out]; omega)).mono ?_; rintro e w3 ⟨v3, rfl, hO3, hb3⟩; rw [erase_mv] at hO3; have HO3 : Hid (OwnI w3 w.heap.size v3 (mv R x 0)) := ownI_mono hO3 hs2; have HB3 : Hid (Below w.heap.size w w3) := HB2.out.trans (hb3.mono hs2); clear hO3 hb3)))
      all_goals
        go_wp2
        go_roundw
        case rel => exact ⟨k + 1, by omega, by go_num, by rw [HWC.out]; go_num, by rw [HWR.out]; exact HO3.out, HB3.out⟩
        case measure => simp [intOf]; omega
    · have hkl : k = l.length := by omega
      subst hkl
      have HOWN : Hid (OwnI wr w.heap.size u8 (wayRow (fun _ => 0) (Un n) l l.length)) := hown
      clear hown
      generalize hC : wayCost (fun _ => 0) (Un n) l l.length = C at *
      have HC : Hid (wayCost (fun _ => 0) (Un n) l l.length = C) := hC
      clear hC
      go_wp2
      go_ret2
      exact ⟨_, by rw [HC.out]; rfl, HOWN.out, hbel⟩
set_option maxHeartbeats 1000000 in
theorem refswap_any (n : Nat) (v : Value) (l : List Int) (w : World) (hv : IsInts w v l) (hc0 : chkL n l = 0) :
    Calls Tryd.prog 7 #[.int .i64 (n : Nat), v, .bool false] w fun e w' => ∃ vr, e = .returned (.tuple #[.int .i64 (wayCost (fun a => a - 1) (Un n) l l.length : Nat), vr]) ∧ OwnI w' w.heap.size vr (wayRow (fun a => a - 1) (Un n) l l.length) ∧ Below w.heap.size w w' := by
  have F := chkL_zero hc0
  have hn1 : 1 ≤ n := by have := F.low; omega
  have hn4 : n ≤ 4 := by have := F.low; omega
  have hl40 := F.reqs
  have HF : Hid (FineL n l) := F
  have HIN : Hid (∀ p, p ∈ l → p ∈ Un n) := thing_in F
  have HCO : Hid (∀ k, k ≤ l.length → wayCost (fun a => a - 1) (Un n) l k ≤ k * n) := fun k hk => by have := way_cost_le (f := (fun a => a - 1)) (Un_nodup n) (thing_in F) k hk; rwa [Un_length] at this
  obtain ⟨ao, cap, rfl, hcap, ho⟩ := hv.opened
  have HO : Hid (∀ k, k < l.length → ∃ b off, ao = some ⟨b, off, none⟩ ∧ l.length ≤ cap ∧ b < w.heap.size ∧ ∀ j, j < l.length → w.cell? ⟨b, off + j, none⟩ = some (.int .i64 (l[j]?.getD 0))) := ho
  clear ho hv hc0 F
  unfold maxLen at hcap
  go_enter Tryd.func7, Tryd.ntmps7
  go_wp2_with (go_at_call 16; go_must (refine (rcount_any n (by omega) _).mono ?_; rintro e w1 ⟨vl, rfl, hO1, hb1⟩; have HR0 : Hid (RLRel (fun a => a - 1) w n l vl (.int .i64 0) (.int .i64 0) w1) := ⟨0, Nat.zero_le _, rfl, rfl, hO1, hb1⟩; clear hO1 hb1))
  go_loopw [8, 9, 10] (fun vl s i wr => RLRel (fun a => a - 1) w n l vl s i wr) (fun _ _ i _ => l.length - (intOf i).toNat)
  case atStart => exact HR0.out
  case round =>
    clear HR0
    obtain ⟨k, hk, rfl, rfl, hown, hbel⟩ := hrel
    have hwr := hbel.size
    have hck := HCO.out k hk
    have hkn : k * n ≤ 160 := by have := Nat.mul_le_mul (show k ≤ 40 by omega) hn4; omega
    by_cases hlt : k < l.length
    · obtain ⟨br, off, rfl, hlc, hbw, hcell⟩ := HO.out k hlt
      have hcl : wr.cell? ⟨br, off + k, none⟩ = some (.int .i64 (l[k]?.getD 0)) := (hbel.cell (by exact hbw)).trans (hcell k hlt)
      have HBW : Hid (br < wr.heap.size) := by unfold Hid; omega
      have hrow := way_row (f := (fun a => a - 1)) (Un_nodup n) HIN.out k hk
      have hxU := asked_in HIN.out hlt
      have hxm : l[k]?.getD 0 ∈ wayRow (fun a => a - 1) (Un n) l k := (hrow.mem _).2 hxU
      have hlen : (wayRow (fun a => a - 1) (Un n) l k).length = n := by rw [same_length hrow.nd (Un_nodup n) hrow.mem, Un_length]
      have hpl := pos_lt hxm
      rw [hlen] at hpl
      have HPL : Hid (plc (wayRow (fun a => a - 1) (Un n) l k) (l[k]?.getD 0) = (pos (wayRow (fun a => a - 1) (Un n) l k) (l[k]?.getD 0) : Nat)) := plc_pos hxm
      have HEL : Hid (((wayRow (fun a => a - 1) (Un n) l k).erase (l[k]?.getD 0)).length = n - 1) := by unfold Hid; rw [List.length_erase_of_mem hxm, hlen]
      have HLEN : Hid ((wayRow (fun a => a - 1) (Un n) l k).length = n) := hlen
      have HWR : Hid (wayRow (fun a => a - 1) (Un n) l (k+1) = mv (wayRow (fun a => a - 1) (Un n) l k) (l[k]?.getD 0) ((fun a => a - 1) (pos (wayRow (fun a => a - 1) (Un n) l k) (l[k]?.getD 0)))) := rfl
      have HWC : Hid (wayCost (fun a => a - 1) (Un n) l (k+1) = wayCost (fun a => a - 1) (Un n) l k + pos (wayRow (fun a => a - 1) (Un n) l k) (l[k]?.getD 0) + 1) := rfl
      have HOWN : Hid (OwnI wr w.heap.size u8 (wayRow (fun a => a - 1) (Un n) l k)) := hown
      have HBEL : Hid (Below w.heap.size w wr) := hbel
      clear hcell hbw hrow hxU hxm hlen hown hbel
      generalize l[k]?.getD 0 = x at *
      generalize wayRow (fun a => a - 1) (Un n) l k = R at *
      generalize wayCost (fun a => a - 1) (Un n) l k = C at *
      generalize pos R x = p at *
      rcases (by cases p; exact .inl rfl; exact .inr ⟨_, rfl⟩ : p = 0 ∨ ∃ q, p = q + 1) with hp0 | ⟨q, hq⟩
      · subst hp0
        go_wp2_with (go_at_call 17; go_must (refine (rplace_any _ R x _ HOWN.out.isInts).mono ?_; rintro e w' ⟨rfl, hw⟩; have hw := hw.symm; subst hw; rw [HPL.out]))
        have HOWD : Hid (IsInts wr.drew u8 R) := (show OwnI wr.drew w.heap.size u8 R from HOWN.out).isInts
        go_region_with (first | (go_at_call 19; go_must (refine (without_any _ R x wr.drew HOWD.out (by rw [HLEN.out]; omega)).mono ?_; rintro e w2 ⟨v2, rfl, hO2, hb2⟩; have HO2 : Hid (OwnI w2 wr.heap.size v2 (R.erase x)) := hO2; have hcl2 : w2.cell? ⟨br, off + k, none⟩ = some (.int .i64 x) := (hb2.cell (p := ⟨br, off + k, none⟩) HBW.out).trans hcl; have HB2 : Hid (Below w.heap.size w w2) := HBEL.out.drew.trans (hb2.mono hwr); have hs2 : w.heap.size ≤ w2.heap.size := HB2.out.size; clear hO2 hb2)) | (go_at_call 18; go_must (refine (rput_any _ (R.erase x) 0 x _ _ HO2.out (by rw [HEL.out]; omega) (by rw [HEL.out]; omega)).mono ?_; rintro e w3 ⟨v3, rfl, hO3, hb3⟩; rw [erase_mv] at hO3; have HO3 : Hid (OwnI w3 w.heap.size v3 (mv R x 0)) := ownI_mono hO3 hs2; have HB3 : Hid (Below w.heap.size w w3) := HB2.out.trans (hb3.mono hs2); clear hO3 hb3)))
        all_goals
          go_wp2
          go_roundw
          case rel => exact ⟨k + 1, by omega, by go_num, by rw [HWC.out]; go_num, by rw [HWR.out]; exact HO3.out, HB3.out⟩
          case measure => simp [intOf]; omega
      · subst hq
        have HWR2 : Hid (wayRow (fun a => a - 1) (Un n) l (k+1) = mv R x q) := by unfold Hid; rw [HWR.out]; rfl
        clear HWR
        have HWR := HWR2
        go_wp2_with (go_at_call 17; go_must (refine (rplace_any _ R x _ HOWN.out.isInts).mono ?_; rintro e w' ⟨rfl, hw⟩; have hw := hw.symm; subst hw; rw [HPL.out]))
        have HOWD : Hid (IsInts wr.drew u8 R) := (show OwnI wr.drew w.heap.size u8 R from HOWN.out).isInts
        go_region_with (first | (go_at_call 19; go_must (refine (without_any _ R x wr.drew HOWD.out (by rw [HLEN.out]; omega)).mono ?_; rintro e w2 ⟨v2, rfl, hO2, hb2⟩; have HO2 : Hid (OwnI w2 wr.heap.size v2 (R.erase x)) := hO2; have hcl2 : w2.cell? ⟨br, off + k, none⟩ = some (.int .i64 x) := (hb2.cell (p := ⟨br, off + k, none⟩) HBW.out).trans hcl; have HB2 : Hid (Below w.heap.size w w2) := HBEL.out.drew.trans (hb2.mono hwr); have hs2 : w.heap.size ≤ w2.heap.size := HB2.out.size; clear hO2 hb2)) | (go_at_call 18; go_must (refine (rput_any _ (R.erase x) q x _ _ HO2.out (by rw [HEL.out]; omega) (by rw [HEL.out]; omega)).mono ?_; rintro e w3 ⟨v3, rfl, hO3, hb3⟩; rw [erase_mv] at hO3; have HO3 : Hid (OwnI w3 w.heap.size v3 (mv R x q)) := ownI_mono hO3 hs2; have HB3 : Hid (Below w.heap.size w w3) := HB2.out.trans (hb3.mono hs2); clear hO3 hb3)))
        all_goals
          go_wp2
          go_roundw
          case rel => exact ⟨k + 1, by omega, by go_num, by rw [HWC.out]; go_num, by rw [HWR.out]; exact HO3.out, HB3.out⟩
          case measure => simp [intOf]; omega
    · have hkl : k = l.length := by omega
      subst hkl
      have HOWN : Hid (OwnI wr w.heap.size u8 (wayRow (fun a => a - 1) (Un n) l l.length)) := hown
      clear hown
      generalize hC : wayCost (fun a => a - 1) (Un n) l l.length = C at *
      have HC : Hid (wayCost (fun a => a - 1) (Un n) l l.length = C) := hC
      clear hC
      go_wp2
      go_ret2
      exact ⟨_, by rw [HC.out]; rfl, HOWN.out, hbel⟩
end Go.Proofs.YtjafedijbainbaaDoor
