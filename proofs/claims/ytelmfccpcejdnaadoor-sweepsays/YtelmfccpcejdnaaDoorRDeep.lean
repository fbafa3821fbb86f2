/- The walks of the document's Deep and Marks (larderwickref2): as deep as may be. -/
import Derived.Test.YtelmfccpcejdnaaDoorSCome
import Derived.Test.YtelmfccpcejdnaaDoorHasAt
import Derived.Test.YtelmfccpcejdnaaDoorStepL
import Derived.Deep.RegionWith
namespace Go.Proofs.YtelmfccpcejdnaaDoor
set_option maxRecDepth 100000
open Go.RowKit Go.Sort

section
variable {w0 : World} {B co : Nat} {ao : Option Addr} {L : List (List Int)} {R : List Int}
set_option maxHeartbeats 2000000 in
theorem rdeep_any (hf : FineH L R) (hr : IsRows w0 (.slice ao L.length co) L) (h0 : w0.heap.size ≤ B) (n : Nat) : ∀ (x : Nat) (A C : List Int) (vf : Value) (w : World), unmarked (upTo L.length) A < n → x < L.length → Inn L A → Deep (gOf L) A [(x : Int)] C → OwnI w B vf A → B ≤ w.heap.size → Below w0.heap.size w0 w →
    Calls Tryd.prog 16 #[.slice ao L.length co, vf, .int .i64 (x : Nat)] w fun e w' => ∃ v', e = .returned v' ∧ OwnI w' B v' C ∧ Below B w w' := by
  induction n with
  | zero => intro _ _ _ _ _ h; omega
  | succ n ih =>
    intro x A C vf w hn hx hI hd ho hB hb
    have HIH : Hid (∀ (x : Nat) (A C : List Int) (vf : Value) (w : World), unmarked (upTo L.length) A < n → x < L.length → Inn L A → Deep (gOf L) A [(x : Int)] C → OwnI w B vf A → B ≤ w.heap.size → Below w0.heap.size w0 w →
      Calls Tryd.prog 16 #[.slice ao L.length co, vf, .int .i64 (x : Nat)] w fun e w' => ∃ v', e = .returned v' ∧ OwnI w' B v' C ∧ Below B w w') := ih
    clear ih
    have HF : Hid (FineH L R) := hf
    have HR : Hid (IsRows w0 (.slice ao L.length co) L) := hr
    have HO : Hid (OwnI w B vf A) := ho
    have HII : Hid (Inn L A) := hI
    have HB : Hid (Below w0.heap.size w0 w) := hb
    have hl12 := hf.few
    have hA12 : A.length ≤ 12 := by have := hI.few; omega
    obtain ⟨af, cf, rfl⟩ := ho.form
    by_cases hA : (x : Int) ∈ A
    · have HA : Hid (A.contains (x : Int) = true) := List.contains_iff_mem.2 hA
      have hCA : C = A := ((Deep.pop hA).1 hd).det .nil
      subst hCA
      clear hd ho hI hA hb hr
      go_enter Tryd.func16, Tryd.ntmps16
      go_wp2_with (go_at_call 28; go_must (refine (has_at HO.out.isInts HA.out _ rfl).mono ?_; rintro e w' ⟨rfl, hw⟩; have hw := hw.symm; subst hw))
      go_ret
      exact ⟨_, rfl, HO.out, Below.refl _ _⟩
    · have HA : Hid (A.contains (x : Int) = false) := by
        unfold Hid
        rw [Bool.eq_false_iff]
        exact fun h => hA (List.contains_iff_mem.1 h)
      have HN : Hid (unmarked (upTo L.length) (A ++ [(x : Int)]) < n) := by
        have := unm_less (n := L.length) (A := A) (x := (x : Int)) ⟨by omega, by omega⟩ hA
        unfold Hid; omega
      have HI1 : Hid (Inn L (A ++ [(x : Int)])) := hI.add ⟨by omega, by omega⟩ hA
      have HD : Hid (Deep (gOf L) (A ++ [(x : Int)]) (rowAt L x) C) := by
        have := (Deep.push hA).1 hd
        rw [List.append_nil, gOf_at] at this
        exact this
      obtain ⟨i0, hi, hz0, hz1, hz2⟩ := info_parts Tryd.info3
      have HI : Hid (Tryd.prog.info? 3 = some i0 ∧ i0.zero = some (.int .i64 0) ∧ i0.size = 1 ∧ i0.bytes = 8) := ⟨hi, hz0, hz1, hz2⟩
      clear hd ho hI hA hb hi hz0 hz1 hz2
      go_enter Tryd.func16, Tryd.ntmps16
      go_wp2_with (first | (go_at_call 28; go_must (refine (has_at HO.out.isInts HA.out _ rfl).mono ?_; rintro e w' ⟨rfl, hw⟩; have hw := hw.symm; subst hw)) | (at_builtin; go_must (refine wpList_append_own _ rfl _ _ 23 rfl B 3 i0 (.int .i64 0) 1 8 Tryd.underlying23 HI.out.1 HI.out.2.1 HI.out.2.2.1 HI.out.2.2.2 rfl (by decide) _ A.length (A.map (Value.int .i64)) rfl (World.ownsRow.alloc (HO.out.rows rfl rfl) _) ⟨w.heap.size, 0, none⟩ 1 1 [.int .i64 (x : Nat)] rfl rfl (by exact new_one _ _ _) (one_cell _) (by unfold maxLen; omega) (by omega) (by simp; omega) ?_; intro v1 w1 hown' hgrow _)))
      have R1 := own_append HO.out (Below.refl B w) hB hown' hgrow
      have HO1 : Hid (OwnI w1 B v1 (A ++ [(x : Int)])) := R1.1
      have HBB1 : Hid (Below B w w1) := R1.2
      have HS1 : Hid (B ≤ w1.heap.size) := Nat.le_trans hB R1.2.size
      have HB1 : Hid (Below w0.heap.size w0 w1) := HB.out.trans (R1.2.mono h0)
      clear R1 hown' hgrow HO HB
      obtain ⟨b, off, rfl, hlc, hbs, au, cu, hcu, hiu, hmm, hcum⟩ := HR.out.at hx
      have HCU : Hid (w0.cell? ⟨b, off + x, none⟩ = some (.slice au (rowAt L x).length cu)) := hcu
      have HIU : Hid (IsInts w0 (.slice au (rowAt L x).length cu) (rowAt L x)) := hiu
      have hxi : (x : Int) < (L.length : Int) := by omega
      have HRN : Hid (∀ y, y ∈ rowAt L x → 0 ≤ y ∧ y < L.length) := HF.out.node _ (rowAt_mem hx)
      have h4 : (rowAt L x).length ≤ 4 := HF.out.outs _ (rowAt_mem hx)
      clear hiu hcu
      go_wp2
      go_loopw [1, 7] (fun rv i wr => ∃ (k : Nat) (A2 : List Int), k ≤ (rowAt L x).length ∧ i = .int .i64 (k : Nat) ∧ Hid (OwnI wr B rv A2) ∧ Hid (Inn L A2) ∧ Hid (unmarked (upTo L.length) A2 < n) ∧ Hid (Deep (gOf L) A2 ((rowAt L x).drop k) C) ∧ Hid (Below B w1 wr)) (fun _ i _ => (rowAt L x).length - (intOf i).toNat)
      case atStart => exact ⟨0, _, Nat.zero_le _, rfl, HO1, HI1, HN, by rw [List.drop_zero]; exact HD, Below.refl _ _⟩
      case round =>
        obtain ⟨k, A2, hk, rfl, HO2, HI2, HN2, HD2, HB2⟩ := hrel
        have HBR : Hid (Below w0.heap.size w0 wr) := HB1.out.trans (HB2.out.mono h0)
        have hcuw : wr.cell? ⟨b, off + x, none⟩ = some (.slice au (rowAt L x).length cu) := (HBR.out.cell (p := ⟨b, off + x, none⟩) hbs).trans HCU.out
        by_cases hlt : k < (rowAt L x).length
        · have hlt' : (k : Int) < ((rowAt L x).length : Int) := by omega
          obtain ⟨b2, off2, rfl, hlc2, hb2, hcell⟩ := (HIU.out.below HBR.out).open_at hlt
          have hck := hcell k hlt
          clear hcell
          have hy := HRN.out _ (List.getElem_mem hlt)
          have hdr : (rowAt L x).drop k = (rowAt L x)[k] :: (rowAt L x).drop (k+1) := List.drop_eq_getElem_cons hlt
          rw [List.getElem?_eq_getElem hlt, Option.getD_some] at hck
          have HD3 := HD2.out
          rw [hdr] at HD3
          obtain ⟨A3, hd3, hd4⟩ := Deep.one.1 HD3
          generalize (rowAt L x)[k] = y at *
          obtain ⟨y, rfl⟩ : ∃ t : Nat, y = (t : Int) := ⟨y.toNat, by omega⟩
          have hyl : y < L.length := by omega
          have HD3 : Hid (Deep (gOf L) A2 [(y : Int)] A3) := hd3
          have HD4 : Hid (Deep (gOf L) A3 ((rowAt L x).drop (k+1)) C) := hd4
          have HI3 : Hid (Inn L A3) := HI2.out.deep HF.out (fun z hz => by rw [List.mem_singleton] at hz; rw [hz]; exact hy) hd3
          have HN3 : Hid (unmarked (upTo L.length) A3 < n) := Nat.lt_of_le_of_lt (unm_mono (upTo_nodup _) hd3) HN2.out
          clear hd3 hd4 hdr hy HD2
          go_wp2_with (go_at_call 16; go_must (refine (HIH.out y A2 A3 _ _ HN2.out hyl HI2.out HD3.out HO2.out (Nat.le_trans HS1.out HB2.out.size) HBR.out).mono ?_; rintro e w3 ⟨v3, rfl, ho3, hb3⟩; have HO3 : Hid _ := ho3; have HB3 : Hid _ := hb3; clear ho3 hb3))
          go_roundw
          case rel => exact ⟨k + 1, A3, by omega, by go_num, HO3, HI3, HN3, HD4, HB2.out.trans HB3.out⟩
          case measure => simp [intOf]; omega
        · have hlt' : ¬ (k : Int) < ((rowAt L x).length : Int) := by omega
          have hA2 : C = A2 := by
            have h := HD2.out
            rw [List.drop_eq_nil_of_le (by omega)] at h
            exact h.det .nil
          subst hA2
          go_wp2
          go_ret
          exact ⟨_, rfl, HO2.out, HBB1.out.trans HB2.out⟩
end
set_option maxHeartbeats 2000000 in
theorem rmarks_any (v : Value) (L : List (List Int)) (R : List Int) (w : World) (hv : IsHeap w v L R) (hf : FineH L R) :
    Calls Tryd.prog 5 #[v] w fun e w' => ∃ v', e = .returned v' ∧ (∃ C, OwnI w' w.heap.size v' C ∧ Deep (gOf L) [] R C) ∧ Below w.heap.size w w' := by
  obtain ⟨ao, co, ar, cr, rfl, h1, h2⟩ := hv.form
  have HB1 : Hid (Boxed w (w.alloc (.cells #[.slice ao L.length co, .slice ar R.length cr] 25)) w.heap.size ao co ar cr L R) := boxed h1 h2 _
  have HF : Hid (FineH L R) := hf
  obtain ⟨C, hC⟩ := deep_fine (A := []) hf hf.root
  have HD : Hid (Deep (gOf L) [] R C) := hC
  have hR12 := hf.roots
  have hcR := HB1.out.capR
  have HI0 : Hid (Inn L []) := inn_nil L
  clear hv h1 h2 hf hC
  go_enter Tryd.func5, Tryd.ntmps5
  go_wp2
  generalize w.alloc (.cells #[.slice ao L.length co, .slice ar R.length cr] 25) = w1 at *
  have hs1 := HB1.out.below.size
  go_loopw [3, 4] (fun rv i wr => ∃ (k : Nat) (A2 : List Int), k ≤ R.length ∧ i = .int .i64 (k : Nat) ∧ Hid (OwnI wr w1.heap.size rv A2) ∧ Hid (Inn L A2) ∧ Hid (Deep (gOf L) A2 (R.drop k) C) ∧ Hid (Below w1.heap.size w1 wr)) (fun _ i _ => R.length - (intOf i).toNat)
  case atStart => exact ⟨0, _, Nat.zero_le _, rfl, OwnI.nil _ _, HI0, by rw [List.drop_zero]; exact HD, Below.refl _ _⟩
  case round =>
    obtain ⟨k, A2, hk, rfl, HO2, HI2, HD2, HB2⟩ := hrel
    have HBX : Hid (Boxed w wr w.heap.size ao co ar cr L R) := HB1.out.later HB2.out
    have hd0 := HBX.out.outs
    have hd1 := HBX.out.roots
    by_cases hlt : k < R.length
    · have hlt' : (k : Int) < (R.length : Int) := by omega
      obtain ⟨b2, off2, rfl, hlc2, hb2, hcell⟩ := HBX.out.ints.open_at hlt
      have hck := hcell k hlt
      clear hcell
      have hy := HF.out.root _ (List.getElem_mem hlt)
      have hdr : R.drop k = R[k] :: R.drop (k+1) := List.drop_eq_getElem_cons hlt
      rw [List.getElem?_eq_getElem hlt, Option.getD_some] at hck
      have HD3 := HD2.out
      rw [hdr] at HD3
      obtain ⟨A3, hd3, hd4⟩ := Deep.one.1 HD3
      generalize R[k] = y at *
      obtain ⟨y, rfl⟩ : ∃ t : Nat, y = (t : Int) := ⟨y.toNat, by omega⟩
      have hyl : y < L.length := by omega
      have HD4 : Hid (Deep (gOf L) A3 (R.drop (k+1)) C) := hd4
      have HI3 : Hid (Inn L A3) := HI2.out.deep HF.out (fun z hz => by rw [List.mem_singleton] at hz; rw [hz]; exact hy) hd3
      have HDC : Hid (∀ W : World, Below w1.heap.size w1 W → OwnI W w1.heap.size u3 A2 → Calls Tryd.prog 16 #[.slice ao L.length co, u3, .int .i64 (y : Nat)] W fun e w' => ∃ v', e = .returned v' ∧ OwnI w' w1.heap.size v' A3 ∧ Below w1.heap.size W w') := fun W hW hO =>
        rdeep_any HF.out HB1.out.rows (Nat.le_refl _) (unmarked (upTo L.length) A2 + 1) y A2 A3 u3 W (Nat.lt_succ_self _) hyl HI2.out hd3 hO hW.size hW
      have HOD : Hid (OwnI wr.drew w1.heap.size u3 A2) := HO2.out.later (Below.refl _ _).drew
      have HBD : Hid (Below w1.heap.size w1 wr.drew) := HB2.out.drew
      clear hd3 hd4 hdr hy HD2
      go_wp2
      go_region_with (go_at_call 16; go_must (refine (HDC.out _ HBD.out HOD.out).mono ?_; rintro e w3 ⟨v3, rfl, ho3, hb3⟩; have HO3 : Hid _ := ho3; have HB3 : Hid _ := hb3; clear ho3 hb3))
      all_goals go_wp2
      all_goals exact ⟨⟨k + 1, A3, by omega, by go_num, HO3, HI3, HD4, HBD.out.trans HB3.out⟩, by simp [intOf]; omega⟩
    · have hlt' : ¬ (k : Int) < (R.length : Int) := by omega
      have hA2 : C = A2 := by
        have h := HD2.out
        rw [List.drop_eq_nil_of_le (by omega)] at h
        exact h.det .nil
      subst hA2
      go_wp2
      go_ret
      exact ⟨_, rfl, ⟨C, ownI_mono HO2.out hs1, HD.out⟩, HBX.out.below⟩
end Go.Proofs.YtelmfccpcejdnaaDoor
