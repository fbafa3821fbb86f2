/- The walk of sweep.Turn. -/
import Derived.Test.YtelmfccpcejdnaaDoorSWalk
import Derived.Test.YtelmfccpcejdnaaDoorSClone
import Derived.Test.YtelmfccpcejdnaaDoorSMarkT
import Derived.Test.YtelmfccpcejdnaaDoorStepL
namespace Go.Proofs.YtelmfccpcejdnaaDoor
set_option maxRecDepth 100000
open Go.RowKit Go.Sort

set_option maxHeartbeats 4000000 in
theorem sturn_any (v : Value) (L : List (List Int)) (R : List Int) (w : World) (hv : IsHeap w v L R) :
    Calls Tryd.prog 11 #[v] w fun e w' => (∃ vo vx, e = .returned (.tuple #[vo, vx, errV (chkH L R)]) ∧ (∃ C, IsInts w' vo C ∧ MarkIs L R C) ∧ IsRows w' vx (if chkH L R = 0 then L else [])) ∧ Below w.heap.size w w' := by
  obtain ⟨ao, co, ar, cr, rfl, h1, h2⟩ := hv.form
  have HBX : Hid (Boxed w (w.alloc (.cells #[.slice ao L.length co, .slice ar R.length cr] 25)) w.heap.size ao co ar cr L R) := boxed h1 h2 _
  have hd0 : (w.alloc (.cells #[.slice ao L.length co, .slice ar R.length cr] 25)).cell? ⟨w.heap.size, 0, none⟩ = some (.slice ao L.length co) := HBX.out.outs
  have hd1 : (w.alloc (.cells #[.slice ao L.length co, .slice ar R.length cr] 25)).cell? ⟨w.heap.size, 1, none⟩ = some (.slice ar R.length cr) := HBX.out.roots
  clear hv h1 h2
  by_cases h0 : chkH L R = 0
  · have HF : Hid (FineH L R) := chkH_zero.1 h0
    have H0 : Hid (chkH L R = 0) := h0
    have hl12 := HF.out.few
    obtain ⟨i0, hi, hz0, hz1, hz2⟩ := info_parts info_row
    have HI : Hid (Tryd.prog.info? 23 = some i0 ∧ i0.zero = some (.slice none 0 0) ∧ i0.size = 1 ∧ i0.bytes = 24) := ⟨hi, hz0, hz1, hz2⟩
    clear h0 hi hz0 hz1 hz2
    go_enter Tryd.func11, Tryd.ntmps11
    go_wp2_with (go_at_call 19; fail)
    generalize w.alloc (.cells #[.slice ao L.length co, .slice ar R.length cr] 25) = W at *
    refine (gcheck_any _ L R _ HBX.out.isHeap).mono ?_
    rintro e w2 ⟨rfl, hb2⟩
    rw [H0.out, show errV 0 = .nilIface from rfl]
    have HB2 : Hid (Boxed w w2 w.heap.size ao co ar cr L R) := HBX.out.later hb2
    have hd0 : w2.cell? ⟨w.heap.size, 0, none⟩ = some (.slice ao L.length co) := HB2.out.outs
    have hcO := HB2.out.capO
    clear hb2 HBX hd1
    go_wp2
    clear hd0
    go_loopw [6, 21] (fun rv i wr => ∃ (k : Nat), k ≤ L.length ∧ i = .int .i64 (k : Nat) ∧ Hid (TRows wr w2.heap.size wr.heap.size rv (L.take k)) ∧ Hid (Below w2.heap.size w2 wr)) (fun _ i _ => L.length - (intOf i).toNat)
    case atStart => exact ⟨0, Nat.zero_le _, rfl, by rw [List.take_zero]; exact tRows_nil _ _ _, Below.refl _ _⟩
    case round =>
      obtain ⟨k, hk, rfl, HT, HBE⟩ := hrel
      by_cases hlt : k < L.length
      · have hlt' : (k : Int) < (L.length : Int) := by omega
        obtain ⟨b, off, rfl, hlc, hbs, au, cu, hcu, hiu, hmm, hcum⟩ := HB2.out.rows.at hlt
        have hcw : wr.cell? ⟨b, off + k, none⟩ = some (.slice au (rowAt L k).length cu) := (HBE.out.cell (p := ⟨b, off + k, none⟩) hbs).trans hcu
        have HIU : Hid (IsInts wr (.slice au (rowAt L k).length cu) (rowAt L k)) := hiu.below HBE.out
        have h4 : (rowAt L k).length ≤ 100 := by have := HF.out.outs _ (rowAt_mem hlt); omega
        have HLK : Hid (L.take (k+1) = L.take k ++ [rowAt L k]) := by
          unfold Hid rowAt
          rw [List.take_succ_eq_append_getElem hlt, List.getElem?_eq_getElem hlt]; rfl
        have HLL : Hid ((L.take k).length = k) := by unfold Hid; simp; omega
        clear hcu hiu
        go_wp2_with (go_at_call 23; fail)
        refine (clone_any _ (rowAt L k) _ HIU.out h4).mono ?_
        rintro e w3 ⟨u, rfl, hu, hb3⟩
        obtain ⟨aU, cU, rfl⟩ := OwnI.form hu
        have HT3 := HT.out.later hb3
        obtain ⟨us, hus, hown, hrest⟩ := HT3
        have HT3 : Hid (TRows w3 w2.heap.size wr.heap.size u6 (L.take k)) := ⟨us, hus, hown, hrest⟩
        have HOWN : Hid (w3.ownsRow w2.heap.size 23 1 u6 (L.take k).length us) := hown
        have HOWK : Hid (w3.ownsRow w2.heap.size 23 1 u6 k us) := by have := HOWN.out; rw [HLL.out] at this; exact this
        have HU : Hid (OwnI w3 w2.heap.size (.slice aU (rowAt L k).length cU) (rowAt L k)) := ownI_mono hu HBE.out.size
        have HUN : Hid (∀ q, (Value.slice aU (rowAt L k).length cU).ownBlock = some q → wr.heap.size ≤ q) := fun q hq => (World.ownsRow.lt hu q hq).1
        have HUS : Hid (us.length = (L.take k).length) := hus
        have HB3 : Hid (Below w2.heap.size w2 w3) := HBE.out.trans (hb3.mono HBE.out.size)
        have HU1 : Hid (∀ x ∈ [Value.slice aU (rowAt L k).length cU], x.oneCell' = true) := ownI_one hu
        clear hus hown hrest hu hb3 HT
        go_wp2_with (at_builtin; go_must (refine wpList_append_own _ rfl _ _ 22 rfl w2.heap.size 23 i0 (.slice none 0 0) 1 24 Tryd.underlying22 HI.out.1 HI.out.2.1 HI.out.2.2.1 HI.out.2.2.2 rfl (by decide) _ k us rfl (World.ownsRow.alloc HOWK.out _) ⟨w3.heap.size, 0, none⟩ 1 1 [.slice aU (rowAt L k).length cU] rfl rfl (by exact new_one _ _ _) HU1.out (by unfold maxLen; omega) (by omega) (by have := HB3.out.size; simp; omega) ?_; intro vo' w5 hown' hgrow _))
        have HT5 : Hid (TRows w5 w2.heap.size w5.heap.size vo' (L.take (k+1))) := by
          unfold Hid
          rw [HLK.out]
          exact HT3.out.append HU.out HUN.out us HUS.out HOWN.out (by rw [HLL.out]; exact hown') hgrow
        have HB5 : Hid (Below w2.heap.size w2 w5) := (HB3.out.alloc HB3.out.size _).grown hgrow (by have := HB3.out.size; simp; omega) fun q hq => (World.ownsRow.lt HOWK.out q hq).1
        clear hown' hgrow
        go_roundw
        case rel => exact ⟨k + 1, by omega, by go_num, HT5, HB5⟩
        case measure => simp [intOf]; omega
      · have hlt' : ¬ (k : Int) < (L.length : Int) := by omega
        have HTL : Hid (TRows wr w2.heap.size wr.heap.size u6 L) := by have := HT.out; rwa [List.take_of_length_le (by omega)] at this
        clear HT
        obtain ⟨wA, hwA⟩ : ∃ wA, wA = wr := ⟨_, rfl⟩
        subst hwA
        obtain ⟨vx, hvx⟩ : ∃ vx, vx = u6 := ⟨_, rfl⟩
        subst hvx
        go_wp2_with (go_at_call 20; fail)
        refine (marker_any _ _).mono ?_
        rintro e w3 ⟨rfl, rfl⟩
        have HN : Hid (Ord ((wA.alloc (.cells #[.slice none 0 0] 23)).alloc (.cells #[.pointer (some ⟨wA.heap.size, 0, none⟩)] 50)) (wA.heap.size + 1 + 1) wA.heap.size [] (.slice none 0 0)) := ord_start wA _
        have HGM : Hid (((wA.alloc (.cells #[.slice none 0 0] 23)).alloc (.cells #[.pointer (some ⟨wA.heap.size, 0, none⟩)] 50)).cell? ⟨wA.heap.size + 1, 0, none⟩ = some (.pointer (some ⟨wA.heap.size, 0, none⟩))) := by unfold Hid; simp
        have HB3 : Hid (Below wA.heap.size wA ((wA.alloc (.cells #[.slice none 0 0] 23)).alloc (.cells #[.pointer (some ⟨wA.heap.size, 0, none⟩)] 50))) := ((Below.refl _ wA).alloc (Nat.le_refl _) _).alloc (by simp) _
        have HT3 : Hid (TRows ((wA.alloc (.cells #[.slice none 0 0] 23)).alloc (.cells #[.pointer (some ⟨wA.heap.size, 0, none⟩)] 50)) w2.heap.size wA.heap.size vx L) := HTL.out.later HB3.out
        have HBX3 : Hid (Boxed w ((wA.alloc (.cells #[.slice none 0 0] 23)).alloc (.cells #[.pointer (some ⟨wA.heap.size, 0, none⟩)] 50)) w.heap.size ao co ar cr L R) := HB2.out.later (HBE.out.trans (HB3.out.mono HBE.out.size))
        have hlo : w2.heap.size ≤ wA.heap.size := HBE.out.size
        rw [show (wA.alloc (.cells #[.slice none 0 0] 23)).heap.size = wA.heap.size + 1 by simp]
        generalize ((wA.alloc (.cells #[.slice none 0 0] 23)).alloc (.cells #[.pointer (some ⟨wA.heap.size, 0, none⟩)] 50)) = w4 at *
        have hd1 : w4.cell? ⟨w.heap.size, 1, none⟩ = some (.slice ar R.length cr) := HBX3.out.roots
        obtain ⟨C, hC⟩ := deep_fine (A := []) HF.out HF.out.root
        have HD : Hid (Deep (gOf L) [] R C) := hC
        have hcR := HBX3.out.capR
        have HRI : Hid (IsInts w4 (.slice ar R.length cr) R) := HBX3.out.ints
        have HI0 : Hid (Inn L []) := inn_nil L
        clear hC HTL
        go_wp2
        go_loopw [35] (fun i wr => ∃ (k : Nat) (A2 : List Int) (vo2 : Value), k ≤ R.length ∧ i = .int .i64 (k : Nat) ∧ Hid (Ord wr (wA.heap.size + 1 + 1) wA.heap.size A2 vo2) ∧ Hid (Inn L A2) ∧ Hid (Deep (gOf L) A2 (R.drop k) C) ∧ Hid (TRows wr w2.heap.size wA.heap.size vx L) ∧ Hid (Wr w2.heap.size wA.heap.size (wA.heap.size + 1 + 1) w4 wr)) (fun i _ => R.length - (intOf i).toNat)
        case atStart => exact ⟨0, _, _, Nat.zero_le _, rfl, HN, HI0, by rw [List.drop_zero]; exact HD, HT3, Wr.refl _ _ _ _⟩
        case round =>
          obtain ⟨k, A2, vo2, hk, rfl, HO2, HI2, HD2, HT2, HW2⟩ := hrel
          clear HT3
          have HBW : Hid (Below w2.heap.size w4 wr) := HW2.out.below (by omega)
          have HBX4 : Hid (Boxed w wr w.heap.size ao co ar cr L R) := ⟨HBX3.out.below.trans (HBW.out.mono HB2.out.below.size), (HBW.out.cell (p := ⟨w.heap.size, 0, none⟩) HB2.out.lt).trans HBX3.out.outs, (HBW.out.cell (p := ⟨w.heap.size, 1, none⟩) HB2.out.lt).trans HBX3.out.roots, HB2.out.rows.below (HBE.out.trans ((HB3.out.mono HBE.out.size).trans HBW.out)), HB2.out.ints.below (HBE.out.trans ((HB3.out.mono HBE.out.size).trans HBW.out)), HB2.out.le, Nat.lt_of_lt_of_le HBX3.out.lt HBW.out.size, HBX3.out.capO, HBX3.out.capR⟩
          by_cases hlt : k < R.length
          · have hlt' : (k : Int) < (R.length : Int) := by omega
            obtain ⟨b2, off2, rfl, hlc2, hb2, hcell⟩ := HBX4.out.ints.open_at hlt
            have hck := hcell k hlt
            clear hcell
            have hy := HF.out.root _ (List.getElem_mem hlt)
            have hdr : R.drop k = R[k] :: R.drop (k+1) := List.drop_eq_getElem_cons hlt
            rw [List.getElem?_eq_getElem hlt, Option.getD_some] at hck
            have HD3 := HD2.out
            rw [hdr] at HD3
            obtain ⟨A3, hd3, hd4⟩ := Deep.one.1 HD3
            generalize R[k] = y at *
            obtain ⟨y, rfl⟩ : ∃ t : Nat, y = (t : Int) := ⟨y.toNat, by omega⟩
            have hyl : y < L.length := by omega
            have HD3 : Hid (Deep (gOf L) A2 [(y : Int)] A3) := hd3
            have HD4 : Hid (Deep (gOf L) A3 (R.drop (k+1)) C) := hd4
            have HI3 : Hid (Inn L A3) := HI2.out.deep HF.out (fun z hz => by rw [List.mem_singleton] at hz; rw [hz]; exact hy) hd3
            have HGC : Hid (wr.cell? ⟨wA.heap.size + 1, 0, none⟩ = some (.pointer (some ⟨wA.heap.size, 0, none⟩))) := (HW2.out.cell (p := ⟨wA.heap.size + 1, 0, none⟩) (by show wA.heap.size + 1 < _; omega) (by show wA.heap.size < wA.heap.size + 1; omega)).trans HGM.out
            clear hd3 hd4 hdr hy HD2
            go_wp2_with (go_at_call 24; go_must (refine (swalk_any HF.out y vx vo2 _ hyl HI2.out HD3.out HO2.out HT2.out HGC.out ⟨by omega, by omega⟩ hlo).mono ?_; rintro e w5 ⟨rfl, ⟨vo3, ho3⟩, ht3, hw3⟩; have HO3 : Hid _ := ho3; have HTT : Hid _ := ht3; have HW3 : Hid _ := hw3; clear ho3 ht3 hw3))
            go_roundw
            case rel => exact ⟨k + 1, A3, vo3, by omega, by go_num, HO3, HI3, HD4, HTT, HW2.out.trans HW3.out⟩
            case measure => simp [intOf]; omega
          · have hlt' : ¬ (k : Int) < (R.length : Int) := by omega
            have hA2 : C = A2 := by
              have h := HD2.out
              rw [List.drop_eq_nil_of_le (by omega)] at h
              exact h.det .nil
            subst hA2
            obtain ⟨a2, c2, rfl⟩ := HO2.out.form
            have hcb := HO2.out.cell
            go_wp2
            go_ret3
            exact ⟨⟨_, _, by first | rfl | (rw [H0.out]; rfl), ⟨C, HO2.out.own.isInts, by unfold MarkIs; rw [if_pos H0.out]; exact HD.out⟩, HT2.out.ownR.isRows⟩, HBX4.out.below⟩
  · have HE : Hid (errV (chkH L R) = .iface 52 (.int .i64 (chkH L R))) := errV_pos h0
    have H0 : Hid (chkH L R ≠ 0) := h0
    clear h0
    go_enter Tryd.func11, Tryd.ntmps11
    go_wp2_with (go_at_call 19; go_must (refine (gcheck_any _ L R _ HBX.out.isHeap).mono ?_; rintro e w2 ⟨rfl, hb2⟩; rw [HE.out]))
    go_ret3
    exact ⟨⟨_, _, by rw [HE.out]; rfl, ⟨[], .inl ⟨rfl, none, 0, rfl, by simp⟩, by unfold MarkIs; rw [if_neg H0.out]⟩, ⟨none, 0, rfl, by simp, fun k hk => by simp at hk⟩⟩, HBX.out.below.trans (hb2.mono HBX.out.below.size)⟩
end Go.Proofs.YtelmfccpcejdnaaDoor
