/- The walk of sweep.Mark. -/
import Derived.Test.YtelmfccpcejdnaaDoorSCome
import Derived.Test.YtelmfccpcejdnaaDoorGCheck
namespace Go.Proofs.YtelmfccpcejdnaaDoor
set_option maxRecDepth 100000
open Go.RowKit Go.Sort

theorem marker_any (bo : Nat) (w : World) :
    Calls Tryd.prog 20 #[.pointer (some ⟨bo, 0, none⟩)] w fun e w' => e = .returned (.func (.func 31) #[] #[.pointer (some ⟨w.heap.size, 0, none⟩)]) ∧ w' = w.alloc (.cells #[.pointer (some ⟨bo, 0, none⟩)] 50) := by
  go_enter Tryd.func20, Tryd.ntmps20
  go_wp2
  go_ret
  exact ⟨rfl, rfl⟩
/-- In which order nodes are marked. -/
def MarkIs (L : List (List Int)) (R C : List Int) : Prop := if chkH L R = 0 then Deep (gOf L) [] R C else C = []
set_option maxHeartbeats 2000000 in
theorem smark_any (v : Value) (L : List (List Int)) (R : List Int) (w : World) (hv : IsHeap w v L R) :
    Calls Tryd.prog 8 #[v] w fun e w' => (∃ vo, e = .returned (.tuple #[vo, errV (chkH L R)]) ∧ ∃ C, IsInts w' vo C ∧ MarkIs L R C) ∧ Below w.heap.size w w' := by
  obtain ⟨ao, co, ar, cr, rfl, h1, h2⟩ := hv.form
  have HBX : Hid (Boxed w (w.alloc (.cells #[.slice ao L.length co, .slice ar R.length cr] 25)) w.heap.size ao co ar cr L R) := boxed h1 h2 _
  have hd0 : (w.alloc (.cells #[.slice ao L.length co, .slice ar R.length cr] 25)).cell? ⟨w.heap.size, 0, none⟩ = some (.slice ao L.length co) := HBX.out.outs
  have hd1 : (w.alloc (.cells #[.slice ao L.length co, .slice ar R.length cr] 25)).cell? ⟨w.heap.size, 1, none⟩ = some (.slice ar R.length cr) := HBX.out.roots
  clear hv h1 h2
  by_cases h0 : chkH L R = 0
  · have HF : Hid (FineH L R) := chkH_zero.1 h0
    have H0 : Hid (chkH L R = 0) := h0
    clear h0
    go_enter Tryd.func8, Tryd.ntmps8
    go_wp2_with (go_at_call 19; fail)
    generalize w.alloc (.cells #[.slice ao L.length co, .slice ar R.length cr] 25) = W at *
    refine (gcheck_any _ L R _ HBX.out.isHeap).mono ?_
    rintro e w2 ⟨rfl, hb2⟩
    rw [H0.out, show errV 0 = .nilIface from rfl]
    have HB2 : Hid (Boxed w w2 w.heap.size ao co ar cr L R) := HBX.out.later hb2
    clear hb2 HBX hd0 hd1
    go_wp2_with (go_at_call 20; fail)
    refine (marker_any _ _).mono ?_
    rintro e w3 ⟨rfl, rfl⟩
    have HN : Hid (Ord ((w2.alloc (.cells #[.slice none 0 0] 23)).alloc (.cells #[.pointer (some ⟨w2.heap.size, 0, none⟩)] 50)) (w2.heap.size + 1 + 1) w2.heap.size [] (.slice none 0 0)) := ord_start w2 _
    have HGM : Hid (((w2.alloc (.cells #[.slice none 0 0] 23)).alloc (.cells #[.pointer (some ⟨w2.heap.size, 0, none⟩)] 50)).cell? ⟨w2.heap.size + 1, 0, none⟩ = some (.pointer (some ⟨w2.heap.size, 0, none⟩))) := by unfold Hid; simp
    have HB3 : Hid (Below w2.heap.size w2 ((w2.alloc (.cells #[.slice none 0 0] 23)).alloc (.cells #[.pointer (some ⟨w2.heap.size, 0, none⟩)] 50))) := ((Below.refl _ w2).alloc (Nat.le_refl _) _).alloc (by simp) _
    have HS3 : Hid (((w2.alloc (.cells #[.slice none 0 0] 23)).alloc (.cells #[.pointer (some ⟨w2.heap.size, 0, none⟩)] 50)).heap.size = w2.heap.size + 1 + 1) := by unfold Hid; simp
    rw [show (w2.alloc (.cells #[.slice none 0 0] 23)).heap.size = w2.heap.size + 1 by simp]
    generalize (w2.alloc (.cells #[.slice none 0 0] 23)).alloc (.cells #[.pointer (some ⟨w2.heap.size, 0, none⟩)] 50) = w3 at *
    have hsf := fun (f : Nat) (a : Addr) (c : Array Value) (w : World) => run_store Tryd.prog w a (.func (.func f) #[] c) .plain rfl
    have HS4 : Hid (((w3.alloc (.cells #[.func (.func 31) #[] #[.pointer (some ⟨w2.heap.size + 1, 0, none⟩)]] 48)).alloc (.cells #[.func (.func 21) #[] #[.pointer (some ⟨w3.heap.size, 0, none⟩), .pointer (some ⟨w.heap.size, 0, none⟩), .pointer (some ⟨w3.heap.size + 1, 0, none⟩)]] 51)).heap.size = w2.heap.size + 1 + 1 + 1 + 1) := by unfold Hid; have := HS3.out; simp; omega
    have HB4 : Hid (Below w2.heap.size w2 ((w3.alloc (.cells #[.func (.func 31) #[] #[.pointer (some ⟨w2.heap.size + 1, 0, none⟩)]] 48)).alloc (.cells #[.func (.func 21) #[] #[.pointer (some ⟨w3.heap.size, 0, none⟩), .pointer (some ⟨w.heap.size, 0, none⟩), .pointer (some ⟨w3.heap.size + 1, 0, none⟩)]] 51))) := (HB3.out.alloc (by have := HS3.out; omega) _).alloc (by have := HS3.out; simp; omega) _
    have HN4 : Hid (Ord ((w3.alloc (.cells #[.func (.func 31) #[] #[.pointer (some ⟨w2.heap.size + 1, 0, none⟩)]] 48)).alloc (.cells #[.func (.func 21) #[] #[.pointer (some ⟨w3.heap.size, 0, none⟩), .pointer (some ⟨w.heap.size, 0, none⟩), .pointer (some ⟨w3.heap.size + 1, 0, none⟩)]] 51)) (w2.heap.size + 1 + 1 + 1 + 1) w2.heap.size [] (.slice none 0 0)) := ((HN.out.alloc _).alloc _).raise (by omega) (by have := HS4.out; omega)
    have HCM : Hid (((w3.alloc (.cells #[.func (.func 31) #[] #[.pointer (some ⟨w2.heap.size + 1, 0, none⟩)]] 48)).alloc (.cells #[.func (.func 21) #[] #[.pointer (some ⟨w3.heap.size, 0, none⟩), .pointer (some ⟨w.heap.size, 0, none⟩), .pointer (some ⟨w3.heap.size + 1, 0, none⟩)]] 51)).cell? ⟨w3.heap.size, 0, none⟩ = some (.func (.func 31) #[] #[.pointer (some ⟨w2.heap.size + 1, 0, none⟩)])) := Lib.cell?_alloc_some _ (by simp)
    have HCC : Hid (((w3.alloc (.cells #[.func (.func 31) #[] #[.pointer (some ⟨w2.heap.size + 1, 0, none⟩)]] 48)).alloc (.cells #[.func (.func 21) #[] #[.pointer (some ⟨w3.heap.size, 0, none⟩), .pointer (some ⟨w.heap.size, 0, none⟩), .pointer (some ⟨w3.heap.size + 1, 0, none⟩)]] 51)).cell? ⟨w3.heap.size + 1, 0, none⟩ = some (.func (.func 21) #[] #[.pointer (some ⟨w3.heap.size, 0, none⟩), .pointer (some ⟨w.heap.size, 0, none⟩), .pointer (some ⟨w3.heap.size + 1, 0, none⟩)])) := by
      have h : (w3.alloc (.cells #[.func (.func 31) #[] #[.pointer (some ⟨w2.heap.size + 1, 0, none⟩)]] 48)).heap.size = w3.heap.size + 1 := by simp
      unfold Hid
      generalize hw5 : w3.alloc (.cells #[.func (.func 31) #[] #[.pointer (some ⟨w2.heap.size + 1, 0, none⟩)]] 48) = w5 at *
      rw [← h]
      simp
    have HGM4 : Hid (((w3.alloc (.cells #[.func (.func 31) #[] #[.pointer (some ⟨w2.heap.size + 1, 0, none⟩)]] 48)).alloc (.cells #[.func (.func 21) #[] #[.pointer (some ⟨w3.heap.size, 0, none⟩), .pointer (some ⟨w.heap.size, 0, none⟩), .pointer (some ⟨w3.heap.size + 1, 0, none⟩)]] 51)).cell? ⟨w2.heap.size + 1, 0, none⟩ = some (.pointer (some ⟨w2.heap.size, 0, none⟩))) := Lib.cell?_alloc_some _ (Lib.cell?_alloc_some _ HGM.out)
    have HBX4 : Hid (Boxed w ((w3.alloc (.cells #[.func (.func 31) #[] #[.pointer (some ⟨w2.heap.size + 1, 0, none⟩)]] 48)).alloc (.cells #[.func (.func 21) #[] #[.pointer (some ⟨w3.heap.size, 0, none⟩), .pointer (some ⟨w.heap.size, 0, none⟩), .pointer (some ⟨w3.heap.size + 1, 0, none⟩)]] 51)) w.heap.size ao co ar cr L R) := HB2.out.later HB4.out
    have hd1 : ((w3.alloc (.cells #[.func (.func 31) #[] #[.pointer (some ⟨w2.heap.size + 1, 0, none⟩)]] 48)).alloc (.cells #[.func (.func 21) #[] #[.pointer (some ⟨w3.heap.size, 0, none⟩), .pointer (some ⟨w.heap.size, 0, none⟩), .pointer (some ⟨w3.heap.size + 1, 0, none⟩)]] 51)).cell? ⟨w.heap.size, 1, none⟩ = some (.slice ar R.length cr) := HBX4.out.roots
    go_wp2
    generalize ((w3.alloc (.cells #[.func (.func 31) #[] #[.pointer (some ⟨w2.heap.size + 1, 0, none⟩)]] 48)).alloc (.cells #[.func (.func 21) #[] #[.pointer (some ⟨w3.heap.size, 0, none⟩), .pointer (some ⟨w.heap.size, 0, none⟩), .pointer (some ⟨w3.heap.size + 1, 0, none⟩)]] 51)) = w4 at *
    have HEV : Hid (Env w2 w4 (w2.heap.size + 1 + 1 + 1 + 1) w2.heap.size (w2.heap.size + 1) w3.heap.size w.heap.size (w3.heap.size + 1) ao co L) :=
      ⟨HB2.out.rows, Nat.le_refl _, by omega, HB4.out, HCM.out, HCC.out, HGM4.out, HBX4.out.outs, by have := HS3.out; omega, by have := HS3.out; omega, by omega, by have := HB2.out.lt; omega⟩
    have HRI : Hid (IsInts w2 (.slice ar R.length cr) R) := HB2.out.ints
    have hcR := HB2.out.capR
    obtain ⟨C, hC⟩ := deep_fine (A := []) HF.out HF.out.root
    have HD : Hid (Deep (gOf L) [] R C) := hC
    clear hC HCM HCC HGM4 HGM HN HB3 hsf hd1
    have HI0 : Hid (Inn L []) := inn_nil L
    go_loopw [20] (fun i wr => ∃ (k : Nat) (A2 : List Int) (vo2 : Value), k ≤ R.length ∧ i = .int .i64 (k : Nat) ∧ Hid (Ord wr (w2.heap.size + 1 + 1 + 1 + 1) w2.heap.size A2 vo2) ∧ Hid (Inn L A2) ∧ Hid (Deep (gOf L) A2 (R.drop k) C) ∧ Hid (But (w2.heap.size + 1 + 1 + 1 + 1) w2.heap.size w4 wr)) (fun i _ => R.length - (intOf i).toNat)
    case atStart => exact ⟨0, _, _, Nat.zero_le _, rfl, HN4, HI0, by rw [List.drop_zero]; exact HD, But.refl _ _ _⟩
    case round =>
      obtain ⟨k, A2, vo2, hk, rfl, HO2, HI2, HD2, HBB2⟩ := hrel
      have HE2 : Hid (Env w2 wr (w2.heap.size + 1 + 1 + 1 + 1) w2.heap.size (w2.heap.size + 1) w3.heap.size w.heap.size (w3.heap.size + 1) ao co L) := HEV.out.but HBB2.out
      by_cases hlt : k < R.length
      · have hlt' : (k : Int) < (R.length : Int) := by omega
        obtain ⟨b2, off2, rfl, hlc2, hb2, hcell⟩ := (HRI.out.below HE2.out.below).open_at hlt
        have hcc2 := HE2.out.come
        have hck := hcell k hlt
        clear hcell
        have hy := HF.out.root _ (List.getElem_mem hlt)
        have hdr : R.drop k = R[k] :: R.drop (k+1) := List.drop_eq_getElem_cons hlt
        rw [List.getElem?_eq_getElem hlt, Option.getD_some] at hck
        have HD3 := HD2.out
        rw [hdr] at HD3
        obtain ⟨A3, hd3, hd4⟩ := Deep.one.1 HD3
        generalize R[k] = y at *
        obtain ⟨y, rfl⟩ : ∃ t : Nat, y = (t : Int) := ⟨y.toNat, by omega⟩
        have hyl : y < L.length := by omega
        have HD3 : Hid (Deep (gOf L) A2 [(y : Int)] A3) := hd3
        have HD4 : Hid (Deep (gOf L) A3 (R.drop (k+1)) C) := hd4
        have HI3 : Hid (Inn L A3) := HI2.out.deep HF.out (fun z hz => by rw [List.mem_singleton] at hz; rw [hz]; exact hy) hd3
        clear hd3 hd4 hdr hy HD2
        go_wp2_with (go_at_call 21; go_must (refine (come_any HF.out (unmarked (upTo L.length) A2 + 1) y A2 A3 vo2 _ (Nat.lt_succ_self _) hyl HI2.out HD3.out HO2.out HE2.out).mono ?_; rintro e w5 ⟨rfl, ⟨vo3, ho3⟩, hb3⟩; have HO3 : Hid _ := ho3; have HB3 : Hid _ := hb3; clear ho3 hb3))
        go_roundw
        case rel => exact ⟨k + 1, A3, vo3, by omega, by go_num, HO3, HI3, HD4, HBB2.out.trans HB3.out⟩
        case measure => simp [intOf]; omega
      · have hlt' : ¬ (k : Int) < (R.length : Int) := by omega
        have hA2 : C = A2 := by
          have h := HD2.out
          rw [List.drop_eq_nil_of_le (by omega)] at h
          exact h.det .nil
        subst hA2
        obtain ⟨a2, c2, rfl⟩ := HO2.out.form
        have hcb := HO2.out.cell
        go_wp2
        go_ret2
        exact ⟨⟨_, by rw [H0.out]; rfl, C, HO2.out.own.isInts, by unfold MarkIs; rw [if_pos H0.out]; exact HD.out⟩, HB2.out.below.trans ((HB4.out.trans ((HBB2.out.below (by omega)).mono (Nat.le_refl _))).mono HB2.out.below.size)⟩
  · have HE : Hid (errV (chkH L R) = .iface 52 (.int .i64 (chkH L R))) := errV_pos h0
    have H0 : Hid (chkH L R ≠ 0) := h0
    clear h0
    go_enter Tryd.func8, Tryd.ntmps8
    go_wp2_with (go_at_call 19; go_must (refine (gcheck_any _ L R _ HBX.out.isHeap).mono ?_; rintro e w2 ⟨rfl, hb2⟩; rw [HE.out]))
    go_ret2
    exact ⟨⟨_, by rw [HE.out]; rfl, [], .inl ⟨rfl, none, 0, rfl, by simp⟩, by unfold MarkIs; rw [if_neg H0.out]⟩, HBX.out.below.trans (hb2.mono HBX.out.below.size)⟩
end Go.Proofs.YtelmfccpcejdnaaDoor
