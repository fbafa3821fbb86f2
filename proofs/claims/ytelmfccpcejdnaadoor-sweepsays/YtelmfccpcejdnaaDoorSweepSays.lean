/- The walk of SweepSays. -/
import Derived.Test.YtelmfccpcejdnaaDoorRHeap
import Derived.Test.YtelmfccpcejdnaaDoorRDeep
import Derived.Test.YtelmfccpcejdnaaDoorRAnew
import Derived.Test.YtelmfccpcejdnaaDoorRisingS
import Derived.Test.YtelmfccpcejdnaaDoorSTurn
import Derived.Test.YtelmfccpcejdnaaDoorSSweep
import Derived.Test.YtelmfccpcejdnaaDoorRowsE
import Derived.Test.YtelmfccpcejdnaaDoorTold
import Derived.Test.YtelmfccpcejdnaaDoorArgHeap
namespace Go.Proofs.YtelmfccpcejdnaaDoor
set_option maxRecDepth 100000
open Go.RowKit Go.Sort

/-- The nodes that are marked, rising, are what is left. -/
theorem left_sort {L : List (List Int)} {R C : List Int} (h : Deep (gOf L) [] R C) : Left L R (C.mergeSort le) := by
  obtain ⟨h1, h2⟩ := h.reach
  refine ⟨?_, fun x => by rw [List.mem_mergeSort, h2]⟩
  have hp := List.pairwise_mergeSort le_trans' le_total' C
  have hn : (C.mergeSort le).Nodup := (List.mergeSort_perm C le).nodup_iff.2 h1
  refine (hp.and hn).imp fun {a b} hab => ?_
  have : a ≤ b := by simpa [le] using hab.1
  have := hab.2
  omega
theorem left_unique {L : List (List Int)} {R N M : List Int} (h1 : Left L R N) (h2 : Left L R M) : N = M := up_unique h1.up h2.up fun x => by rw [h1.mem, h2.mem]
/-- What is known of the document's answers, in whatever later world. -/
structure SEnv (w : World) (gl : Nat) (ao : Option Addr) (co : Nat) (ar : Option Addr) (cr : Nat) (L : List (List Int)) (R : List Int) (lo lr vW vN vP : Value) (Wn Nn : List Int) (Xo XL : List (List Int)) (YL : List Int) (W : World) : Prop where
  box : Boxed w W w.heap.size ao co ar cr L R
  left : W.heap[gl]? = some (.cells #[lo, lr] 25 (0, 0))
  want : IsInts W vW Wn
  nodes : IsInts W vN Nn
  outs : IsRows W vP Xo
  heap : IsHeap W (.agg #[lo, lr]) XL YL
theorem SEnv.later {w W W' : World} {gl co cr : Nat} {ao ar : Option Addr} {L Xo XL : List (List Int)} {R Wn Nn YL : List Int} {lo lr vW vN vP : Value} (h : SEnv w gl ao co ar cr L R lo lr vW vN vP Wn Nn Xo XL YL W) (hb : Below W.heap.size W W') : SEnv w gl ao co ar cr L R lo lr vW vN vP Wn Nn Xo XL YL W' :=
  ⟨h.box.later hb, (hb.block _ (Array.getElem?_eq_some_iff.1 h.left).1).trans h.left, h.want.below hb, h.nodes.below hb, h.outs.below hb, h.heap.below hb⟩
set_option maxHeartbeats 4000000 in
theorem swsays_any (v : Value) (L : List (List Int)) (R : List Int) (w : World) (hv : IsHeap w v L R) (_ : CameH w v R) (hg : Handle w) :
    Calls Tryd.prog 3 #[v] w fun e w' => e = .returned (.bool true) ∧ Below w.heap.size w w' := by
  obtain ⟨ao, co, ar, cr, rfl, h1, h2⟩ := hv.form
  have HBX : Hid (Boxed w (w.alloc (.cells #[.slice ao L.length co, .slice ar R.length cr] 25)) w.heap.size ao co ar cr L R) := boxed h1 h2 _
  have HG : Hid (Handle w) := hg
  clear hv h1 h2 hg
  have hd0 : (w.alloc (.cells #[.slice ao L.length co, .slice ar R.length cr] 25)).cell? ⟨w.heap.size, 0, none⟩ = some (.slice ao L.length co) := HBX.out.outs
  have hd1 : (w.alloc (.cells #[.slice ao L.length co, .slice ar R.length cr] 25)).cell? ⟨w.heap.size, 1, none⟩ = some (.slice ar R.length cr) := HBX.out.roots
  go_enter Tryd.func3, Tryd.ntmps3
  go_wp2_with (go_at_call 4; fail)
  generalize w.alloc (.cells #[.slice ao L.length co, .slice ar R.length cr] 25) = W at *
  refine (rheap_any _ L R _ HBX.out.isHeap).mono ?_
  rintro e w1 ⟨rfl, hb1⟩
  have HB1 : Hid (Boxed w w1 w.heap.size ao co ar cr L R) := HBX.out.later hb1
  clear HBX hb1 hd0 hd1
  have hd0 : w1.cell? ⟨w.heap.size, 0, none⟩ = some (.slice ao L.length co) := HB1.out.outs
  have hd1 : w1.cell? ⟨w.heap.size, 1, none⟩ = some (.slice ar R.length cr) := HB1.out.roots
  obtain ⟨c, hc⟩ : ∃ c, chkH L R = c := ⟨_, rfl⟩
  have HC : Hid (chkH L R = c) := hc
  rw [hc]
  clear hc
  obtain ⟨gl, hgl⟩ : ∃ gl, gl = w1.heap.size := ⟨_, rfl⟩
  have HBL : Hid (∀ W, Below gl w1 W → Boxed w W w.heap.size ao co ar cr L R) := fun W hW => HB1.out.later (by rw [← hgl]; exact hW)
  have HGL : Hid (w.heap.size ≤ gl) := by rw [hgl]; exact HB1.out.below.size
  have HX2 : Hid ((w1.alloc (.cells #[.slice none 0 0, .slice none 0 0] 25)).heap[gl]? = some (.cells #[.slice none 0 0, .slice none 0 0] 25 (0, 0))) := by rw [hgl]; exact heap_alloc_new _ _
  have HL2 : Hid ((w1.alloc (.cells #[.slice none 0 0, .slice none 0 0] 25)).heap.size = gl + 1) := by rw [hgl]; unfold Hid; simp
  have HZ2 : Hid (Below gl w1 (w1.alloc (.cells #[.slice none 0 0, .slice none 0 0] 25))) := by rw [hgl]; exact (Below.refl _ _).alloc (Nat.le_refl _) _
  have HS2 : Hid (gl ≤ (w1.alloc (.cells #[.slice none 0 0, .slice none 0 0] 25)).heap.size) := by unfold Hid; have := HL2.out; omega
  have HB2 : Hid (Boxed w (w1.alloc (.cells #[.slice none 0 0, .slice none 0 0] 25)) w.heap.size ao co ar cr L R) := HBL.out _ HZ2.out
  clear hd0 hd1 HB1
  have hd0 : (w1.alloc (.cells #[.slice none 0 0, .slice none 0 0] 25)).cell? ⟨w.heap.size, 0, none⟩ = some (.slice ao L.length co) := HB2.out.outs
  have hd1 : (w1.alloc (.cells #[.slice none 0 0, .slice none 0 0] 25)).cell? ⟨w.heap.size, 1, none⟩ = some (.slice ar R.length cr) := HB2.out.roots
  by_cases h0 : c = 0
  · subst h0
    have HF : Hid (FineH L R) := chkH_zero.1 HC.out
    have hl12 := HF.out.few
    have hz : (((0 : Nat) : Int) == 0) = true := rfl
    go_wp2_with (go_at_call 5; fail)
    rw [← hgl]
    clear hgl
    generalize (w1.alloc (.cells #[.slice none 0 0, .slice none 0 0] 25)) = w2 at *
    refine (rmarks_any _ L R _ HB2.out.isHeap HF.out).mono ?_
    rintro e w3 ⟨vw, rfl, ⟨C, hO3, hD⟩, hb3⟩
    have HD : Hid (Deep (gOf L) [] R C) := hD
    have HI : Hid (Inn L C) := (inn_nil L).deep HF.out HF.out.root hD
    have hC12 : C.length ≤ 12 := by have := HI.out.few; omega
    have HZ3 : Hid (Below gl w1 w3) := HZ2.out.trans (hb3.mono HS2.out)
    have HS3 : Hid (gl ≤ w3.heap.size) := Nat.le_trans HS2.out hb3.size
    have HB3 : Hid (Boxed w w3 w.heap.size ao co ar cr L R) := HBL.out _ HZ3.out
    have HX3 : Hid (w3.heap[gl]? = some (.cells #[.slice none 0 0, .slice none 0 0] 25 (0, 0))) := (hb3.block _ (by have := HL2.out; omega)).trans HX2.out
    have HW3 : Hid (OwnI w3 (gl + 1) vw C) := by unfold Hid; rw [← HL2.out]; exact hO3
    have HL3 : Hid (gl + 1 ≤ w3.heap.size) := by unfold Hid; rw [← HL2.out]; exact hb3.size
    clear hd0 hd1 HB2 HX2 hb3 hO3 hD HZ2 HS2 HL2
    have hd0 : w3.cell? ⟨w.heap.size, 0, none⟩ = some (.slice ao L.length co) := HB3.out.outs
    have hd1 : w3.cell? ⟨w.heap.size, 1, none⟩ = some (.slice ar R.length cr) := HB3.out.roots
    obtain ⟨aW, cW, rfl⟩ := OwnI.form HW3.out
    go_wp2_with (go_at_call 6; fail)
    refine (rising_any _ C _ HW3.out.isInts ⟨_, _, rfl⟩ (by omega)).mono ?_
    rintro e w4 ⟨vn, rfl, hO4, hb4⟩
    have HLE : Hid (Left L R (C.mergeSort le)) := left_sort HD.out
    have HZ4 : Hid (Below gl w1 w4) := HZ3.out.trans (hb4.mono HS3.out)
    have HS4 : Hid (gl ≤ w4.heap.size) := Nat.le_trans HS3.out hb4.size
    have HB4 : Hid (Boxed w w4 w.heap.size ao co ar cr L R) := HBL.out _ HZ4.out
    have HX4 : Hid (w4.heap[gl]? = some (.cells #[.slice none 0 0, .slice none 0 0] 25 (0, 0))) := (hb4.block _ (by have := HL3.out; omega)).trans HX3.out
    have HW4 : Hid (OwnI w4 (gl + 1) (.slice aW C.length cW) C) := HW3.out.later hb4
    have HN4 : Hid (OwnI w4 (gl + 1) vn (C.mergeSort le)) := ownI_mono hO4 HL3.out
    have HL4 : Hid (gl + 1 ≤ w4.heap.size) := Nat.le_trans HL3.out hb4.size
    clear hd0 hd1 HB3 HX3 hb4 hO4 HW3 HL3 HZ3 HS3
    have hd0 : w4.cell? ⟨w.heap.size, 0, none⟩ = some (.slice ao L.length co) := HB4.out.outs
    have hd1 : w4.cell? ⟨w.heap.size, 1, none⟩ = some (.slice ar R.length cr) := HB4.out.roots
    generalize C.mergeSort le = N at *
    obtain ⟨aN, cN, rfl⟩ := OwnI.form HN4.out
    go_wp2_with (go_at_call 7; fail)
    refine (ranew_any _ _ L R N _ HB4.out.isHeap HN4.out.isInts HF.out HLE.out.shut (HLE.out.inn HF.out)).mono ?_
    rintro e w5 ⟨aO, cO, aR, cR, rfl, hO5, hR5, hb5⟩
    have hl4 := HL4.out
    have hgl0 := HGL.out
    have HZ5 : Hid (Below gl w1 w5) := HZ4.out.trans (hb5.mono HS4.out)
    have HS5 : Hid (gl ≤ w5.heap.size) := Nat.le_trans HS4.out hb5.size
    have HB5 : Hid (Boxed w w5 w.heap.size ao co ar cr L R) := HBL.out _ HZ5.out
    have HX5 : Hid (w5.heap[gl]? = some (.cells #[.slice none 0 0, .slice none 0 0] 25 (0, 0))) := (hb5.block _ (by omega)).trans HX4.out
    have HEND : Hid _ := heap_end (w0 := w) HX5.out (hO5.mono hl4) (ownI_mono hR5 hl4) (by omega) (by omega) HB5.out.below
    have HW6 : Hid (OwnI ((w5.setCell ⟨gl, 0, none⟩ (.slice aO N.length cO)).setCell ⟨gl, 1, none⟩ (.slice aR R.length cR)) (gl + 1) (.slice aW C.length cW) C) := own_box (own_box (HW4.out.later hb5) _ (by omega)) _ (by omega)
    have HN6 : Hid (OwnI ((w5.setCell ⟨gl, 0, none⟩ (.slice aO N.length cO)).setCell ⟨gl, 1, none⟩ (.slice aR R.length cR)) (gl + 1) (.slice aN N.length cN) N) := own_box (own_box (HN4.out.later hb5) _ (by omega)) _ (by omega)
    have HZ6 : Hid (Below gl w1 ((w5.setCell ⟨gl, 0, none⟩ (.slice aO N.length cO)).setCell ⟨gl, 1, none⟩ (.slice aR R.length cR))) := (HZ5.out.setCell (Nat.le_refl _) _).setCell (Nat.le_refl _) _
    have HB6 : Hid (Boxed w ((w5.setCell ⟨gl, 0, none⟩ (.slice aO N.length cO)).setCell ⟨gl, 1, none⟩ (.slice aR R.length cR)) w.heap.size ao co ar cr L R) := HBL.out _ HZ6.out
    have HS6 : Hid (gl < ((w5.setCell ⟨gl, 0, none⟩ (.slice aO N.length cO)).setCell ⟨gl, 1, none⟩ (.slice aR R.length cR)).heap.size) := by unfold Hid; have := HS5.out; have := hb5.size; simp [World.setCell]; omega
    have hd0' : ((w5.setCell ⟨gl, 0, none⟩ (.slice aO N.length cO)).setCell ⟨gl, 1, none⟩ (.slice aR R.length cR)).cell? ⟨w.heap.size, 0, none⟩ = some (.slice ao L.length co) := HB6.out.outs
    have hd1' : ((w5.setCell ⟨gl, 0, none⟩ (.slice aO N.length cO)).setCell ⟨gl, 1, none⟩ (.slice aR R.length cR)).cell? ⟨w.heap.size, 1, none⟩ = some (.slice ar R.length cr) := HB6.out.roots
    obtain ⟨hx0, hx1, hf0, hf1⟩ := box_cells HX5.out
    clear hd0 hd1 HB4 HX4 hb5 hO5 hR5 HW4 HN4 HZ4 HS4 HL4 HZ5 HS5 HB5
    go_wp2_with (go_at_call 8; fail)
    generalize (w5.setCell ⟨gl, 0, none⟩ (.slice aO N.length cO)).setCell ⟨gl, 1, none⟩ (.slice aR R.length cR) = w6 at *
    have HV6 : Hid (SEnv w gl ao co ar cr L R (.slice aO N.length cO) (.slice aR R.length cR) (.slice aW C.length cW) (.slice aN N.length cN) (.slice ao L.length co) C N L (anewO L N) (R.map (plc N)) w6) :=
      ⟨HB6.out, HEND.out.1, HW6.out.isInts, HN6.out.isInts, HB6.out.rows, ⟨_, _, rfl, HEND.out.2.1.1.isRows, HEND.out.2.1.2.isInts⟩⟩
    have HMK : Hid (∀ C', MarkIs L R C' → C' = C) := fun C' h => by
      unfold MarkIs at h
      rw [if_pos HC.out] at h
      exact h.det HD.out
    have HSW : Hid (∀ N' X Y, SweepIs L R N' X Y → N' = N ∧ X = anewO L N ∧ Y = R.map (plc N)) := fun N' X Y h => by
      unfold SweepIs at h
      rw [if_pos HC.out] at h
      obtain ⟨h1, h2, h3⟩ := h
      have := left_unique h1 HLE.out
      subst this
      exact ⟨rfl, h2, h3⟩
    have HRW : Hid ((if chkH L R = 0 then L else []) = L) := if_pos HC.out
    clear HEND HW6 HN6 HZ6 HB6 HS6 hd0' hd1' hx0 hx1 hf0 hf1
    refine (smark_any _ L R _ HV6.out.box.isHeap).mono ?_
    rintro e w7 ⟨⟨v7, rfl, C7, hC7, hM7⟩, hb7⟩
    have HV7 : Hid (SEnv w gl ao co ar cr L R (.slice aO N.length cO) (.slice aR R.length cR) (.slice aW C.length cW) (.slice aN N.length cN) (.slice ao L.length co) C N L (anewO L N) (R.map (plc N)) w7) := HV6.out.later hb7
    rw [HMK.out _ hM7] at hC7
    have HI7 : Hid (IsInts w7 v7 C) := hC7
    obtain ⟨a7, c7, rfl, _⟩ := HI7.out.opened
    rw [HC.out]
    clear HV6 hC7 hM7 hb7
    go_wp2_with (go_at_call 9; fail)
    refine (error_same 0 _ (HG.out.below HV7.out.box.below)).mono ?_
    rintro e w8 ⟨rfl, hb8⟩
    have HV8 : Hid (SEnv w gl ao co ar cr L R (.slice aO N.length cO) (.slice aR R.length cR) (.slice aW C.length cW) (.slice aN N.length cN) (.slice ao L.length co) C N L (anewO L N) (R.map (plc N)) w8) := HV7.out.later hb8
    have HI8 : Hid (IsInts w8 (.slice a7 C.length c7) C) := HI7.out.below hb8
    clear HV7 HI7 hb8
    go_wp2_with (go_at_call 10; fail)
    refine (ints_same _ _ C _ HI8.out HV8.out.want).mono ?_
    rintro e w9 ⟨rfl, q9, hw9⟩
    have HB9 : Hid (Below w8.heap.size w8 w9) := by rw [hw9]; exact below_drewN (Below.refl _ _) q9
    have HV9 : Hid (SEnv w gl ao co ar cr L R (.slice aO N.length cO) (.slice aR R.length cR) (.slice aW C.length cW) (.slice aN N.length cN) (.slice ao L.length co) C N L (anewO L N) (R.map (plc N)) w9) := HV8.out.later HB9.out
    clear HV8 hw9 HB9 HI8
    have hd0 : w9.cell? ⟨w.heap.size, 0, none⟩ = some (.slice ao L.length co) := HV9.out.box.outs
    have hd1 : w9.cell? ⟨w.heap.size, 1, none⟩ = some (.slice ar R.length cr) := HV9.out.box.roots
    go_wp2_with (go_at_call 11; fail)
    refine (sturn_any _ L R _ HV9.out.box.isHeap).mono ?_
    rintro e w10 ⟨⟨v10, x10, rfl, ⟨C10, hC10, hM10⟩, hX10⟩, hb10⟩
    have HV10 : Hid (SEnv w gl ao co ar cr L R (.slice aO N.length cO) (.slice aR R.length cR) (.slice aW C.length cW) (.slice aN N.length cN) (.slice ao L.length co) C N L (anewO L N) (R.map (plc N)) w10) := HV9.out.later hb10
    rw [HMK.out _ hM10] at hC10
    rw [HRW.out] at hX10
    have HI10 : Hid (IsInts w10 v10 C) := hC10
    have HR10 : Hid (IsRows w10 x10 L) := hX10
    obtain ⟨a10, c10, rfl, _⟩ := HI10.out.opened
    obtain ⟨e10, f10, rfl⟩ := HR10.out.form
    rw [HC.out]
    clear HV9 hC10 hM10 hX10 hb10 hd0 hd1
    go_wp2_with (go_at_call 9; fail)
    refine (error_same 0 _ (HG.out.below HV10.out.box.below)).mono ?_
    rintro e w11 ⟨rfl, hb11⟩
    have HV11 : Hid (SEnv w gl ao co ar cr L R (.slice aO N.length cO) (.slice aR R.length cR) (.slice aW C.length cW) (.slice aN N.length cN) (.slice ao L.length co) C N L (anewO L N) (R.map (plc N)) w11) := HV10.out.later hb11
    have HI11 : Hid (IsInts w11 (.slice a10 C.length c10) C) := HI10.out.below hb11
    have HR11 : Hid (IsRows w11 (.slice e10 L.length f10) L) := HR10.out.below hb11
    clear HV10 HI10 HR10 hb11
    go_wp2_with (go_at_call 10; fail)
    refine (ints_same _ _ C _ HI11.out HV11.out.want).mono ?_
    rintro e w12 ⟨rfl, q12, hw12⟩
    have HB12 : Hid (Below w11.heap.size w11 w12) := by rw [hw12]; exact below_drewN (Below.refl _ _) q12
    have HV12 : Hid (SEnv w gl ao co ar cr L R (.slice aO N.length cO) (.slice aR R.length cR) (.slice aW C.length cW) (.slice aN N.length cN) (.slice ao L.length co) C N L (anewO L N) (R.map (plc N)) w12) := HV11.out.later HB12.out
    have HR12 : Hid (IsRows w12 (.slice e10 L.length f10) L) := HR11.out.below HB12.out
    clear HV11 hw12 HB12 HI11 HR11
    go_wp2_with (go_at_call 12; fail)
    refine (rows_same _ _ L _ HR12.out HV12.out.outs).mono ?_
    rintro e w13 ⟨rfl, q13, hw13⟩
    have HB13 : Hid (Below w12.heap.size w12 w13) := by rw [hw13]; exact below_drewN (Below.refl _ _) q13
    have HV13 : Hid (SEnv w gl ao co ar cr L R (.slice aO N.length cO) (.slice aR R.length cR) (.slice aW C.length cW) (.slice aN N.length cN) (.slice ao L.length co) C N L (anewO L N) (R.map (plc N)) w13) := HV12.out.later HB13.out
    clear HV12 hw13 HB13 HR12
    have hd0 : w13.cell? ⟨w.heap.size, 0, none⟩ = some (.slice ao L.length co) := HV13.out.box.outs
    have hd1 : w13.cell? ⟨w.heap.size, 1, none⟩ = some (.slice ar R.length cr) := HV13.out.box.roots
    go_wp2_with (go_at_call 13; fail)
    refine (ssweep_any _ L R _ HV13.out.box.isHeap).mono ?_
    rintro e w14 ⟨⟨v14, x14, rfl, N14, X14, Y14, hN14, hX14, hS14⟩, hb14⟩
    obtain ⟨e1, e2, e3⟩ := HSW.out _ _ _ hS14
    rw [e1] at hN14
    rw [e2, e3] at hX14
    clear e1 e2 e3
    have HV14 : Hid (SEnv w gl ao co ar cr L R (.slice aO N.length cO) (.slice aR R.length cR) (.slice aW C.length cW) (.slice aN N.length cN) (.slice ao L.length co) C N L (anewO L N) (R.map (plc N)) w14) := HV13.out.later hb14
    have HI14 : Hid (IsInts w14 v14 N) := hN14
    have HH14 : Hid (IsHeap w14 x14 (anewO L N) (R.map (plc N))) := hX14
    obtain ⟨a14, c14, rfl, _⟩ := HI14.out.opened
    obtain ⟨p14, q14, r14, s14, rfl, hP14, hQ14⟩ := HH14.out.form
    rw [HC.out]
    rw [anew_length] 
    rw [List.length_map] 
    have HXB : Hid (Boxed w14 (w14.alloc (.cells #[.slice p14 N.length q14, .slice r14 R.length s14] 25)) w14.heap.size p14 q14 r14 s14 (anewO L N) (R.map (plc N))) := by
      have h := boxed hP14 hQ14 25
      simp only [anew_length, List.length_map] at h
      exact h
    have HV15 : Hid (SEnv w gl ao co ar cr L R (.slice aO N.length cO) (.slice aR R.length cR) (.slice aW C.length cW) (.slice aN N.length cN) (.slice ao L.length co) C N L (anewO L N) (R.map (plc N)) (w14.alloc (.cells #[.slice p14 N.length q14, .slice r14 R.length s14] 25))) := HV14.out.later HXB.out.below
    have HI15 : Hid (IsInts (w14.alloc (.cells #[.slice p14 N.length q14, .slice r14 R.length s14] 25)) (.slice a14 N.length c14) N) := HI14.out.below HXB.out.below
    clear HV13 hN14 hX14 hS14 hb14 hd0 hd1 hP14 hQ14 HH14 HV14 HI14
    go_wp2_with (go_at_call 9; fail)
    generalize (w14.alloc (.cells #[.slice p14 N.length q14, .slice r14 R.length s14] 25)) = w15 at *
    refine (error_same 0 _ (HG.out.below HV15.out.box.below)).mono ?_
    rintro e w16 ⟨rfl, hb16⟩
    have HV16 : Hid (SEnv w gl ao co ar cr L R (.slice aO N.length cO) (.slice aR R.length cR) (.slice aW C.length cW) (.slice aN N.length cN) (.slice ao L.length co) C N L (anewO L N) (R.map (plc N)) w16) := HV15.out.later hb16
    have HI16 : Hid (IsInts w16 (.slice a14 N.length c14) N) := HI15.out.below hb16
    have HX16 : Hid (Boxed w14 w16 w14.heap.size p14 q14 r14 s14 (anewO L N) (R.map (plc N))) := HXB.out.later hb16
    clear HV15 HI15 hb16 HXB
    go_wp2_with (go_at_call 10; fail)
    refine (ints_same _ _ N _ HI16.out HV16.out.nodes).mono ?_
    rintro e w17 ⟨rfl, q17, hw17⟩
    have HB17 : Hid (Below w16.heap.size w16 w17) := by rw [hw17]; exact below_drewN (Below.refl _ _) q17
    have HV17 : Hid (SEnv w gl ao co ar cr L R (.slice aO N.length cO) (.slice aR R.length cR) (.slice aW C.length cW) (.slice aN N.length cN) (.slice ao L.length co) C N L (anewO L N) (R.map (plc N)) w17) := HV16.out.later HB17.out
    have HX17 : Hid (Boxed w14 w17 w14.heap.size p14 q14 r14 s14 (anewO L N) (R.map (plc N))) := HX16.out.later HB17.out
    clear HV16 hw17 HB17 HI16 HX16
    have hx0 : w17.cell? ⟨w14.heap.size, 0, none⟩ = some (.slice p14 N.length q14) := by
      have h := HX17.out.outs
      simp only [anew_length] at h
      exact h
    have hx1 : w17.cell? ⟨w14.heap.size, 1, none⟩ = some (.slice r14 R.length s14) := by
      have h := HX17.out.roots
      simp only [List.length_map] at h
      exact h
    obtain ⟨hl0, hl1, _, _⟩ := box_cells HV17.out.left
    have HHX : Hid (IsHeap w17 (.agg #[.slice p14 N.length q14, .slice r14 R.length s14]) (anewO L N) (R.map (plc N))) := by
      have h := HX17.out.isHeap
      simp only [anew_length, List.length_map] at h
      exact h
    go_wp2_with (go_at_call 14; fail)
    refine (heaps_same _ _ (anewO L N) (R.map (plc N)) _ HHX.out HV17.out.heap).mono ?_
    rintro e w18 ⟨rfl, hb18⟩
    have HV18 : Hid (SEnv w gl ao co ar cr L R (.slice aO N.length cO) (.slice aR R.length cR) (.slice aW C.length cW) (.slice aN N.length cN) (.slice ao L.length co) C N L (anewO L N) (R.map (plc N)) w18) := HV17.out.later hb18
    clear HV17 hb18
    go_wp2
    go_ret
    exact ⟨rfl, HV18.out.box.below⟩
  · have hz : ((c : Int) == 0) = false := by rw [beq_eq_false_iff_ne]; omega
    have HN : Hid (chkH L R ≠ 0) := by unfold Hid; rw [HC.out]; exact h0
    clear h0
    go_wp2_with (go_at_call 8; fail)
    rw [← hgl]
    clear hgl
    generalize (w1.alloc (.cells #[.slice none 0 0, .slice none 0 0] 25)) = w2 at *
    have HV6 : Hid (SEnv w gl ao co ar cr L R (.slice none 0 0) (.slice none 0 0) (.slice none 0 0) (.slice none 0 0) (.slice none 0 0) [] [] [] [] [] w2) :=
      ⟨HB2.out, HX2.out, .inl ⟨rfl, none, 0, rfl, by simp⟩, .inl ⟨rfl, none, 0, rfl, by simp⟩, ⟨none, 0, rfl, by simp, fun k hk => by simp at hk⟩, ⟨_, _, rfl, ⟨none, 0, rfl, by simp, fun k hk => by simp at hk⟩, .inl ⟨rfl, none, 0, rfl, by simp⟩⟩⟩
    have HMK : Hid (∀ C', MarkIs L R C' → C' = []) := fun C' h => by
      unfold MarkIs at h
      rwa [if_neg HN.out] at h
    have HSW : Hid (∀ N' X Y, SweepIs L R N' X Y → N' = [] ∧ X = [] ∧ Y = []) := fun N' X Y h => by
      unfold SweepIs at h
      rwa [if_neg HN.out] at h
    have HRW : Hid ((if chkH L R = 0 then L else []) = []) := if_neg HN.out
    clear HB2 HX2 HL2 HZ2 HS2 hd0 hd1
    refine (smark_any _ L R _ HV6.out.box.isHeap).mono ?_
    rintro e w7 ⟨⟨v7, rfl, C7, hC7, hM7⟩, hb7⟩
    have HV7 : Hid (SEnv w gl ao co ar cr L R (.slice none 0 0) (.slice none 0 0) (.slice none 0 0) (.slice none 0 0) (.slice none 0 0) [] [] [] [] [] w7) := HV6.out.later hb7
    rw [HMK.out _ hM7] at hC7
    have HI7 : Hid (IsInts w7 v7 []) := hC7
    obtain ⟨a7, c7, rfl, _⟩ := HI7.out.opened
    rw [HC.out]
    clear HV6 hC7 hM7 hb7
    go_wp2_with (go_at_call 9; fail)
    refine (error_same c _ (HG.out.below HV7.out.box.below)).mono ?_
    rintro e w8 ⟨rfl, hb8⟩
    have HV8 : Hid (SEnv w gl ao co ar cr L R (.slice none 0 0) (.slice none 0 0) (.slice none 0 0) (.slice none 0 0) (.slice none 0 0) [] [] [] [] [] w8) := HV7.out.later hb8
    have HI8 : Hid (IsInts w8 (.slice a7 0 c7) []) := HI7.out.below hb8
    clear HV7 HI7 hb8
    go_wp2_with (go_at_call 10; fail)
    refine (ints_same _ _ [] _ HI8.out HV8.out.want).mono ?_
    rintro e w9 ⟨rfl, q9, hw9⟩
    have HB9 : Hid (Below w8.heap.size w8 w9) := by rw [hw9]; exact below_drewN (Below.refl _ _) q9
    have HV9 : Hid (SEnv w gl ao co ar cr L R (.slice none 0 0) (.slice none 0 0) (.slice none 0 0) (.slice none 0 0) (.slice none 0 0) [] [] [] [] [] w9) := HV8.out.later HB9.out
    clear HV8 hw9 HB9 HI8
    have hd0 : w9.cell? ⟨w.heap.size, 0, none⟩ = some (.slice ao L.length co) := HV9.out.box.outs
    have hd1 : w9.cell? ⟨w.heap.size, 1, none⟩ = some (.slice ar R.length cr) := HV9.out.box.roots
    go_wp2_with (go_at_call 11; fail)
    refine (sturn_any _ L R _ HV9.out.box.isHeap).mono ?_
    rintro e w10 ⟨⟨v10, x10, rfl, ⟨C10, hC10, hM10⟩, hX10⟩, hb10⟩
    have HV10 : Hid (SEnv w gl ao co ar cr L R (.slice none 0 0) (.slice none 0 0) (.slice none 0 0) (.slice none 0 0) (.slice none 0 0) [] [] [] [] [] w10) := HV9.out.later hb10
    rw [HMK.out _ hM10] at hC10
    rw [HRW.out] at hX10
    have HI10 : Hid (IsInts w10 v10 []) := hC10
    have HR10 : Hid (IsRows w10 x10 []) := hX10
    obtain ⟨a10, c10, rfl, _⟩ := HI10.out.opened
    obtain ⟨e10, f10, rfl⟩ := HR10.out.form
    rw [HC.out]
    clear HV9 hC10 hM10 hX10 hb10 hd0 hd1
    go_wp2_with (go_at_call 9; fail)
    refine (error_same c _ (HG.out.below HV10.out.box.below)).mono ?_
    rintro e w11 ⟨rfl, hb11⟩
    have HV11 : Hid (SEnv w gl ao co ar cr L R (.slice none 0 0) (.slice none 0 0) (.slice none 0 0) (.slice none 0 0) (.slice none 0 0) [] [] [] [] [] w11) := HV10.out.later hb11
    have HI11 : Hid (IsInts w11 (.slice a10 0 c10) []) := HI10.out.below hb11
    have HR11 : Hid (IsRows w11 (.slice e10 0 f10) []) := HR10.out.below hb11
    clear HV10 HI10 HR10 hb11
    go_wp2_with (go_at_call 10; fail)
    refine (ints_same _ _ [] _ HI11.out HV11.out.want).mono ?_
    rintro e w12 ⟨rfl, q12, hw12⟩
    have HB12 : Hid (Below w11.heap.size w11 w12) := by rw [hw12]; exact below_drewN (Below.refl _ _) q12
    have HV12 : Hid (SEnv w gl ao co ar cr L R (.slice none 0 0) (.slice none 0 0) (.slice none 0 0) (.slice none 0 0) (.slice none 0 0) [] [] [] [] [] w12) := HV11.out.later HB12.out
    have HR12 : Hid (IsRows w12 (.slice e10 0 f10) []) := HR11.out.below HB12.out
    clear HV11 hw12 HB12 HI11 HR11
    go_wp2_with (go_at_call 12; fail)
    refine (rows_same _ _ [] _ HR12.out HV12.out.outs).mono ?_
    rintro e w13 ⟨rfl, q13, hw13⟩
    have HB13 : Hid (Below w12.heap.size w12 w13) := by rw [hw13]; exact below_drewN (Below.refl _ _) q13
    have HV13 : Hid (SEnv w gl ao co ar cr L R (.slice none 0 0) (.slice none 0 0) (.slice none 0 0) (.slice none 0 0) (.slice none 0 0) [] [] [] [] [] w13) := HV12.out.later HB13.out
    clear HV12 hw13 HB13 HR12
    have hd0 : w13.cell? ⟨w.heap.size, 0, none⟩ = some (.slice ao L.length co) := HV13.out.box.outs
    have hd1 : w13.cell? ⟨w.heap.size, 1, none⟩ = some (.slice ar R.length cr) := HV13.out.box.roots
    go_wp2_with (go_at_call 13; fail)
    refine (ssweep_any _ L R _ HV13.out.box.isHeap).mono ?_
    rintro e w14 ⟨⟨v14, x14, rfl, N14, X14, Y14, hN14, hX14, hS14⟩, hb14⟩
    obtain ⟨e1, e2, e3⟩ := HSW.out _ _ _ hS14
    rw [e1] at hN14
    rw [e2, e3] at hX14
    clear e1 e2 e3
    have HV14 : Hid (SEnv w gl ao co ar cr L R (.slice none 0 0) (.slice none 0 0) (.slice none 0 0) (.slice none 0 0) (.slice none 0 0) [] [] [] [] [] w14) := HV13.out.later hb14
    have HI14 : Hid (IsInts w14 v14 []) := hN14
    have HH14 : Hid (IsHeap w14 x14 [] []) := hX14
    obtain ⟨a14, c14, rfl, _⟩ := HI14.out.opened
    obtain ⟨p14, q14, r14, s14, rfl, hP14, hQ14⟩ := HH14.out.form
    rw [HC.out]
    have HXB : Hid (Boxed w14 (w14.alloc (.cells #[.slice p14 0 q14, .slice r14 0 s14] 25)) w14.heap.size p14 q14 r14 s14 [] []) := by
      have h := boxed hP14 hQ14 25
      
      exact h
    have HV15 : Hid (SEnv w gl ao co ar cr L R (.slice none 0 0) (.slice none 0 0) (.slice none 0 0) (.slice none 0 0) (.slice none 0 0) [] [] [] [] [] (w14.alloc (.cells #[.slice p14 0 q14, .slice r14 0 s14] 25))) := HV14.out.later HXB.out.below
    have HI15 : Hid (IsInts (w14.alloc (.cells #[.slice p14 0 q14, .slice r14 0 s14] 25)) (.slice a14 0 c14) []) := HI14.out.below HXB.out.below
    clear HV13 hN14 hX14 hS14 hb14 hd0 hd1 hP14 hQ14 HH14 HV14 HI14
    go_wp2_with (go_at_call 9; fail)
    generalize (w14.alloc (.cells #[.slice p14 0 q14, .slice r14 0 s14] 25)) = w15 at *
    refine (error_same c _ (HG.out.below HV15.out.box.below)).mono ?_
    rintro e w16 ⟨rfl, hb16⟩
    have HV16 : Hid (SEnv w gl ao co ar cr L R (.slice none 0 0) (.slice none 0 0) (.slice none 0 0) (.slice none 0 0) (.slice none 0 0) [] [] [] [] [] w16) := HV15.out.later hb16
    have HI16 : Hid (IsInts w16 (.slice a14 0 c14) []) := HI15.out.below hb16
    have HX16 : Hid (Boxed w14 w16 w14.heap.size p14 q14 r14 s14 [] []) := HXB.out.later hb16
    clear HV15 HI15 hb16 HXB
    go_wp2_with (go_at_call 10; fail)
    refine (ints_same _ _ [] _ HI16.out HV16.out.nodes).mono ?_
    rintro e w17 ⟨rfl, q17, hw17⟩
    have HB17 : Hid (Below w16.heap.size w16 w17) := by rw [hw17]; exact below_drewN (Below.refl _ _) q17
    have HV17 : Hid (SEnv w gl ao co ar cr L R (.slice none 0 0) (.slice none 0 0) (.slice none 0 0) (.slice none 0 0) (.slice none 0 0) [] [] [] [] [] w17) := HV16.out.later HB17.out
    have HX17 : Hid (Boxed w14 w17 w14.heap.size p14 q14 r14 s14 [] []) := HX16.out.later HB17.out
    clear HV16 hw17 HB17 HI16 HX16
    have hx0 : w17.cell? ⟨w14.heap.size, 0, none⟩ = some (.slice p14 0 q14) := by
      have h := HX17.out.outs
      
      exact h
    have hx1 : w17.cell? ⟨w14.heap.size, 1, none⟩ = some (.slice r14 0 s14) := by
      have h := HX17.out.roots
      
      exact h
    obtain ⟨hl0, hl1, _, _⟩ := box_cells HV17.out.left
    have HHX : Hid (IsHeap w17 (.agg #[.slice p14 0 q14, .slice r14 0 s14]) [] []) := by
      have h := HX17.out.isHeap
      
      exact h
    go_wp2_with (go_at_call 14; fail)
    refine (heaps_same _ _ [] [] _ HHX.out HV17.out.heap).mono ?_
    rintro e w18 ⟨rfl, hb18⟩
    have HV18 : Hid (SEnv w gl ao co ar cr L R (.slice none 0 0) (.slice none 0 0) (.slice none 0 0) (.slice none 0 0) (.slice none 0 0) [] [] [] [] [] w18) := HV17.out.later hb18
    clear HV17 hb18
    go_wp2
    go_ret
    exact ⟨rfl, HV18.out.box.below⟩
end Go.Proofs.YtelmfccpcejdnaaDoor
