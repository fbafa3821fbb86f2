/- The walk of CheneySays. -/
import Derived.Test.YtennlinnclcngaaDoorRHeap
import Derived.Test.YtennlinnclcngaaDoorRFrom
import Derived.Test.YtennlinnclcngaaDoorRAnew
import Derived.Test.YtennlinnclcngaaDoorYCopy
import Derived.Test.YtennlinnclcngaaDoorYLaw
import Derived.Test.YtennlinnclcngaaDoorRowsE
import Derived.Test.YtennlinnclcngaaDoorTold
import Derived.Test.YtennlinnclcngaaDoorArgHeap
namespace Go.Proofs.YtennlinnclcngaaDoor
set_option maxRecDepth 100000
open Go.RowKit Go.Sort

/-- What is known of the document's answers, in whatever later world. -/
structure YEnv (w : World) (gl : Nat) (ao : Option Addr) (co : Nat) (ar : Option Addr) (cr : Nat) (L : List (List Int)) (R : List Int) (lo lr vW : Value) (Wn : List Int) (XL : List (List Int)) (YL : List Int) (W : World) : Prop where
  box : Boxed w W w.heap.size ao co ar cr L R
  left : W.heap[gl]? = some (.cells #[lo, lr] 25 (0, 0))
  want : IsInts W vW Wn
  heap : IsHeap W (.agg #[lo, lr]) XL YL
theorem YEnv.later {w W W' : World} {gl co cr : Nat} {ao ar : Option Addr} {L XL : List (List Int)} {R Wn YL : List Int} {lo lr vW : Value} (h : YEnv w gl ao co ar cr L R lo lr vW Wn XL YL W) (hb : Below W.heap.size W W') : YEnv w gl ao co ar cr L R lo lr vW Wn XL YL W' :=
  ⟨h.box.later hb, (hb.block _ (Array.getElem?_eq_some_iff.1 h.left).1).trans h.left, h.want.below hb, h.heap.below hb⟩
set_option maxHeartbeats 4000000 in
theorem ysays_any (v : Value) (L : List (List Int)) (R : List Int) (w : World) (hv : IsHeap w v L R) (_ : CameH w v R) (hg : Handle w) :
    Calls Tryd.prog 3 #[v] w fun e w' => e = .returned (.bool true) ∧ Below w.heap.size w w' := by
  obtain ⟨ao, co, ar, cr, rfl, h1, h2⟩ := hv.form
  have HBX : Hid (Boxed w (w.alloc (.cells #[.slice ao L.length co, .slice ar R.length cr] 25)) w.heap.size ao co ar cr L R) := boxed h1 h2 _
  have HG : Hid (Handle w) := hg
  clear hv h1 h2 hg
  have hd0 : (w.alloc (.cells #[.slice ao L.length co, .slice ar R.length cr] 25)).cell? ⟨w.heap.size, 0, none⟩ = some (.slice ao L.length co) := HBX.out.outs
  have hd1 : (w.alloc (.cells #[.slice ao L.length co, .slice ar R.length cr] 25)).cell? ⟨w.heap.size, 1, none⟩ = some (.slice ar R.length cr) := HBX.out.roots
  go_enter Tryd.func3, Tryd.ntmps3
  go_wp2_with (go_at_call 4; fail)
  generalize w.alloc (.cells #[.slice ao L.length co, .slice ar R.length cr] 25) = W at *
  refine (rheap_any _ L R _ HBX.out.isHeap).mono ?_
  rintro e w1 ⟨rfl, hb1⟩
  have HB1 : Hid (Boxed w w1 w.heap.size ao co ar cr L R) := HBX.out.later hb1
  clear HBX hb1 hd0 hd1
  have hd0 : w1.cell? ⟨w.heap.size, 0, none⟩ = some (.slice ao L.length co) := HB1.out.outs
  have hd1 : w1.cell? ⟨w.heap.size, 1, none⟩ = some (.slice ar R.length cr) := HB1.out.roots
  obtain ⟨c, hc⟩ : ∃ c, chkH L R = c := ⟨_, rfl⟩
  have HC : Hid (chkH L R = c) := hc
  rw [hc]
  clear hc
  obtain ⟨gl, hgl⟩ : ∃ gl, gl = w1.heap.size := ⟨_, rfl⟩
  have HBL : Hid (∀ W, Below gl w1 W → Boxed w W w.heap.size ao co ar cr L R) := fun W hW => HB1.out.later (by rw [← hgl]; exact hW)
  have HGL : Hid (w.heap.size ≤ gl) := by rw [hgl]; exact HB1.out.below.size
  have HX2 : Hid ((w1.alloc (.cells #[.slice none 0 0, .slice none 0 0] 25)).heap[gl]? = some (.cells #[.slice none 0 0, .slice none 0 0] 25 (0, 0))) := by rw [hgl]; exact heap_alloc_new _ _
  have HL2 : Hid ((w1.alloc (.cells #[.slice none 0 0, .slice none 0 0] 25)).heap.size = gl + 1) := by rw [hgl]; unfold Hid; simp
  have HZ2 : Hid (Below gl w1 (w1.alloc (.cells #[.slice none 0 0, .slice none 0 0] 25))) := by rw [hgl]; exact (Below.refl _ _).alloc (Nat.le_refl _) _
  have HS2 : Hid (gl ≤ (w1.alloc (.cells #[.slice none 0 0, .slice none 0 0] 25)).heap.size) := by unfold Hid; have := HL2.out; omega
  have HB2 : Hid (Boxed w (w1.alloc (.cells #[.slice none 0 0, .slice none 0 0] 25)) w.heap.size ao co ar cr L R) := HBL.out _ HZ2.out
  clear hd0 hd1 HB1
  have hd0 : (w1.alloc (.cells #[.slice none 0 0, .slice none 0 0] 25)).cell? ⟨w.heap.size, 0, none⟩ = some (.slice ao L.length co) := HB2.out.outs
  have hd1 : (w1.alloc (.cells #[.slice none 0 0, .slice none 0 0] 25)).cell? ⟨w.heap.size, 1, none⟩ = some (.slice ar R.length cr) := HB2.out.roots
  by_cases h0 : c = 0
  · subst h0
    have HF : Hid (FineH L R) := chkH_zero.1 HC.out
    have hl12 := HF.out.few
    have hz : (((0 : Nat) : Int) == 0) = true := rfl
    go_wp2_with (go_at_call 5; fail)
    rw [← hgl]
    clear hgl
    generalize (w1.alloc (.cells #[.slice none 0 0, .slice none 0 0] 25)) = w2 at *
    refine (rfrom_any _ _ L R R _ HB2.out.rows HB2.out.ints HF.out HF.out.root).mono ?_
    rintro e w3 ⟨vw, rfl, N, hO3, hFr, hb3⟩
    have HFR : Hid (IsFrom (gOf L) R N) := hFr.out
    have HI : Hid (Inn L N) := hFr.out.inn HF.out
    have hC12 : N.length ≤ 12 := by have := HI.out.few; omega
    have HZ3 : Hid (Below gl w1 w3) := HZ2.out.trans (hb3.mono HS2.out)
    have HS3 : Hid (gl ≤ w3.heap.size) := Nat.le_trans HS2.out hb3.size
    have HB3 : Hid (Boxed w w3 w.heap.size ao co ar cr L R) := HBL.out _ HZ3.out
    have HX3 : Hid (w3.heap[gl]? = some (.cells #[.slice none 0 0, .slice none 0 0] 25 (0, 0))) := (hb3.block _ (by have := HL2.out; omega)).trans HX2.out
    have HW3 : Hid (OwnI w3 (gl + 1) vw N) := by unfold Hid; rw [← HL2.out]; exact hO3
    have HL3 : Hid (gl + 1 ≤ w3.heap.size) := by unfold Hid; rw [← HL2.out]; exact hb3.size
    clear hd0 hd1 HB2 HX2 hb3 hO3 hFr HZ2 HS2 HL2
    have hd0 : w3.cell? ⟨w.heap.size, 0, none⟩ = some (.slice ao L.length co) := HB3.out.outs
    have hd1 : w3.cell? ⟨w.heap.size, 1, none⟩ = some (.slice ar R.length cr) := HB3.out.roots
    obtain ⟨aN, cN, rfl⟩ := OwnI.form HW3.out
    go_wp2_with (go_at_call 6; fail)
    refine (ranew_any _ _ L R N _ HB3.out.isHeap HW3.out.isInts HF.out (from_shut HFR.out) HI.out).mono ?_
    rintro e w5 ⟨aO, cO, aR, cR, rfl, hO5, hR5, hb5⟩
    have hl4 := HL3.out
    have hgl0 := HGL.out
    have HZ5 : Hid (Below gl w1 w5) := HZ3.out.trans (hb5.mono HS3.out)
    have HS5 : Hid (gl ≤ w5.heap.size) := Nat.le_trans HS3.out hb5.size
    have HB5 : Hid (Boxed w w5 w.heap.size ao co ar cr L R) := HBL.out _ HZ5.out
    have HX5 : Hid (w5.heap[gl]? = some (.cells #[.slice none 0 0, .slice none 0 0] 25 (0, 0))) := (hb5.block _ (by omega)).trans HX3.out
    have HEND : Hid _ := heap_end (w0 := w) HX5.out (hO5.mono hl4) (ownI_mono hR5 hl4) (by omega) (by omega) HB5.out.below
    have HN6 : Hid (OwnI ((w5.setCell ⟨gl, 0, none⟩ (.slice aO N.length cO)).setCell ⟨gl, 1, none⟩ (.slice aR R.length cR)) (gl + 1) (.slice aN N.length cN) N) := own_box (own_box (HW3.out.later hb5) _ (by omega)) _ (by omega)
    have HZ6 : Hid (Below gl w1 ((w5.setCell ⟨gl, 0, none⟩ (.slice aO N.length cO)).setCell ⟨gl, 1, none⟩ (.slice aR R.length cR))) := (HZ5.out.setCell (Nat.le_refl _) _).setCell (Nat.le_refl _) _
    have HB6 : Hid (Boxed w ((w5.setCell ⟨gl, 0, none⟩ (.slice aO N.length cO)).setCell ⟨gl, 1, none⟩ (.slice aR R.length cR)) w.heap.size ao co ar cr L R) := HBL.out _ HZ6.out
    have hd0' : ((w5.setCell ⟨gl, 0, none⟩ (.slice aO N.length cO)).setCell ⟨gl, 1, none⟩ (.slice aR R.length cR)).cell? ⟨w.heap.size, 0, none⟩ = some (.slice ao L.length co) := HB6.out.outs
    have hd1' : ((w5.setCell ⟨gl, 0, none⟩ (.slice aO N.length cO)).setCell ⟨gl, 1, none⟩ (.slice aR R.length cR)).cell? ⟨w.heap.size, 1, none⟩ = some (.slice ar R.length cr) := HB6.out.roots
    obtain ⟨hx0, hx1, hf0, hf1⟩ := box_cells HX5.out
    clear hd0 hd1 HB3 HX3 hb5 hO5 hR5 HW3 HZ3 HS3 HL3 HZ5 HS5 HB5
    go_wp2_with (go_at_call 7; fail)
    generalize (w5.setCell ⟨gl, 0, none⟩ (.slice aO N.length cO)).setCell ⟨gl, 1, none⟩ (.slice aR R.length cR) = w6 at *
    have HV6 : Hid (YEnv w gl ao co ar cr L R (.slice aO N.length cO) (.slice aR R.length cR) (.slice aN N.length cN) N (anewO L N) (R.map (plc N)) w6) :=
      ⟨HB6.out, HEND.out.1, HN6.out.isInts, ⟨_, _, rfl, HEND.out.2.1.1.isRows, HEND.out.2.1.2.isInts⟩⟩
    have HSW : Hid (∀ N' X Y, CopyIs L R N' X Y → N' = N ∧ X = anewO L N ∧ Y = R.map (plc N)) := fun N' X Y h => by
      unfold CopyIs at h
      rw [if_pos HC.out] at h
      obtain ⟨h1, h2, h3⟩ := h
      have := h1.det HFR.out
      subst this
      exact ⟨rfl, h2, h3⟩
    clear HEND HN6 HZ6 HB6 hd0' hd1' hx0 hx1 hf0 hf1
    refine (ycopy_any _ L R _ HV6.out.box.isHeap).mono ?_
    rintro e w14 ⟨⟨v14, x14, rfl, N14, X14, Y14, hN14, hX14, hS14⟩, hb14⟩
    obtain ⟨e1, e2, e3⟩ := HSW.out _ _ _ hS14
    rw [e1] at hN14
    rw [e2, e3] at hX14
    clear e1 e2 e3
    have HV14 : Hid (YEnv w gl ao co ar cr L R (.slice aO N.length cO) (.slice aR R.length cR) (.slice aN N.length cN) N (anewO L N) (R.map (plc N)) w14) := HV6.out.later hb14
    have HI14 : Hid (IsInts w14 v14 N) := hN14
    have HH14 : Hid (IsHeap w14 x14 (anewO L N) (R.map (plc N))) := hX14
    obtain ⟨a14, c14, rfl, _⟩ := HI14.out.opened
    obtain ⟨p14, q14, r14, s14, rfl, hP14, hQ14⟩ := HH14.out.form
    rw [HC.out]
    rw [anew_length]
    rw [List.length_map]
    have HXB : Hid (Boxed w14 (w14.alloc (.cells #[.slice p14 N.length q14, .slice r14 R.length s14] 25)) w14.heap.size p14 q14 r14 s14 (anewO L N) (R.map (plc N))) := by
      have h := boxed hP14 hQ14 25
      simp only [anew_length, List.length_map] at h
      exact h
    have HV15 : Hid (YEnv w gl ao co ar cr L R (.slice aO N.length cO) (.slice aR R.length cR) (.slice aN N.length cN) N (anewO L N) (R.map (plc N)) (w14.alloc (.cells #[.slice p14 N.length q14, .slice r14 R.length s14] 25))) := HV14.out.later HXB.out.below
    have HI15 : Hid (IsInts (w14.alloc (.cells #[.slice p14 N.length q14, .slice r14 R.length s14] 25)) (.slice a14 N.length c14) N) := HI14.out.below HXB.out.below
    clear HV6 hN14 hX14 hS14 hb14 hP14 hQ14 HH14 HV14 HI14
    go_wp2_with (go_at_call 8; fail)
    generalize (w14.alloc (.cells #[.slice p14 N.length q14, .slice r14 R.length s14] 25)) = w15 at *
    refine (error_same 0 _ (HG.out.below HV15.out.box.below)).mono ?_
    rintro e w16 ⟨rfl, hb16⟩
    have HV16 : Hid (YEnv w gl ao co ar cr L R (.slice aO N.length cO) (.slice aR R.length cR) (.slice aN N.length cN) N (anewO L N) (R.map (plc N)) w16) := HV15.out.later hb16
    have HI16 : Hid (IsInts w16 (.slice a14 N.length c14) N) := HI15.out.below hb16
    have HX16 : Hid (Boxed w14 w16 w14.heap.size p14 q14 r14 s14 (anewO L N) (R.map (plc N))) := HXB.out.later hb16
    clear HV15 HI15 hb16 HXB
    go_wp2_with (go_at_call 9; fail)
    refine (ints_same _ _ N _ HI16.out HV16.out.want).mono ?_
    rintro e w17 ⟨rfl, q17, hw17⟩
    have HB17 : Hid (Below w16.heap.size w16 w17) := by rw [hw17]; exact below_drewN (Below.refl _ _) q17
    have HV17 : Hid (YEnv w gl ao co ar cr L R (.slice aO N.length cO) (.slice aR R.length cR) (.slice aN N.length cN) N (anewO L N) (R.map (plc N)) w17) := HV16.out.later HB17.out
    have HX17 : Hid (Boxed w14 w17 w14.heap.size p14 q14 r14 s14 (anewO L N) (R.map (plc N))) := HX16.out.later HB17.out
    clear HV16 hw17 HB17 HI16 HX16
    have hx0 : w17.cell? ⟨w14.heap.size, 0, none⟩ = some (.slice p14 N.length q14) := by
      have h := HX17.out.outs
      simp only [anew_length] at h
      exact h
    have hx1 : w17.cell? ⟨w14.heap.size, 1, none⟩ = some (.slice r14 R.length s14) := by
      have h := HX17.out.roots
      simp only [List.length_map] at h
      exact h
    obtain ⟨hl0, hl1, _, _⟩ := box_cells HV17.out.left
    have HHX : Hid (IsHeap w17 (.agg #[.slice p14 N.length q14, .slice r14 R.length s14]) (anewO L N) (R.map (plc N))) := by
      have h := HX17.out.isHeap
      simp only [anew_length, List.length_map] at h
      exact h
    go_wp2_with (go_at_call 10; fail)
    refine (heaps_same _ _ (anewO L N) (R.map (plc N)) _ HHX.out HV17.out.heap).mono ?_
    rintro e w18 ⟨rfl, hb18⟩
    have HV18 : Hid (YEnv w gl ao co ar cr L R (.slice aO N.length cO) (.slice aR R.length cR) (.slice aN N.length cN) N (anewO L N) (R.map (plc N)) w18) := HV17.out.later hb18
    clear HV17 hb18
    go_wp2
    go_ret
    exact ⟨rfl, HV18.out.box.below⟩
  · have hz : ((c : Int) == 0) = false := by rw [beq_eq_false_iff_ne]; omega
    have HN : Hid (chkH L R ≠ 0) := by unfold Hid; rw [HC.out]; exact h0
    clear h0
    go_wp2_with (go_at_call 7; fail)
    rw [← hgl]
    clear hgl
    generalize (w1.alloc (.cells #[.slice none 0 0, .slice none 0 0] 25)) = w2 at *
    have HV6 : Hid (YEnv w gl ao co ar cr L R (.slice none 0 0) (.slice none 0 0) (.slice none 0 0) [] [] [] w2) :=
      ⟨HB2.out, HX2.out, .inl ⟨rfl, none, 0, rfl, by simp⟩, ⟨_, _, rfl, ⟨none, 0, rfl, by simp, fun k hk => by simp at hk⟩, .inl ⟨rfl, none, 0, rfl, by simp⟩⟩⟩
    have HSW : Hid (∀ N' X Y, CopyIs L R N' X Y → N' = [] ∧ X = [] ∧ Y = []) := fun N' X Y h => by
      unfold CopyIs at h
      rwa [if_neg HN.out] at h
    clear HB2 HX2 HL2 HZ2 HS2 hd0 hd1
    refine (ycopy_any _ L R _ HV6.out.box.isHeap).mono ?_
    rintro e w14 ⟨⟨v14, x14, rfl, N14, X14, Y14, hN14, hX14, hS14⟩, hb14⟩
    obtain ⟨e1, e2, e3⟩ := HSW.out _ _ _ hS14
    rw [e1] at hN14
    rw [e2, e3] at hX14
    clear e1 e2 e3
    have HV14 : Hid (YEnv w gl ao co ar cr L R (.slice none 0 0) (.slice none 0 0) (.slice none 0 0) [] [] [] w14) := HV6.out.later hb14
    have HI14 : Hid (IsInts w14 v14 []) := hN14
    have HH14 : Hid (IsHeap w14 x14 [] []) := hX14
    obtain ⟨a14, c14, rfl, _⟩ := HI14.out.opened
    obtain ⟨p14, q14, r14, s14, rfl, hP14, hQ14⟩ := HH14.out.form
    rw [HC.out]
    have HXB : Hid (Boxed w14 (w14.alloc (.cells #[.slice p14 0 q14, .slice r14 0 s14] 25)) w14.heap.size p14 q14 r14 s14 [] []) := boxed hP14 hQ14 25
    have HV15 : Hid (YEnv w gl ao co ar cr L R (.slice none 0 0) (.slice none 0 0) (.slice none 0 0) [] [] [] (w14.alloc (.cells #[.slice p14 0 q14, .slice r14 0 s14] 25))) := HV14.out.later HXB.out.below
    have HI15 : Hid (IsInts (w14.alloc (.cells #[.slice p14 0 q14, .slice r14 0 s14] 25)) (.slice a14 0 c14) []) := HI14.out.below HXB.out.below
    clear HV6 hN14 hX14 hS14 hb14 hP14 hQ14 HH14 HV14 HI14
    go_wp2_with (go_at_call 8; fail)
    generalize (w14.alloc (.cells #[.slice p14 0 q14, .slice r14 0 s14] 25)) = w15 at *
    refine (error_same c _ (HG.out.below HV15.out.box.below)).mono ?_
    rintro e w16 ⟨rfl, hb16⟩
    have HV16 : Hid (YEnv w gl ao co ar cr L R (.slice none 0 0) (.slice none 0 0) (.slice none 0 0) [] [] [] w16) := HV15.out.later hb16
    have HI16 : Hid (IsInts w16 (.slice a14 0 c14) []) := HI15.out.below hb16
    have HX16 : Hid (Boxed w14 w16 w14.heap.size p14 q14 r14 s14 [] []) := HXB.out.later hb16
    clear HV15 HI15 hb16 HXB
    go_wp2_with (go_at_call 9; fail)
    refine (ints_same _ _ [] _ HI16.out HV16.out.want).mono ?_
    rintro e w17 ⟨rfl, q17, hw17⟩
    have HB17 : Hid (Below w16.heap.size w16 w17) := by rw [hw17]; exact below_drewN (Below.refl _ _) q17
    have HV17 : Hid (YEnv w gl ao co ar cr L R (.slice none 0 0) (.slice none 0 0) (.slice none 0 0) [] [] [] w17) := HV16.out.later HB17.out
    have HX17 : Hid (Boxed w14 w17 w14.heap.size p14 q14 r14 s14 [] []) := HX16.out.later HB17.out
    clear HV16 hw17 HB17 HI16 HX16
    have hx0 : w17.cell? ⟨w14.heap.size, 0, none⟩ = some (.slice p14 0 q14) := HX17.out.outs
    have hx1 : w17.cell? ⟨w14.heap.size, 1, none⟩ = some (.slice r14 0 s14) := HX17.out.roots
    obtain ⟨hl0, hl1, _, _⟩ := box_cells HV17.out.left
    have HHX : Hid (IsHeap w17 (.agg #[.slice p14 0 q14, .slice r14 0 s14]) [] []) := HX17.out.isHeap
    go_wp2_with (go_at_call 10; fail)
    refine (heaps_same _ _ [] [] _ HHX.out HV17.out.heap).mono ?_
    rintro e w18 ⟨rfl, hb18⟩
    have HV18 : Hid (YEnv w gl ao co ar cr L R (.slice none 0 0) (.slice none 0 0) (.slice none 0 0) [] [] [] w18) := HV17.out.later hb18
    clear HV17 hb18
    go_wp2
    go_ret
    exact ⟨rfl, HV18.out.box.below⟩
end Go.Proofs.YtennlinnclcngaaDoor
