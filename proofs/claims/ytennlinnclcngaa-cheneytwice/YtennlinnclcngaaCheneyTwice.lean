/- CheneyTwice is proved: of whatever heap, in whatever memory and on every schedule, it returns true and leaves its argument as it was: the copy's copy has the same numbers. No condition. -/
import Derived.Test.YtennlinnclcngaaYFact
import Derived.Test.YtennlinnclcngaaYLaw
import Derived.Test.YtennlinnclcngaaRCount
import Derived.Test.YtennlinnclcngaaArgHeap
namespace Go.Proofs.Ytennlinnclcngaa
set_option maxRecDepth 100000
open Go.ChangeShapes Go.WideShapes Go.ChangeAt Go.RowKit Go.Sort

set_option maxHeartbeats 4000000 in
theorem ytwice_any (v : Value) (L : List (List Int)) (R : List Int) (w : World) (hv : IsHeap w v L R) (_ : CameH w v R) :
    Calls Try.prog 4 #[v] w fun e w' => e = .returned (.bool true) ∧ Below w.heap.size w w' := by
  obtain ⟨ao, co, ar, cr, rfl, h1, h2⟩ := hv.form
  have HBX : Hid (Boxed w (w.alloc (.cells #[.slice ao L.length co, .slice ar R.length cr] 25)) w.heap.size ao co ar cr L R) := boxed h1 h2 _
  clear hv h1 h2
  go_enter Try.func4, Try.ntmps4
  go_wp2_with (go_at_call 5; fail)
  generalize w.alloc (.cells #[.slice ao L.length co, .slice ar R.length cr] 25) = W at *
  refine (yfact_any _).mono ?_
  rintro e w1 ⟨rfl, hb1⟩
  have HB1 : Hid (Boxed w w1 w.heap.size ao co ar cr L R) := HBX.out.later hb1
  clear HBX hb1
  have hd0 : w1.cell? ⟨w.heap.size, 0, none⟩ = some (.slice ao L.length co) := HB1.out.outs
  have hd1 : w1.cell? ⟨w.heap.size, 1, none⟩ = some (.slice ar R.length cr) := HB1.out.roots
  go_wp2_with (go_at_call 6; fail)
  refine (ycopy_any _ L R _ HB1.out.isHeap).mono ?_
  rintro e w2 ⟨⟨vl, vx, rfl, A, X, Y, hN, hX, hS⟩, hb2⟩
  have HB2 : Hid (Boxed w w2 w.heap.size ao co ar cr L R) := HB1.out.later hb2
  obtain ⟨aX, cX, aY, cY, rfl, hXr, hYr⟩ := hX.form
  obtain ⟨aN, cN, rfl, hcN, _⟩ := hN.opened
  unfold maxLen at hcN
  clear hd0 hd1 HB1 hb2 hN hX
  by_cases h0 : chkH L R = 0
  · have HF : Hid (FineH L R) := chkH_zero.1 h0
    have hl12 := HF.out.few
    unfold CopyIs at hS
    rw [if_pos h0] at hS
    obtain ⟨hFr, rfl, rfl⟩ := hS
    have HFR : Hid (IsFrom (gOf L) R A) := hFr
    rw [h0, show errV 0 = .nilIface from rfl]
    have hNL := (hFr.inn HF.out).few
    have HFX : Hid (FineH (anewO L A) (R.map (plc A))) := shut_fine HF.out (from_shut hFr) (hFr.inn HF.out)
    have HX0 : Hid (chkH (anewO L A) (R.map (plc A)) = 0) := chkH_zero.2 HFX.out
    have HTW : Hid (∀ M, IsFrom (gOf (anewO L A)) (R.map (plc A)) M → M = upTo A.length ∧ anewO (anewO L A) (upTo A.length) = anewO L A ∧ (R.map (plc A)).map (plc (upTo A.length)) = R.map (plc A)) := fun M hM => twice_same HFR.out hM
    clear h0 hFr HFR HFX
    generalize anewO L A = X at *
    generalize R.map (plc A) = Y at *
    have HBX : Hid (Boxed w2 (w2.alloc (.cells #[.slice aX X.length cX, .slice aY Y.length cY] 25)) w2.heap.size aX cX aY cY X Y) := boxed hXr hYr 25
    clear hXr hYr
    go_wp2_with (go_at_call 6; fail)
    generalize w2.alloc (.cells #[.slice aX X.length cX, .slice aY Y.length cY] 25) = w3 at *
    refine (ycopy_any _ X Y _ HBX.out.isHeap).mono ?_
    rintro e w4 ⟨⟨vm, vy, rfl, M, X2, Y2, hM, hX2, hS2⟩, hb4⟩
    unfold CopyIs at hS2
    rw [if_pos HX0.out] at hS2
    obtain ⟨hL2, rfl, rfl⟩ := hS2
    obtain ⟨rfl, hx2, hy2⟩ := HTW.out _ hL2
    rw [hx2, hy2] at hX2
    have HB4 : Hid (Boxed w w4 w.heap.size ao co ar cr L R) := HB2.out.later (HBX.out.below.trans (hb4.mono HBX.out.below.size))
    have HBX4 : Hid (Boxed w2 w4 w2.heap.size aX cX aY cY X Y) := HBX.out.later hb4
    have HM4 : Hid (IsInts w4 vm (upTo A.length)) := hM
    have HY4 : Hid (IsHeap w4 vy X Y) := hX2
    rw [HX0.out, show errV 0 = .nilIface from rfl]
    obtain ⟨aM, cM, rfl, _⟩ := HM4.out.opened
    obtain ⟨aP, cP, aQ, cQ, rfl, hPR, hQR⟩ := HY4.out.form
    have HY5 : Hid (Boxed w4 (w4.alloc (.cells #[.slice aP X.length cP, .slice aQ Y.length cQ] 25)) w4.heap.size aP cP aQ cQ X Y) := boxed hPR hQR _
    clear hPR hQR hM hX2 hL2 hb4 HBX HB2 HTW HY4 hx2 hy2
    have hx0 : w4.cell? ⟨w2.heap.size, 0, none⟩ = some (.slice aX X.length cX) := HBX4.out.outs
    have hx1 : w4.cell? ⟨w2.heap.size, 1, none⟩ = some (.slice aY Y.length cY) := HBX4.out.roots
    go_wp2_with (go_at_call 12; fail)
    generalize w4.alloc (.cells #[.slice aP X.length cP, .slice aQ Y.length cQ] 25) = w5 at *
    refine (rcount_any A.length (by omega) _).mono ?_
    rintro e w6 ⟨vc, rfl, hc, hb6⟩
    have HB56 : Hid (Below w4.heap.size w4 w6) := HY5.out.below.trans (hb6.mono HY5.out.below.size)
    have HY6 : Hid (Boxed w4 w6 w4.heap.size aP cP aQ cQ X Y) := HY5.out.later hb6
    have HC6 : Hid (IsInts w6 vc (upTo A.length)) := hc.isInts
    have HM6 : Hid (IsInts w6 (.slice aM (upTo A.length).length cM) (upTo A.length)) := HM4.out.below HB56.out
    have HX6 : Hid (Boxed w2 w6 w2.heap.size aX cX aY cY X Y) := HBX4.out.later HB56.out
    have HB6 : Hid (Boxed w w6 w.heap.size ao co ar cr L R) := HB4.out.later HB56.out
    clear hc hb6 HB56 HY5 HM4 HBX4 HB4 hx0 hx1
    go_wp2_with (go_at_call 11; fail)
    refine (ints_same _ _ (upTo A.length) _ HM6.out HC6.out).mono ?_
    rintro e w7 ⟨rfl, q, hw7⟩
    have HB67 : Hid (Below w6.heap.size w6 w7) := by rw [hw7]; exact below_drewN (Below.refl _ _) q
    have HY7 : Hid (Boxed w4 w7 w4.heap.size aP cP aQ cQ X Y) := HY6.out.later HB67.out
    have HX7 : Hid (Boxed w2 w7 w2.heap.size aX cX aY cY X Y) := HX6.out.later HB67.out
    have HB7 : Hid (Boxed w w7 w.heap.size ao co ar cr L R) := HB6.out.later HB67.out
    clear hw7 HB67 HY6 HX6 HB6 HM6 HC6
    have hy0 : w7.cell? ⟨w4.heap.size, 0, none⟩ = some (.slice aP X.length cP) := HY7.out.outs
    have hy1 : w7.cell? ⟨w4.heap.size, 1, none⟩ = some (.slice aQ Y.length cQ) := HY7.out.roots
    have hx0 : w7.cell? ⟨w2.heap.size, 0, none⟩ = some (.slice aX X.length cX) := HX7.out.outs
    have hx1 : w7.cell? ⟨w2.heap.size, 1, none⟩ = some (.slice aY Y.length cY) := HX7.out.roots
    go_wp2_with (go_at_call 13; fail)
    refine (heaps_same _ _ X Y _ HX7.out.isHeap HY7.out.isHeap).mono ?_
    rintro e w8 ⟨rfl, hb8⟩
    have HB8 : Hid (Below w.heap.size w w8) := HB7.out.below.trans (hb8.mono HB7.out.below.size)
    clear hb8 HY7 HX7 HB7 hx0 hx1 hy0 hy1
    go_wp2
    go_ret
    exact ⟨rfl, HB8.out⟩
  · have HE : Hid (errV (chkH L R) = .iface 47 (.int .i64 (chkH L R))) := errV_pos h0
    rw [HE.out]
    unfold CopyIs at hS
    rw [if_neg h0] at hS
    obtain ⟨rfl, rfl, rfl⟩ := hS
    clear h0 hXr hYr
    go_wp2
    go_ret
    exact ⟨rfl, HB2.out.below.alloc HB2.out.below.size _⟩

theorem cheneyTwice_own : ownKnob Try.prog.godebug = none := by kernel_rfl
theorem cheneyTwice_laidOut : laidOutB Try.prog = true := by kernel_rfl

set_option maxRecDepth 100000 in
theorem cheneyTwice_lifted (os : Os) (started : os.Started) (H : Type) (enc : TypeId × Value → H) :
    ReturnsInHanded {} Try.checked os 4 .any (Rows.cheneyTwiceSpec.pre6 enc Try.prog Try.f4 Rows.cheneyTwiceRow.domain false) (Rows.cheneyTwiceSpec.post enc Try.prog Try.f4 false true false false) := by
  refine returnsInHanded_of_change (C := Try.checked) cheneyTwice_own started (by kernel_rfl) Try.func4
    (ChangeSpec.witness6 (enc := enc) (C := Try.checked) false ⟨#[], #[.agg #[.slice none 0 0, .slice none 0 0]], []⟩ 8 (by kernel_rfl) (by kernel_rfl) (by kernel_rfl) (by kernel_rfl)) ?_
  intro W base args ds gs before hval0 hW _ _
  have hval : ∀ (j : Nat) t v, Try.f4.params[j]? = some t → args[j]? = some v → Value.okWide Try.prog W .any base t v := hval0
  have hW' : DataW.Whole enc Try.prog Try.f4.params.toList Rows.cheneyTwiceSpec.vars false W args.toList ds gs before := hW
  obtain ⟨p, q, hA0, hV, rfl, hfz, hnd⟩ := hW
  have hA : DataW.TrodAll enc Try.prog W 0 (fun _ => true) true Try.f4.params.toList args.toList ds p := hA0
  rw [Try.params4] at hA hval
  obtain ⟨v0, vs0, d0, ds0, p0, q0, hargs, rfl, rfl, h0, r0⟩ := trodAll_cons hA
  obtain ⟨rfl, rfl, rfl⟩ := trodAll_nil r0
  obtain rfl : args = #[v0] := by cases args; simp_all
  obtain ⟨rfl, rfl⟩ := trodVars_none hV
  obtain ⟨l0, rt0, hl0, hc0⟩ := arg_heap (hval 0 25 v0 rfl rfl) h0
  clear hA0 hval0
  refine (ytwice_any v0 l0 rt0 W hl0 hc0).mono fun e W' ⟨he, hb⟩ => ?_
  subst he
  exact ⟨_, rfl, law_post hW' hb cheneyTwice_laidOut rfl (by kernel_rfl) (by kernel_rfl) Try.underlying4 rfl rfl rfl⟩

theorem cheneyTwice_holds : Rows.CheneyTwiceSaid :=
  OpenClaim.holds_of_wide 4 Try.f4 rfl rfl rfl rfl rfl rfl rfl ⟨rfl, rfl, rfl, rfl, rfl⟩ rfl rfl rfl rfl rfl (by kernel_rfl) Try.func4 (by kernel_rfl)
    (of_decide_eq_true (by kernel_rfl)) (by unfold Func.isWrapper; first | (rw [if_pos (by decide +kernel)]; kernel_rfl) | (rw [if_neg (by decide +kernel)]; exact ⟨rfl, rfl⟩))
    (fun os started H enc _ => cheneyTwice_lifted os started H enc)
end Go.Proofs.Ytennlinnclcngaa
