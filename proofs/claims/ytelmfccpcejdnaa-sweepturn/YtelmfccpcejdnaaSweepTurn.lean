/- SweepTurn is proved: of whatever heap, in whatever memory and on every schedule, it returns true and leaves its argument as it was: marked without a pile, by pointers that are turned and turned back, nodes are marked in the order of marking with a pile, and the pointers are as they were. No condition. -/
import Derived.Test.YtelmfccpcejdnaaSFact
import Derived.Test.YtelmfccpcejdnaaSTurn
import Derived.Test.YtelmfccpcejdnaaArgHeap
namespace Go.Proofs.Ytelmfccpcejdnaa
set_option maxRecDepth 100000
open Go.ChangeShapes Go.WideShapes Go.ChangeAt Go.RowKit Go.Sort

set_option maxHeartbeats 2000000 in
theorem swturn_any (v : Value) (L : List (List Int)) (R : List Int) (w : World) (hv : IsHeap w v L R) (_ : CameH w v R) :
    Calls Try.prog 4 #[v] w fun e w' => e = .returned (.bool true) ∧ Below w.heap.size w w' := by
  obtain ⟨ao, co, ar, cr, rfl, h1, h2⟩ := hv.form
  have HBX : Hid (Boxed w (w.alloc (.cells #[.slice ao L.length co, .slice ar R.length cr] 25)) w.heap.size ao co ar cr L R) := boxed h1 h2 _
  clear hv h1 h2
  go_enter Try.func4, Try.ntmps4
  go_wp2_with (go_at_call 6; fail)
  generalize w.alloc (.cells #[.slice ao L.length co, .slice ar R.length cr] 25) = W at *
  refine (sfact_any _).mono ?_
  rintro e w1 ⟨rfl, hb1⟩
  have HB1 : Hid (Boxed w w1 w.heap.size ao co ar cr L R) := HBX.out.later hb1
  clear HBX hb1
  have hd0 : w1.cell? ⟨w.heap.size, 0, none⟩ = some (.slice ao L.length co) := HB1.out.outs
  have hd1 : w1.cell? ⟨w.heap.size, 1, none⟩ = some (.slice ar R.length cr) := HB1.out.roots
  go_wp2_with (go_at_call 7; fail)
  refine (smark_any _ L R _ HB1.out.isHeap).mono ?_
  rintro e w2 ⟨⟨vo, rfl, C, hC, hM⟩, hb2⟩
  have HB2 : Hid (Boxed w w2 w.heap.size ao co ar cr L R) := HB1.out.later hb2
  have HC2 : Hid (IsInts w2 vo C) := hC
  have HM : Hid (MarkIs L R C) := hM
  clear hd0 hd1 HB1 hb2 hC hM
  have hd0 : w2.cell? ⟨w.heap.size, 0, none⟩ = some (.slice ao L.length co) := HB2.out.outs
  have hd1 : w2.cell? ⟨w.heap.size, 1, none⟩ = some (.slice ar R.length cr) := HB2.out.roots
  go_wp2_with (go_at_call 13; fail)
  refine (sturn_any _ L R _ HB2.out.isHeap).mono ?_
  rintro e w3 ⟨⟨vm, vx, rfl, ⟨C2, hC2, hM2⟩, hX⟩, hb3⟩
  have HB3 : Hid (Boxed w w3 w.heap.size ao co ar cr L R) := HB2.out.later hb3
  have HC3 : Hid (IsInts w3 vo C) := HC2.out.below hb3
  have HD3 : Hid (IsInts w3 vm C2) := hC2
  have HM2 : Hid (MarkIs L R C2) := hM2
  clear hd0 hd1 HB2 hb3 hC2 hM2 HC2
  have hd0 : w3.cell? ⟨w.heap.size, 0, none⟩ = some (.slice ao L.length co) := HB3.out.outs
  by_cases h0 : chkH L R = 0
  · rw [if_pos h0] at hX
    have HX : Hid (IsRows w3 vx L) := hX
    have hCC : C2 = C := by
      have a := HM.out
      have b := HM2.out
      unfold MarkIs at a b
      rw [if_pos h0] at a b
      exact b.det a
    subst hCC
    rw [h0, show errV 0 = .nilIface from rfl]
    clear h0 hX HM HM2
    obtain ⟨a4, c4, rfl, _⟩ := HC3.out.opened
    obtain ⟨a5, c5, rfl, _⟩ := HD3.out.opened
    obtain ⟨aX, cX, rfl⟩ := HX.out.form
    go_wp2_with (go_at_call 14; fail)
    refine (ints_same _ _ C2 _ HC3.out HD3.out).mono ?_
    rintro e w4 ⟨rfl, q, rfl⟩
    have HX4 : Hid (IsRows (w3.drewN q) (.slice aX L.length cX) L) := HX.out.heap rfl
    have HY4 : Hid (IsRows (w3.drewN q) (.slice ao L.length co) L) := HB3.out.rows.heap rfl
    go_wp2_with (go_at_call 15; fail)
    refine (rows_same _ _ L _ HX4.out HY4.out).mono ?_
    rintro e w5 ⟨rfl, q5, rfl⟩
    go_wp2
    go_ret
    exact ⟨rfl, below_drewN HB3.out.below _⟩
  · have HE : Hid (errV (chkH L R) = .iface 56 (.int .i64 (chkH L R))) := errV_pos h0
    rw [HE.out]
    clear h0 hX
    go_wp2
    go_ret
    exact ⟨rfl, HB3.out.below⟩

theorem sweepTurn_own : ownKnob Try.prog.godebug = none := by kernel_rfl
theorem sweepTurn_laidOut : laidOutB Try.prog = true := by kernel_rfl

set_option maxRecDepth 100000 in
theorem sweepTurn_lifted (os : Os) (started : os.Started) (H : Type) (enc : TypeId × Value → H) :
    ReturnsInHanded {} Try.checked os 4 .any (Rows.sweepTurnSpec.pre6 enc Try.prog Try.f4 Rows.sweepTurnRow.domain false) (Rows.sweepTurnSpec.post enc Try.prog Try.f4 false true false false) := by
  refine returnsInHanded_of_change (C := Try.checked) sweepTurn_own started (by kernel_rfl) Try.func4
    (ChangeSpec.witness6 (enc := enc) (C := Try.checked) false ⟨#[], #[.agg #[.slice none 0 0, .slice none 0 0]], []⟩ 8 (by kernel_rfl) (by kernel_rfl) (by kernel_rfl) (by kernel_rfl)) ?_
  intro W base args ds gs before hval0 hW _ _
  have hval : ∀ (j : Nat) t v, Try.f4.params[j]? = some t → args[j]? = some v → Value.okWide Try.prog W .any base t v := hval0
  have hW' : DataW.Whole enc Try.prog Try.f4.params.toList Rows.sweepTurnSpec.vars false W args.toList ds gs before := hW
  obtain ⟨p, q, hA0, hV, rfl, hfz, hnd⟩ := hW
  have hA : DataW.TrodAll enc Try.prog W 0 (fun _ => true) true Try.f4.params.toList args.toList ds p := hA0
  rw [Try.params4] at hA hval
  obtain ⟨v0, vs0, d0, ds0, p0, q0, hargs, rfl, rfl, h0, r0⟩ := trodAll_cons hA
  obtain ⟨rfl, rfl, rfl⟩ := trodAll_nil r0
  obtain rfl : args = #[v0] := by cases args; simp_all
  obtain ⟨rfl, rfl⟩ := trodVars_none hV
  obtain ⟨l0, rt0, hl0, hc0⟩ := arg_heap (hval 0 25 v0 rfl rfl) h0
  clear hA0 hval0
  refine (swturn_any v0 l0 rt0 W hl0 hc0).mono fun e W' ⟨he, hb⟩ => ?_
  subst he
  exact ⟨_, rfl, law_post hW' hb sweepTurn_laidOut rfl (by kernel_rfl) (by kernel_rfl) Try.underlying4 rfl rfl rfl⟩

theorem sweepTurn_holds : Rows.SweepTurnSaid :=
  OpenClaim.holds_of_wide 4 Try.f4 rfl rfl rfl rfl rfl rfl rfl ⟨rfl, rfl, rfl, rfl, rfl⟩ rfl rfl rfl rfl rfl (by kernel_rfl) Try.func4 (by kernel_rfl)
    (of_decide_eq_true (by kernel_rfl)) (by unfold Func.isWrapper; first | (rw [if_pos (by decide +kernel)]; kernel_rfl) | (rw [if_neg (by decide +kernel)]; exact ⟨rfl, rfl⟩))
    (fun os started H enc _ => sweepTurn_lifted os started H enc)
end Go.Proofs.Ytelmfccpcejdnaa
