/- CountSafe is proved: whatever is done, in whatever memory and on every schedule, it returns true and leaves its argument as it was: what can be come to is here, and where there are no rings nothing else is. No condition. -/
import Derived.Test.YtmibnceadciidaaCRun
import Derived.Test.YtmibnceadciidaaCHeapP
import Derived.Test.YtmibnceadciidaaCLaw
import Derived.Test.YtmibnceadciidaaRBit
import Derived.Test.YtmibnceadciidaaArgHeap
namespace Go.Proofs.Ytmibnceadciidaa
set_option maxRecDepth 100000
open Go.ChangeShapes Go.WideShapes Go.ChangeAt Go.RowKit Go.Sort

set_option maxHeartbeats 4000000 in
theorem csafe_any (v : Value) (L : List (List Int)) (w : World) (hv : IsRows w v L) :
    Calls Try.prog 4 #[v] w fun e w' => e = .returned (.bool true) ∧ Below w.heap.size w w' := by
  have HV : Hid (IsRows w v L) := hv
  clear hv
  go_enter Try.func4, Try.ntmps4
  go_wp2_with (go_at_call 7; fail)
  refine (cfact_any _).mono ?_
  rintro e w1 ⟨rfl, hb1⟩
  have HB1 : Hid (Below w.heap.size w w1) := hb1
  clear hb1
  go_wp2_with (go_at_call 8; fail)
  refine (counted_any v L _ (HV.out.below HB1.out)).mono ?_
  rintro e w2 ⟨a, rfl, S, h2⟩
  have H2 : Hid (Obj w1 w2 S a (cntK L)) := h2
  clear h2
  generalize cntK L = c at *
  go_wp2_with (go_at_call 9; fail)
  refine (heapP_any S a c _ H2.out.heap H2.out.good.mid).mono ?_
  rintro e w3 ⟨ao, co, ar, cr, rfl, h3, h4, hb3⟩
  have H3 : Hid (Obj w1 w3 S a c) := H2.out.later hb3
  have HB : Hid (Boxed w3 (w3.alloc (.cells #[.slice ao c.outs.length co, .slice ar c.roots.length cr] 28)) w3.heap.size ao co ar cr c.outs c.roots) := boxed h3.isRows h4.isInts _
  have H0 : Hid (chkH c.outs c.roots = 0) := fine_zero H2.out.good
  clear H2 h3 h4 hb3
  go_wp2_with (go_at_call 14; fail)
  generalize (w3.alloc (.cells #[.slice ao c.outs.length co, .slice ar c.roots.length cr] 28)) = w4 at *
  refine (reach_any _ c.outs c.roots _ HB.out.isHeap).mono ?_
  rintro e w5 ⟨⟨n, rfl, hn⟩, hb5⟩
  have HB5 : Hid (Boxed w3 w5 w3.heap.size ao co ar cr c.outs c.roots) := HB.out.later hb5
  unfold ReachIs at hn
  rw [if_pos H0.out] at hn
  have HN : Hid (Comes c.outs c.roots n) := hn
  rw [H0.out, show errV 0 = .nilIface from rfl]
  clear hn HB hb5
  have hd0 : w5.cell? ⟨w3.heap.size, 0, none⟩ = some (.slice ao c.outs.length co) := HB5.out.outs
  have hd1 : w5.cell? ⟨w3.heap.size, 1, none⟩ = some (.slice ar c.roots.length cr) := HB5.out.roots
  go_wp2_with (go_at_call 15; fail)
  refine (rounds_any _ c.outs c.roots _ HB5.out.isHeap).mono ?_
  rintro e w6 ⟨⟨m, rfl, hm⟩, hb6⟩
  have HB6 : Hid (Boxed w3 w6 w3.heap.size ao co ar cr c.outs c.roots) := HB5.out.later hb6
  have H6 : Hid (Obj w1 w6 S a c) := H3.out.later HB6.out.below
  unfold RoundsIs at hm
  rw [if_pos H0.out] at hm
  have HM : Hid (RingsOf c.outs m) := hm
  rw [H0.out, show errV 0 = .nilIface from rfl]
  clear hm HB5 hb6 hd0 hd1 HB6 H3
  have hh16 := here_16 c H6.out.good
  have hn16 : n < 65536 := HN.out.1
  go_wp2_with (go_at_call 10; go_must (refine (hereP_any S a c _ H6.out.heap H6.out.good).mono ?_; rintro e w' ⟨rfl, hw⟩; have hw := hw.symm; subst hw))
  go_loop [11] (fun i => ∃ x : Nat, x ≤ 12 ∧ i = .int .i64 x) (fun i => 12 - (intOf i).toNat)
  case atStart => exact ⟨0, by omega, rfl⟩
  case round =>
    obtain ⟨x, hx, rfl⟩ := hrel
    by_cases hxl : x < 12
    · have hxl' : (x : Int) < 12 := by omega
      cases hb : n.testBit x with
      | true =>
        have HBN : Hid (n.testBit x = true) := hb
        have HBH : Hid ((hereB c).testBit x = true) := here_comes H6.out.good HN.out hxl hb
        clear hb
        go_wp2_with (first | (go_at_call_of 13 (Value.int .i64 (n : Nat)); go_must (refine (rbit_any n x hn16 (by omega) _).mono ?_; rintro e w' ⟨rfl, hw⟩; have hw := hw.symm; subst hw; rw [HBN.out])) | (go_at_call 13; go_must (refine (rbit_any (hereB c) x (by omega) (by omega) _).mono ?_; rintro e w' ⟨rfl, hw⟩; have hw := hw.symm; subst hw; rw [HBH.out])))
        go_round
        case rel => exact ⟨x + 1, by omega, by go_num⟩
        case measure => simp [intOf]; omega
      | false =>
        have HBN : Hid (n.testBit x = false) := hb
        clear hb
        go_wp2_with (go_at_call 13; go_must (refine (rbit_any n x hn16 (by omega) _).mono ?_; rintro e w' ⟨rfl, hw⟩; have hw := hw.symm; subst hw; rw [HBN.out]))
        go_round
        case rel => exact ⟨x + 1, by omega, by go_num⟩
        case measure => simp [intOf]; omega
    · have hxl' : ¬ (x : Int) < 12 := by omega
      by_cases hm0 : m = 0
      · have hnh := here_all H6.out.good HN.out HM.out hm0
        subst hm0
        subst hnh
        go_wp2
        go_ret
        exact ⟨rfl, HB1.out.trans (H6.out.below.mono HB1.out.size)⟩
      · have hm0' : ¬ (m : Int) = 0 := by omega
        go_wp2
        go_ret
        exact ⟨rfl, HB1.out.trans (H6.out.below.mono HB1.out.size)⟩

theorem countSafe_own : ownKnob Try.prog.godebug = none := by kernel_rfl
theorem countSafe_laidOut : laidOutB Try.prog = true := by kernel_rfl

set_option maxRecDepth 100000 in
theorem countSafe_lifted (os : Os) (started : os.Started) (H : Type) (enc : TypeId × Value → H) :
    ReturnsInHanded {} Try.checked os 4 .any (Rows.countSafeSpec.pre6 enc Try.prog Try.f4 Rows.countSafeRow.domain false) (Rows.countSafeSpec.post enc Try.prog Try.f4 false true false false) := by
  refine returnsInHanded_of_change (C := Try.checked) countSafe_own started (by kernel_rfl) Try.func4
    (ChangeSpec.witness6 (enc := enc) (C := Try.checked) false ⟨#[], #[.slice none 0 0], []⟩ 8 (by kernel_rfl) (by kernel_rfl) (by kernel_rfl) (by kernel_rfl)) ?_
  intro W base args ds gs before hval0 hW _ _
  have hval : ∀ (j : Nat) t v, Try.f4.params[j]? = some t → args[j]? = some v → Value.okWide Try.prog W .any base t v := hval0
  have hW' : DataW.Whole enc Try.prog Try.f4.params.toList Rows.countSafeSpec.vars false W args.toList ds gs before := hW
  obtain ⟨p, q, hA0, hV, rfl, hfz, hnd⟩ := hW
  have hA : DataW.TrodAll enc Try.prog W 0 (fun _ => true) true Try.f4.params.toList args.toList ds p := hA0
  rw [Try.params4] at hA hval
  obtain ⟨v0, vs0, d0, ds0, p0, q0, hargs, rfl, rfl, h0, r0⟩ := trodAll_cons hA
  obtain ⟨rfl, rfl, rfl⟩ := trodAll_nil r0
  obtain rfl : args = #[v0] := by cases args; simp_all
  obtain ⟨rfl, rfl⟩ := trodVars_none hV
  obtain ⟨l0, hl0⟩ := arg_rows (hval 0 22 v0 rfl rfl) h0
  clear hA0 hval0
  refine (csafe_any v0 l0 W hl0).mono fun e W' ⟨he, hb⟩ => ?_
  subst he
  exact ⟨_, rfl, law_post hW' hb countSafe_laidOut rfl (by kernel_rfl) (by kernel_rfl) Try.underlying4 rfl rfl rfl⟩

theorem countSafe_holds : Rows.CountSafeSaid :=
  OpenClaim.holds_of_wide 4 Try.f4 rfl rfl rfl rfl rfl rfl rfl ⟨rfl, rfl, rfl, rfl, rfl⟩ rfl rfl rfl rfl rfl (by kernel_rfl) Try.func4 (by kernel_rfl)
    (of_decide_eq_true (by kernel_rfl)) (by unfold Func.isWrapper; first | (rw [if_pos (by decide +kernel)]; kernel_rfl) | (rw [if_neg (by decide +kernel)]; exact ⟨rfl, rfl⟩))
    (fun os started H enc _ => countSafe_lifted os started H enc)
end Go.Proofs.Ytmibnceadciidaa
