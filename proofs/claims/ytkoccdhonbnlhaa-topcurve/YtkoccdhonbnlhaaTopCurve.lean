/- TopCurve is proved: for every list of requests and every number of slots, in whatever memory and on every schedule, it returns true and leaves its argument as it was: the best curve lies below. No condition. -/
import Derived.Test.YtkoccdhonbnlhaaCurve
import Derived.Test.YtkoccdhonbnlhaaDepthL
import Derived.Test.YtkoccdhonbnlhaaOptAny
import Derived.Test.YtkoccdhonbnlhaaFlush
import Derived.Test.YtkoccdhonbnlhaaMissIs
import Derived.Test.YtkoccdhonbnlhaaSomeIs
import Derived.Test.YtkoccdhonbnlhaaTopIn
import Derived.Test.YtkoccdhonbnlhaaLawkit
namespace Go.Proofs.Ytkoccdhonbnlhaa
open Go.ChangeShapes Go.WideShapes Go.ChangeAt Go.RowKit Go.Sort

def topL : List Int := [1, 2, 1]
theorem top_c : chk topL 8 = 0 := by decide
theorem top_0 : deeper topL 1 topL.length = 3 := by decide
theorem top_1 : deeper topL 2 topL.length = 2 := by decide
theorem inside_is {n lo hi : Int} {r : Bool} (hr : inside n lo hi = r) (w : World) : Calls Try.prog 15 #[.int .i64 n, .int .i64 lo, .int .i64 hi] w fun e w' => e = .returned (.bool r) ∧ w' = w := by
  have := inside_any n lo hi w
  rwa [hr] at this

set_option maxHeartbeats 2000000 in
theorem topCurve_any (v : Value) (l : List Int) (s : Int) (w : World) (hv : IsInts w v l) (hform : ∃ ao cap, v = .slice ao l.length cap) :
    Calls Try.prog 5 #[v, .int .i64 s] w fun e w' => e = .returned (.bool true) ∧ Below w.heap.size w w' := by
  have HV : Hid (IsInts w v l) := hv
  obtain ⟨ao, cap, rfl⟩ := hform
  clear hv
  have H1 : Hid (IsInts (w.alloc (.cells #[.int .i64 1, .int .i64 2, .int .i64 1] 3)) (.slice (some ⟨w.heap.size, 0, none⟩) 3 3) topL) :=
    isInts_new (l := topL) (t := 3) (cur := #[.int .i64 1, .int .i64 2, .int .i64 1]) rfl (by decide) (heap_alloc_new _ _)
  go_enter Try.func5, Try.ntmps5
  go_wp2_with (go_at_call 7; fail)
  refine (curve_any _ topL _ H1.out).mono ?_
  rintro e w1 ⟨vt, rfl, hO1, hb1⟩
  rw [top_c, show errV 0 = .nilIface from rfl]
  rw [stkC_ok top_c] at hO1
  have HB1 : Hid (Below w.heap.size w w1) := ((Below.refl w.heap.size w).alloc (Nat.le_refl _) _).trans (hb1.mono (by simp))
  obtain ⟨g1, mc1, rfl, hm1, hmm1, hM1⟩ := curve_cells hO1
  have hx0 : w1.cell? ⟨g1, 0, none⟩ = some (.int .i64 3) := by have := hM1 0 (by omega); rwa [top_0] at this
  have hx1 : w1.cell? ⟨g1, 1, none⟩ = some (.int .i64 2) := by have := hM1 1 (by omega); rwa [top_1] at this
  unfold maxLen at hmm1
  clear hO1 hb1 hM1 H1
  go_wp2_with (go_at_call 7; fail)
  refine (curve_any _ l _ (HV.out.below HB1.out)).mono ?_
  rintro e w2 ⟨vm, rfl, hO2, hb2⟩
  have HB2 : Hid (Below w.heap.size w w2) := HB1.out.trans (hb2.mono HB1.out.size)
  have HO2 : Hid (OwnI w2 w1.heap.size vm (stkC l)) := hO2
  clear hO2 hb2 hx0 hx1
  go_wp2_with (go_at_call 13; fail)
  refine (opt_any _ l s _ (HV.out.below HB2.out)).mono ?_
  rintro e w3 ⟨va, _, _, rfl, hA, _, _, hb3⟩
  have HB3 : Hid (Below w.heap.size w w3) := HB2.out.trans (hb3.mono HB2.out.size)
  have HO3 : Hid (OwnI w3 w1.heap.size vm (stkC l)) := HO2.out.later hb3
  have HA3 : Hid (IsBools w3 va (optB l s)) := hA.isBools
  clear hA hb3 HO2
  go_wp2_with (go_at_call 14; fail)
  refine (flush_any _ l s _ (HV.out.below HB3.out)).mono ?_
  rintro e w4 ⟨vb, _, rfl, hB, _, hb4⟩
  have HB4 : Hid (Below w.heap.size w w4) := HB3.out.trans (hb4.mono HB3.out.size)
  have HO4 : Hid (OwnI w4 w1.heap.size vm (stkC l)) := HO3.out.later hb4
  have HA4 : Hid (IsBools w4 va (optB l s)) := HA3.out.below hb4
  have HB4b : Hid (IsBools w4 vb (flushB l s)) := hB.isBools
  have HV4 : Hid (IsInts w4 (.slice ao l.length cap) l) := HV.out.below HB4.out
  clear hB hb4 HO3 HA3
  by_cases hc : chk l s = 0
  · obtain ⟨h40, h1, h8⟩ := chk_zero hc
    have hc8 := chk_less hc
    have HPG : Hid (inPages l) := chk_pages hc
    obtain ⟨n, rfl⟩ : ∃ n : Nat, s = n := ⟨s.toNat, by omega⟩
    obtain ⟨m, hm⟩ : ∃ m : Nat, n = m + 1 := ⟨n - 1, by omega⟩
    have hA := HA4.out
    rw [optB_ok hc, Int.toNat_natCast] at hA
    have hB := HB4b.out
    rw [flushB_ok hc, Int.toNat_natCast] at hB
    have hO := HO4.out
    rw [stkC_ok hc8] at hO
    obtain ⟨g, mcp, rfl, hm8, hmm, hM⟩ := curve_cells hO
    have hmc := hM m (by omega)
    rw [← hm] at hmc
    have hsub : IntKind.i64.wrap ((n : Int) - 1) = (m : Int) := by rw [IntKind.wrap_i64]; omega
    have hm7 : m < 8 := by omega
    unfold maxLen at hmm
    rw [hc, hc8, show errV 0 = .nilIface from rfl]
    have HIN : Hid (inside (n : Int) 1 8 = true) := by unfold Hid inside; simp; omega
    have HAq : Hid (IsBools w4 va (marks (ohit n l) l.length)) := hA
    have HBq : Hid (IsBools w4 vb (marks (ehit n l) l.length)) := hB
    have H12 : Hid (omiss n l ≤ deeper l n l.length) := omiss_deeper (by omega) HPG.out
    have H23 : Hid (deeper l n l.length ≤ missed (marks (ehit n l) l.length) (marks (ehit n l) l.length).length) := deeper_flush (by omega)
    have H01 : Hid (firsts l l.length ≤ omiss n l) := omiss_firsts (by omega) HPG.out
    have HMA : Hid (missed (marks (ohit n l) l.length) (marks (ohit n l) l.length).length = omiss n l) := rfl
    clear hA hB hO hM hm hc hc8 HO4 HA4 HB4b
    generalize omiss n l = xa at *
    generalize hxb : missed (marks (ehit n l) l.length) (marks (ehit n l) l.length).length = xb at *
    have HMB : Hid (missed (marks (ehit n l) l.length) (marks (ehit n l) l.length).length = xb) := hxb
    generalize deeper l n l.length = d at *
    generalize hf : firsts l l.length = f at *
    have HFE : Hid (firsts l l.length = f) := hf
    clear hxb hf
    have h12 : (xa : Int) ≤ (d : Int) := by have := H12.out; omega
    have h23 : (d : Int) ≤ (xb : Int) := by have := H23.out; omega
    have h01 : (f : Int) ≤ (xa : Int) := by have := H01.out; omega
    go_wp2
    go_quiet (first | (go_at_call 15; exact Calls.quiet_of_same (inside_is HIN.out _)) | (go_at_call_of 11 va; exact Calls.quiet_of_same (misses_is HAq.out HMA.out _ (by rfl))) | (go_at_call_of 11 vb; exact Calls.quiet_of_same (misses_is HBq.out HMB.out _ (by rfl))) | (go_at_call 12; exact Calls.quiet_of (some_is HV4.out HFE.out _ (by rfl))))
    go_wp2
    go_ret
    exact ⟨rfl, below_drewN HB4.out _⟩
  · have HE : Hid (errV (chk l s) = .iface 46 (.int .i64 (chk l s))) := errV_pos hc
    clear hc
    generalize chk l s = c at *
    rw [HE.out]
    rcases errV_cases (chk l 8) with h | ⟨k, h⟩
    · rw [h]
      clear h
      go_wp2
      go_ret
      exact ⟨rfl, HB4.out⟩
    · rw [h]
      clear h
      go_wp2
      go_ret
      exact ⟨rfl, HB4.out⟩

theorem topCurve_own : ownKnob Try.prog.godebug = none := by kernel_rfl
theorem topCurve_laidOut : laidOutB Try.prog = true := by kernel_rfl

set_option maxRecDepth 100000 in
theorem topCurve_lifted (os : Os) (started : os.Started) (H : Type) (enc : TypeId × Value → H) :
    ReturnsInHanded {} Try.checked os 5 .any (Rows.topCurveSpec.pre6 enc Try.prog Try.f5 Rows.topCurveRow.domain false) (Rows.topCurveSpec.post enc Try.prog Try.f5 false true false false) := by
  refine returnsInHanded_of_change (C := Try.checked) topCurve_own started (by kernel_rfl) Try.func5
    (ChangeSpec.witness6 (enc := enc) (C := Try.checked) false ⟨#[], #[.slice none 0 0, .int .i64 0], []⟩ 8 (by kernel_rfl) (by kernel_rfl) (by kernel_rfl) (by kernel_rfl)) ?_
  intro W base args ds gs before hval0 hW _ _
  have hval : ∀ (j : Nat) t v, Try.f5.params[j]? = some t → args[j]? = some v → Value.okWide Try.prog W .any base t v := hval0
  have hW' : DataW.Whole enc Try.prog Try.f5.params.toList Rows.topCurveSpec.vars false W args.toList ds gs before := hW
  obtain ⟨p, q, hA0, hV, rfl, hfz, hnd⟩ := hW
  have hA : DataW.TrodAll enc Try.prog W 0 (fun _ => true) true Try.f5.params.toList args.toList ds p := hA0
  rw [Try.params5] at hA hval
  obtain ⟨v0, vs0, d0, ds0, p0, q0, hargs, rfl, rfl, h0, r0⟩ := trodAll_cons hA
  obtain ⟨v1, vs1, d1, ds1, p1, q1, rfl, rfl, rfl, h1, r1⟩ := trodAll_cons r0
  obtain ⟨rfl, rfl, rfl⟩ := trodAll_nil r1
  obtain rfl : args = #[v0, v1] := by cases args; simp_all
  obtain ⟨rfl, rfl⟩ := trodVars_none hV
  obtain ⟨n1, rfl, rfl, rfl, wn1⟩ := open_int Try.underlying3 (hval 1 3 v1 rfl rfl) h1
  obtain ⟨l0, ao0, cap0, hv0, hl0⟩ := arg_ints Try.underlying22 Try.underlying3 (by kernel_rfl) (hval 0 22 v0 rfl rfl) h0
  clear hA0 hval0
  refine (topCurve_any v0 l0 n1 W hl0 ⟨ao0, cap0, hv0⟩).mono fun e W' ⟨he, hb⟩ => ?_
  subst he
  exact ⟨_, rfl, law_post hW' hb topCurve_laidOut rfl (by kernel_rfl) (by kernel_rfl) Try.underlying4 rfl rfl rfl⟩

theorem topCurve_holds : Rows.TopCurveSaid :=
  OpenClaim.holds_of_wide 5 Try.f5 rfl rfl rfl rfl rfl rfl rfl ⟨rfl, rfl, rfl, rfl, rfl⟩ rfl rfl rfl rfl rfl (by kernel_rfl) Try.func5 (by kernel_rfl)
    (of_decide_eq_true (by kernel_rfl)) (by unfold Func.isWrapper; first | (rw [if_pos (by decide +kernel)]; kernel_rfl) | (rw [if_neg (by decide +kernel)]; exact ⟨rfl, rfl⟩))
    (fun os started H enc _ => topCurve_lifted os started H enc)
end Go.Proofs.Ytkoccdhonbnlhaa
