/- TopPhases is proved: for every list of requests and every number of slots, in whatever memory and on every schedule, it returns true and leaves its argument as it was: a phase is a phase for all. No condition. -/
import Derived.Test.YtldeonnbpfkmoaaPhase
import Derived.Test.YtldeonnbpfkmoaaFaults
import Derived.Test.YtldeonnbpfkmoaaOptAny
import Derived.Test.YtldeonnbpfkmoaaInts
import Derived.Test.YtldeonnbpfkmoaaLawkit
namespace Go.Proofs.Ytldeonnbpfkmoaa
open Go.ChangeShapes Go.WideShapes Go.ChangeAt Go.RowKit Go.Sort

def tpL : List Int := [1, 2, 3]
theorem tp_c : chk tpL 2 = 0 := by decide
theorem tp_l : phaseL tpL 2 = [0, 2] := by rw [phaseL_ok tp_c]; decide
theorem nph_least {l : List Int} {n : Nat} (h1 : 1 ≤ n) (hc : chk l n = 0) : nph n l l.length ≤ mc (ohit n l) l.length := by
  have := phase_least (s := n) (l := l) h1 (sched_opt h1 (chk_pages hc))
  rwa [hits_opt] at this
theorem few_of {l : List Int} {n : Nat} (h1 : 1 ≤ n) {f : Nat → Bool} (hf : FewIn n l f) : mc f l.length ≤ nph n l l.length * n := by
  have := few_all h1 hf l.length l.length (Nat.le_refl _) (Nat.le_refl _)
  rwa [Nat.mul_comm] at this

set_option maxHeartbeats 2000000 in
set_option maxRecDepth 100000 in
theorem topPhases_any (v : Value) (l : List Int) (s : Int) (w : World) (hv : IsInts w v l) (hform : ∃ ao cap, v = .slice ao l.length cap) :
    Calls Try.prog 7 #[v, .int .i64 s] w fun e w' => e = .returned (.bool true) ∧ Below w.heap.size w w' := by
  have HV : Hid (IsInts w v l) := hv
  obtain ⟨ao, cap, rfl⟩ := hform
  clear hv
  have H1 : Hid (IsInts (w.alloc (.cells #[.int .i64 1, .int .i64 2, .int .i64 3] 3)) (.slice (some ⟨w.heap.size, 0, none⟩) 3 3) tpL) :=
    isInts_new (l := tpL) (t := 3) (cur := #[.int .i64 1, .int .i64 2, .int .i64 3]) rfl (by decide) (heap_alloc_new _ _)
  go_enter Try.func7, Try.ntmps7
  go_wp2_with (go_at_call 10; fail)
  refine (phase_any _ tpL 2 _ H1.out).mono ?_
  rintro e w0 ⟨vh, rfl, hO, hb⟩
  rw [tp_c, show errV 0 = .nilIface from rfl]
  rw [tp_l] at hO
  have HBW : Hid (Below w.heap.size w w0) := ((Below.refl w.heap.size w).alloc (Nat.le_refl _) _).trans (hb.mono (by simp))
  have HL : Hid (IsInts (w0.alloc (.cells #[.int .i64 0, .int .i64 2] 3)) vh [0, 2]) := hO.isInts.below ((Below.refl _ _).alloc (Nat.le_refl _) _)
  have HN : Hid (IsInts (w0.alloc (.cells #[.int .i64 0, .int .i64 2] 3)) (.slice (some ⟨w0.heap.size, 0, none⟩) 2 2) [0, 2]) :=
    isInts_new (l := [0, 2]) (t := 3) (cur := #[.int .i64 0, .int .i64 2]) rfl (by decide) (heap_alloc_new _ _)
  have hbs : w.heap.size ≤ w0.heap.size := HBW.out.size
  clear hO hb H1
  go_wp2_with (first | (go_at_call 18; go_must (refine (ints_same _ _ [0, 2] _ HL.out HN.out).mono ?_; rintro e w' ⟨rfl, q, rfl⟩)) | (go_at_call 10; fail))
  have HB0 : Hid (Below w.heap.size w ((w0.alloc (.cells #[.int .i64 0, .int .i64 2] 3)).drewN q)) := below_drewN (HBW.out.alloc hbs _) _
  clear HL HN HBW hbs
  generalize (w0.alloc (.cells #[.int .i64 0, .int .i64 2] 3)).drewN q = w1 at *
  refine (phase_any _ l s _ (HV.out.below HB0.out)).mono ?_
  rintro e w2 ⟨vs, rfl, hO, hb2⟩
  have HB2 : Hid (Below w.heap.size w w2) := HB0.out.trans (hb2.mono HB0.out.size)
  obtain ⟨av, cv, hvs⟩ := hO.form
  subst hvs
  clear hO hb2 HB0
  go_wp2_with (go_at_call 19; fail)
  refine (lru_any _ l s _ (HV.out.below HB2.out)).mono ?_
  rintro e w3 ⟨va, _, rfl, hA, _, hb3⟩
  have HB3 : Hid (Below w.heap.size w w3) := HB2.out.trans (hb3.mono HB2.out.size)
  have HA3 : Hid (IsBools w3 va (lruB l s)) := hA.isBools
  clear hA hb3 HB2
  go_wp2_with (go_at_call 20; fail)
  refine (fifo_any _ l s _ (HV.out.below HB3.out)).mono ?_
  rintro e w4 ⟨vb, _, rfl, hB, _, hb4⟩
  have HB4 : Hid (Below w.heap.size w w4) := HB3.out.trans (hb4.mono HB3.out.size)
  have HA4 : Hid (IsBools w4 va (lruB l s)) := HA3.out.below hb4
  have HF4 : Hid (IsBools w4 vb (fifoB l s)) := hB.isBools
  clear hB hb4 HB3 HA3
  go_wp2_with (go_at_call 21; fail)
  refine (clock_any _ l s _ (HV.out.below HB4.out)).mono ?_
  rintro e w5 ⟨vc, _, rfl, hC, _, hb5⟩
  have HB5 : Hid (Below w.heap.size w w5) := HB4.out.trans (hb5.mono HB4.out.size)
  have HA5 : Hid (IsBools w5 va (lruB l s)) := HA4.out.below hb5
  have HF5 : Hid (IsBools w5 vb (fifoB l s)) := HF4.out.below hb5
  have HC5 : Hid (IsBools w5 vc (clockB l s)) := hC.isBools
  clear hC hb5 HB4 HA4 HF4
  go_wp2_with (go_at_call 16; fail)
  refine (opt_any _ l s _ (HV.out.below HB5.out)).mono ?_
  rintro e w6 ⟨vd, _, _, rfl, hD, _, _, hb6⟩
  have HB6 : Hid (Below w.heap.size w w6) := HB5.out.trans (hb6.mono HB5.out.size)
  have HA6 : Hid (IsBools w6 va (lruB l s)) := HA5.out.below hb6
  have HF6 : Hid (IsBools w6 vb (fifoB l s)) := HF5.out.below hb6
  have HC6 : Hid (IsBools w6 vc (clockB l s)) := HC5.out.below hb6
  have HD6 : Hid (IsBools w6 vd (optB l s)) := hD.isBools
  clear hD hb6 HB5 HA5 HF5 HC5 HV
  by_cases hc : chk l s = 0
  · obtain ⟨h40, h1, h8⟩ := chk_zero hc
    obtain ⟨n, rfl⟩ : ∃ n : Nat, s = n := ⟨s.toNat, by omega⟩
    have hn1 : 1 ≤ n := by omega
    have hm : (phaseL l (n : Int)).length = nph n l l.length := by rw [phaseL_ok hc, Int.toNat_natCast]; rfl
    have HMA : Hid (missed (lruB l (n : Int)) (lruB l (n : Int)).length = mc (hitAt n l) l.length) := by unfold Hid; rw [lruB_ok hc, Int.toNat_natCast]; exact missed_mc _ _
    have HMB : Hid (missed (fifoB l (n : Int)) (fifoB l (n : Int)).length = mc (fhit n l) l.length) := by unfold Hid; rw [fifoB_ok hc, Int.toNat_natCast]; exact missed_mc _ _
    have HMC : Hid (missed (clockB l (n : Int)) (clockB l (n : Int)).length = mc (chit n l) l.length) := by unfold Hid; rw [clockB_ok hc, Int.toNat_natCast]; exact missed_mc _ _
    have HMD : Hid (missed (optB l (n : Int)) (optB l (n : Int)).length = mc (ohit n l) l.length) := by unfold Hid; rw [optB_ok hc, Int.toNat_natCast]; exact missed_mc _ _
    have f1 := few_of hn1 (few_lru hn1 l)
    have f2 := few_of hn1 (few_fifo hn1 l)
    have f3 := few_of hn1 (few_clock hn1 l)
    have f4 := nph_least hn1 hc
    have hm40 : nph n l l.length ≤ l.length := starts_le n l l.length
    have hx4 := mc_le (ohit n l) l.length
    rw [hm, hc, show errV 0 = .nilIface from rfl]
    clear hm hc
    generalize mc (hitAt n l) l.length = x1 at *
    generalize mc (fhit n l) l.length = x2 at *
    generalize mc (chit n l) l.length = x3 at *
    generalize mc (ohit n l) l.length = x4 at *
    generalize nph n l l.length = m at *
    have hwr : IntKind.i64.wrap ((m : Int) * (n : Int)) = ((m * n : Nat) : Int) := by
      have : m * n ≤ 40 * 8 := Nat.mul_le_mul (by omega) (by omega)
      rw [← Int.natCast_mul, IntKind.wrap_i64]; omega
    generalize m * n = p at *
    have g1 : (x1 : Int) ≤ (p : Int) := by omega
    have g2 : (x2 : Int) ≤ (p : Int) := by omega
    have g3 : (x3 : Int) ≤ (p : Int) := by omega
    have g4 : (m : Int) ≤ (x4 : Int) := by omega
    go_wp2_with (first | (go_at_call_of 17 va; go_must (refine (misses_is HA6.out HMA.out _ (by rfl)).mono ?_; rintro e w' ⟨rfl, hw⟩; have hw := hw.symm; subst hw)) | (go_at_call_of 17 vb; go_must (refine (misses_is HF6.out HMB.out _ (by rfl)).mono ?_; rintro e w' ⟨rfl, hw⟩; have hw := hw.symm; subst hw)) | (go_at_call_of 17 vc; go_must (refine (misses_is HC6.out HMC.out _ (by rfl)).mono ?_; rintro e w' ⟨rfl, hw⟩; have hw := hw.symm; subst hw)) | (go_at_call_of 17 vd; go_must (refine (misses_is HD6.out HMD.out _ (by rfl)).mono ?_; rintro e w' ⟨rfl, hw⟩; have hw := hw.symm; subst hw)))
    go_ret
    exact ⟨rfl, HB6.out⟩
  · rw [errV_pos hc]
    clear hc
    go_wp2
    go_ret
    exact ⟨rfl, HB6.out⟩

theorem topPhases_own : ownKnob Try.prog.godebug = none := by kernel_rfl
theorem topPhases_laidOut : laidOutB Try.prog = true := by kernel_rfl

set_option maxRecDepth 100000 in
theorem topPhases_lifted (os : Os) (started : os.Started) (H : Type) (enc : TypeId × Value → H) :
    ReturnsInHanded {} Try.checked os 7 .any (Rows.topPhasesSpec.pre6 enc Try.prog Try.f7 Rows.topPhasesRow.domain false) (Rows.topPhasesSpec.post enc Try.prog Try.f7 false true false false) := by
  refine returnsInHanded_of_change (C := Try.checked) topPhases_own started (by kernel_rfl) Try.func7
    (ChangeSpec.witness6 (enc := enc) (C := Try.checked) false ⟨#[], #[.slice none 0 0, .int .i64 0], []⟩ 8 (by kernel_rfl) (by kernel_rfl) (by kernel_rfl) (by kernel_rfl)) ?_
  intro W base args ds gs before hval0 hW _ _
  have hval : ∀ (j : Nat) t v, Try.f7.params[j]? = some t → args[j]? = some v → Value.okWide Try.prog W .any base t v := hval0
  have hW' : DataW.Whole enc Try.prog Try.f7.params.toList Rows.topPhasesSpec.vars false W args.toList ds gs before := hW
  obtain ⟨p, q, hA0, hV, rfl, hfz, hnd⟩ := hW
  have hA : DataW.TrodAll enc Try.prog W 0 (fun _ => true) true Try.f7.params.toList args.toList ds p := hA0
  rw [Try.params7] at hA hval
  obtain ⟨v0, vs0, d0, ds0, p0, q0, hargs, rfl, rfl, h0, r0⟩ := trodAll_cons hA
  obtain ⟨v1, vs1, d1, ds1, p1, q1, rfl, rfl, rfl, h1, r1⟩ := trodAll_cons r0
  obtain ⟨rfl, rfl, rfl⟩ := trodAll_nil r1
  obtain rfl : args = #[v0, v1] := by cases args; simp_all
  obtain ⟨rfl, rfl⟩ := trodVars_none hV
  obtain ⟨n1, rfl, rfl, rfl, wn1⟩ := open_int Try.underlying3 (hval 1 3 v1 rfl rfl) h1
  obtain ⟨l0, ao0, cap0, hv0, hl0⟩ := arg_ints Try.underlying22 Try.underlying3 (by kernel_rfl) (hval 0 22 v0 rfl rfl) h0
  clear hA0 hval0
  refine (topPhases_any v0 l0 n1 W hl0 ⟨ao0, cap0, hv0⟩).mono fun e W' ⟨he, hb⟩ => ?_
  subst he
  exact ⟨_, rfl, law_post hW' hb topPhases_laidOut rfl (by kernel_rfl) (by kernel_rfl) Try.underlying4 rfl rfl rfl⟩

theorem topPhases_holds : Rows.TopPhasesSaid :=
  OpenClaim.holds_of_wide 7 Try.f7 rfl rfl rfl rfl rfl rfl rfl ⟨rfl, rfl, rfl, rfl, rfl⟩ rfl rfl rfl rfl rfl (by kernel_rfl) Try.func7 (by kernel_rfl)
    (of_decide_eq_true (by kernel_rfl)) (by unfold Func.isWrapper; first | (rw [if_pos (by decide +kernel)]; kernel_rfl) | (rw [if_neg (by decide +kernel)]; exact ⟨rfl, rfl⟩))
    (fun os started H enc _ => topPhases_lifted os started H enc)
end Go.Proofs.Ytldeonnbpfkmoaa
