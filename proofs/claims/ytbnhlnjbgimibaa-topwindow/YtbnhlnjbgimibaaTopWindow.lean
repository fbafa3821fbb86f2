/- TopWindow is proved: for every list of requests and every window, in whatever memory and on every schedule, it returns true and leaves its argument as it was: a window is a store. No condition. -/
import Derived.Test.YtbnhlnjbgimibaaWset
import Derived.Test.YtbnhlnjbgimibaaLru
import Derived.Test.YtbnhlnjbgimibaaMissIs
import Derived.Test.YtbnhlnjbgimibaaLawkit
namespace Go.Proofs.Ytbnhlnjbgimibaa
open Go.ChangeShapes Go.WideShapes Go.ChangeAt Go.RowKit Go.Sort

def twL : List Int := [1, 1]
theorem tw_c : wchk twL 1 = 0 := by decide
theorem tw_n : wsN twL 1 = 1 := by rw [wsN_ok tw_c]; decide
theorem tw_s : wsS twL 1 = 2 := by rw [wsS_ok tw_c]; decide
theorem lru_wset {l : List Int} {s : Int} (h : chk l s = 0) (hw : wchk l s = 0) : missed (lruB l s) (lruB l s).length ≤ wsN l s := by
  rw [lruB_ok h, wsN_ok hw]
  have e : missed (hits s.toNat l l.length) (hits s.toNat l l.length).length = mc (hitAt s.toNat l) l.length := missed_mc _ _
  have := window_misses (w := s.toNat) (l := l) (Nat.le_refl l.length)
  omega

set_option maxHeartbeats 2000000 in
theorem topWindow_any (v : Value) (l : List Int) (s : Int) (w : World) (hv : IsInts w v l) (hform : ∃ ao cap, v = .slice ao l.length cap) :
    Calls Try.prog 6 #[v, .int .i64 s] w fun e w' => e = .returned (.bool true) ∧ Below w.heap.size w w' := by
  have HV : Hid (IsInts w v l) := hv
  obtain ⟨ao, cap, rfl⟩ := hform
  clear hv
  have H1 : Hid (IsInts (w.alloc (.cells #[.int .i64 1, .int .i64 1] 3)) (.slice (some ⟨w.heap.size, 0, none⟩) 2 2) twL) :=
    isInts_new (l := twL) (t := 3) (cur := #[.int .i64 1, .int .i64 1]) rfl (by decide) (heap_alloc_new _ _)
  go_enter Try.func6, Try.ntmps6
  go_wp2_with (go_at_call 9; fail)
  refine (miss_any _ twL 1 _ H1.out).mono ?_
  rintro e w0 ⟨rfl, hb⟩
  rw [tw_c, tw_n, tw_s, show errV 0 = .nilIface from rfl]
  have HB0 : Hid (Below w.heap.size w w0) := ((Below.refl w.heap.size w).alloc (Nat.le_refl _) _).trans (hb.mono (by simp))
  clear hb H1
  go_wp2_with (go_at_call 9; fail)
  refine (miss_any _ l s _ (HV.out.below HB0.out)).mono ?_
  rintro e w1 ⟨rfl, hb⟩
  have HB1 : Hid (Below w.heap.size w w1) := HB0.out.trans (hb.mono HB0.out.size)
  clear hb HB0
  go_wp2_with (go_at_call 13; fail)
  refine (lru_any _ l s _ (HV.out.below HB1.out)).mono ?_
  rintro e w2 ⟨va, vh, rfl, hA, _, hb⟩
  have HB2 : Hid (Below w.heap.size w w2) := HB1.out.trans (hb.mono HB1.out.size)
  have HA2 : Hid (IsBools w2 va (lruB l s)) := hA.isBools
  clear hA hb HB1 HV
  by_cases hw : wchk l s = 0
  · rw [hw, show errV 0 = .nilIface from rfl]
    by_cases hc : chk l s = 0
    · have HLE := lru_wset hc hw
      rw [hc, show errV 0 = .nilIface from rfl]
      clear hc hw
      generalize wsN l s = k at *
      generalize wsS l s = x at *
      generalize hm : missed (lruB l s) (lruB l s).length = m at *
      have HM : Hid (missed (lruB l s) (lruB l s).length = m) := hm
      clear hm
      have hle : (m : Int) ≤ (k : Int) := by omega
      go_wp2_with (go_at_call 14; fail)
      refine (misses_is HA2.out HM.out _ (by rfl)).mono ?_
      rintro e w3 ⟨rfl, hw3⟩
      have hw3 := hw3.symm
      subst hw3
      go_wp2
      go_ret
      exact ⟨rfl, HB2.out⟩
    · rw [errV_pos hc]
      generalize chk l s = c at *
      generalize wsN l s = k at *
      generalize wsS l s = x at *
      clear hc hw
      go_wp2
      go_ret
      exact ⟨rfl, HB2.out⟩
  · rw [errV_pos hw]
    generalize errV (chk l s) = ev at *
    generalize wchk l s = c at *
    generalize wsN l s = k at *
    generalize wsS l s = x at *
    clear hw
    go_wp2
    go_ret
    exact ⟨rfl, HB2.out⟩

theorem topWindow_own : ownKnob Try.prog.godebug = none := by kernel_rfl
theorem topWindow_laidOut : laidOutB Try.prog = true := by kernel_rfl

set_option maxRecDepth 100000 in
theorem topWindow_lifted (os : Os) (started : os.Started) (H : Type) (enc : TypeId × Value → H) :
    ReturnsInHanded {} Try.checked os 6 .any (Rows.topWindowSpec.pre6 enc Try.prog Try.f6 Rows.topWindowRow.domain false) (Rows.topWindowSpec.post enc Try.prog Try.f6 false true false false) := by
  refine returnsInHanded_of_change (C := Try.checked) topWindow_own started (by kernel_rfl) Try.func6
    (ChangeSpec.witness6 (enc := enc) (C := Try.checked) false ⟨#[], #[.slice none 0 0, .int .i64 0], []⟩ 8 (by kernel_rfl) (by kernel_rfl) (by kernel_rfl) (by kernel_rfl)) ?_
  intro W base args ds gs before hval0 hW _ _
  have hval : ∀ (j : Nat) t v, Try.f6.params[j]? = some t → args[j]? = some v → Value.okWide Try.prog W .any base t v := hval0
  have hW' : DataW.Whole enc Try.prog Try.f6.params.toList Rows.topWindowSpec.vars false W args.toList ds gs before := hW
  obtain ⟨p, q, hA0, hV, rfl, hfz, hnd⟩ := hW
  have hA : DataW.TrodAll enc Try.prog W 0 (fun _ => true) true Try.f6.params.toList args.toList ds p := hA0
  rw [Try.params6] at hA hval
  obtain ⟨v0, vs0, d0, ds0, p0, q0, hargs, rfl, rfl, h0, r0⟩ := trodAll_cons hA
  obtain ⟨v1, vs1, d1, ds1, p1, q1, rfl, rfl, rfl, h1, r1⟩ := trodAll_cons r0
  obtain ⟨rfl, rfl, rfl⟩ := trodAll_nil r1
  obtain rfl : args = #[v0, v1] := by cases args; simp_all
  obtain ⟨rfl, rfl⟩ := trodVars_none hV
  obtain ⟨n1, rfl, rfl, rfl, wn1⟩ := open_int Try.underlying3 (hval 1 3 v1 rfl rfl) h1
  obtain ⟨l0, ao0, cap0, hv0, hl0⟩ := arg_ints Try.underlying22 Try.underlying3 (by kernel_rfl) (hval 0 22 v0 rfl rfl) h0
  clear hA0 hval0
  refine (topWindow_any v0 l0 n1 W hl0 ⟨ao0, cap0, hv0⟩).mono fun e W' ⟨he, hb⟩ => ?_
  subst he
  exact ⟨_, rfl, law_post hW' hb topWindow_laidOut rfl (by kernel_rfl) (by kernel_rfl) Try.underlying4 rfl rfl rfl⟩

theorem topWindow_holds : Rows.TopWindowSaid :=
  OpenClaim.holds_of_wide 6 Try.f6 rfl rfl rfl rfl rfl rfl rfl ⟨rfl, rfl, rfl, rfl, rfl⟩ rfl rfl rfl rfl rfl (by kernel_rfl) Try.func6 (by kernel_rfl)
    (of_decide_eq_true (by kernel_rfl)) (by unfold Func.isWrapper; first | (rw [if_pos (by decide +kernel)]; kernel_rfl) | (rw [if_neg (by decide +kernel)]; exact ⟨rfl, rfl⟩))
    (fun os started H enc _ => topWindow_lifted os started H enc)
end Go.Proofs.Ytbnhlnjbgimibaa
