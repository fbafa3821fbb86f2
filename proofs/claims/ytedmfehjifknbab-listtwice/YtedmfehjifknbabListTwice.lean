/- ListTwice is proved: for every number of things and every list of requests, in whatever memory and on every schedule, it returns true and leaves its argument as it was: to move to the front costs no more than twice the least, less one for each request. No condition. -/
import Derived.Test.YtedmfehjifknbabListFact
import Derived.Test.YtedmfehjifknbabLawkit
namespace Go.Proofs.Ytedmfehjifknbab
open Go.ChangeShapes Go.WideShapes Go.ChangeAt Go.RowKit Go.Sort

theorem front_most {n : Nat} {l : List Int} (F : FineL (n : Int) l) {f : Nat → Nat} : wayCost f (Un n) l l.length ≤ 160 := by
  have h := way_cost_le (f := f) (Un_nodup n) (thing_in F) l.length (Nat.le_refl _)
  rw [Un_length] at h
  have := Nat.mul_le_mul F.reqs (show n ≤ 4 by have := F.low; omega)
  omega
set_option maxHeartbeats 2000000 in
set_option maxRecDepth 100000 in
theorem twice_any (n : Int) (v : Value) (l : List Int) (w : World) (hv : IsInts w v l) (_ : ∃ ao cap, v = .slice ao l.length cap) :
    Calls Try.prog 3 #[.int .i64 n, v] w fun e w' => e = .returned (.bool true) ∧ Below w.heap.size w w' := by
  have HV : Hid (IsInts w v l) := hv
  obtain ⟨ao, cap, rfl, _⟩ := hv.opened
  clear hv
  go_enter Try.func3, Try.ntmps3
  go_wp2_with (first | (go_at_call 7; go_must (refine (tfact_any _).mono ?_; rintro e w1 ⟨rfl, hb1⟩; have HB1 : Hid (Below w.heap.size w w1) := hb1; clear hb1)) | (go_at_call 8; fail))
  refine (front_any n _ l _ (HV.out.below HB1.out)).mono ?_
  rintro e w2 ⟨vr, rfl, _, hb2⟩
  have HB2 : Hid (Below w.heap.size w w2) := HB1.out.trans (hb2.mono HB1.out.size)
  clear hb2 HB1
  go_wp2_with (go_at_call 9; fail)
  refine (oleast_any n _ l _ (HV.out.below HB2.out)).mono ?_
  rintro e w3 ⟨x, rfl, hx, hb3⟩
  have HB3 : Hid (Below w.heap.size w w3) := HB2.out.trans (hb3.mono HB2.out.size)
  clear hb3 HB2 HV
  by_cases hc : chkL n l = 0
  · have F := chkL_zero hc
    obtain ⟨m, rfl⟩ : ∃ m : Nat, n = m := ⟨n.toNat, by have := F.low; omega⟩
    have hxl := hx.ok hc
    rw [Int.toNat_natCast] at hxl
    have h1 := list_twice (Un_nodup m) (thing_in F) hxl
    have h2 := list_least (f := fun _ => 0) (fun _ => Nat.zero_le _) (Un_nodup m) (thing_in F) hxl
    have h3 := front_most F (f := fun _ => 0)
    have h40 := F.reqs
    rw [hc, lookN, if_pos hc, Int.toNat_natCast, show errV 0 = .nilIface from rfl]
    generalize wayCost (fun _ => 0) (Un m) l l.length = a at *
    have h4 : (a : Int) ≤ 2 * (x : Int) - (l.length : Int) := by omega
    clear F hxl hx hc h1
    go_wp2
    go_ret
    exact ⟨rfl, HB3.out⟩
  · have hn : chkL n l = 1 ∨ chkL n l = 4 := by have := chkL_cases n l; omega
    generalize lookN (fun _ => 0) n l = N at *
    rcases hn with hn | hn
    all_goals
      rw [hn]
      clear hn hc hx
      simp only [errV]
      go_wp2
      go_ret
      exact ⟨rfl, HB3.out⟩

theorem listTwice_own : ownKnob Try.prog.godebug = none := by kernel_rfl
theorem listTwice_laidOut : laidOutB Try.prog = true := by kernel_rfl

set_option maxRecDepth 100000 in
theorem listTwice_lifted (os : Os) (started : os.Started) (H : Type) (enc : TypeId × Value → H) :
    ReturnsInHanded {} Try.checked os 3 .any (Rows.listTwiceSpec.pre6 enc Try.prog Try.f3 Rows.listTwiceRow.domain false) (Rows.listTwiceSpec.post enc Try.prog Try.f3 false true false false) := by
  refine returnsInHanded_of_change (C := Try.checked) listTwice_own started (by kernel_rfl) Try.func3
    (ChangeSpec.witness6 (enc := enc) (C := Try.checked) false ⟨#[], #[.int .i64 0, .slice none 0 0], []⟩ 8 (by kernel_rfl) (by kernel_rfl) (by kernel_rfl) (by kernel_rfl)) ?_
  intro W base args ds gs before hval0 hW _ _
  have hval : ∀ (j : Nat) t v, Try.f3.params[j]? = some t → args[j]? = some v → Value.okWide Try.prog W .any base t v := hval0
  have hW' : DataW.Whole enc Try.prog Try.f3.params.toList Rows.listTwiceSpec.vars false W args.toList ds gs before := hW
  obtain ⟨p, q, hA0, hV, rfl, hfz, hnd⟩ := hW
  have hA : DataW.TrodAll enc Try.prog W 0 (fun _ => true) true Try.f3.params.toList args.toList ds p := hA0
  rw [Try.params3] at hA hval
  obtain ⟨v0, vs0, d0, ds0, p0, q0, hargs, rfl, rfl, h0, r0⟩ := trodAll_cons hA
  obtain ⟨v1, vs1, d1, ds1, p1, q1, rfl, rfl, rfl, h1, r1⟩ := trodAll_cons r0
  obtain ⟨rfl, rfl, rfl⟩ := trodAll_nil r1
  obtain rfl : args = #[v0, v1] := by cases args; simp_all
  obtain ⟨rfl, rfl⟩ := trodVars_none hV
  obtain ⟨n0, rfl, rfl, rfl, wn0⟩ := open_int Try.underlying3 (hval 0 3 v0 rfl rfl) h0
  obtain ⟨l1, ao1, cap1, hv1, hl1⟩ := arg_ints Try.underlying22 Try.underlying3 (by kernel_rfl) (hval 1 22 v1 rfl rfl) h1
  clear hA0 hval0
  refine (twice_any n0 v1 l1 W hl1 ⟨ao1, cap1, hv1⟩).mono fun e W' ⟨he, hb⟩ => ?_
  subst he
  exact ⟨_, rfl, law_post hW' hb listTwice_laidOut rfl (by kernel_rfl) (by kernel_rfl) Try.underlying4 rfl rfl rfl⟩

theorem listTwice_holds : Rows.ListTwiceSaid :=
  OpenClaim.holds_of_wide 3 Try.f3 rfl rfl rfl rfl rfl rfl rfl ⟨rfl, rfl, rfl, rfl, rfl⟩ rfl rfl rfl rfl rfl (by kernel_rfl) Try.func3 (by kernel_rfl)
    (of_decide_eq_true (by kernel_rfl)) (by unfold Func.isWrapper; first | (rw [if_pos (by decide +kernel)]; kernel_rfl) | (rw [if_neg (by decide +kernel)]; exact ⟨rfl, rfl⟩))
    (fun os started H enc _ => listTwice_lifted os started H enc)
end Go.Proofs.Ytedmfehjifknbab
