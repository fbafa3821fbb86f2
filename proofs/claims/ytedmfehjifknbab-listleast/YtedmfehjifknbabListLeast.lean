/- ListLeast is proved: for every number of things and every list of requests, in whatever memory and on every schedule, it returns true and leaves its argument as it was: nobody looks for less than the least, in neither way, nor who leaves the list as it is; and each looking costs one at least. No condition. -/
import Derived.Test.YtedmfehjifknbabListFact
import Derived.Test.YtedmfehjifknbabOSwap
import Derived.Test.YtedmfehjifknbabLawkit
namespace Go.Proofs.Ytedmfehjifknbab
open Go.ChangeShapes Go.WideShapes Go.ChangeAt Go.RowKit Go.Sort

theorem front_most {n : Nat} {l : List Int} (F : FineL (n : Int) l) {f : Nat → Nat} : wayCost f (Un n) l l.length ≤ 160 := by
  have h := way_cost_le (f := f) (Un_nodup n) (thing_in F) l.length (Nat.le_refl _)
  rw [Un_length] at h
  have := Nat.mul_le_mul F.reqs (show n ≤ 4 by have := F.low; omega)
  omega
def sumTo (l : List Int) : Nat → Int
  | 0 => 0
  | k + 1 => sumTo l k + l[k]?.getD 0
theorem sumTo_range {n : Nat} {l : List Int} (F : FineL (n : Int) l) : ∀ k, k ≤ l.length → 0 ≤ sumTo l k ∧ sumTo l k ≤ 4 * k
  | 0, _ => by simp [sumTo]
  | k + 1, hk => by
    have ih := sumTo_range F k (by omega)
    have := F.thing k (by omega)
    have := F.low
    rw [sumTo]; omega
theorem pos_un {n x : Nat} (hn : n ≤ 4) (hx : x < n) : pos (Un n) (x : Int) = x := by
  rcases (by omega : n = 1 ∨ n = 2 ∨ n = 3 ∨ n = 4) with rfl | rfl | rfl | rfl
  · rcases (by omega : x = 0) with rfl; decide
  · rcases (by omega : x = 0 ∨ x = 1) with rfl | rfl <;> decide
  · rcases (by omega : x = 0 ∨ x = 1 ∨ x = 2) with rfl | rfl | rfl <;> decide
  · rcases (by omega : x = 0 ∨ x = 1 ∨ x = 2 ∨ x = 3) with rfl | rfl | rfl | rfl <;> decide
theorem leave_cost {n : Nat} {l : List Int} (F : FineL (n : Int) l) : ∀ k, k ≤ l.length → (wayCost (fun a => a) (Un n) l k : Int) = sumTo l k + k
  | 0, _ => rfl
  | k + 1, hk => by
    have ih := leave_cost F k (by omega)
    have h := F.thing k (by omega)
    obtain ⟨x, hx⟩ : ∃ x : Nat, l[k]?.getD 0 = x := ⟨(l[k]?.getD 0).toNat, by omega⟩
    rw [wayCost, leave_row (Un_nodup n) (thing_in F) k (by omega), sumTo, hx, pos_un (by have := F.low; omega) (by omega)]
    omega
set_option maxHeartbeats 1000000 in
theorem sum_any {n : Nat} (v : Value) (l : List Int) (w : World) (hv : IsInts w v l) (F : FineL (n : Int) l) :
    Calls Try.prog 11 #[v] w fun e w' => e = .returned (.int .i64 (sumTo l l.length)) ∧ w' = w := by
  obtain ⟨ao, cap, rfl, hcap, ho⟩ := hv.opened
  have HO : Hid (∀ k, k < l.length → ∃ b off, ao = some ⟨b, off, none⟩ ∧ l.length ≤ cap ∧ b < w.heap.size ∧ ∀ j, j < l.length → w.cell? ⟨b, off + j, none⟩ = some (.int .i64 (l[j]?.getD 0))) := ho
  have HF : Hid (FineL (n : Int) l) := F
  have hl40 := F.reqs
  have hlow := F.low
  clear ho hv F
  unfold maxLen at hcap
  go_enter Try.func11, Try.ntmps11
  go_wp2
  go_loop [3, 4] (fun m i => ∃ k : Nat, k ≤ l.length ∧ i = .int .i64 k ∧ m = .int .i64 (sumTo l k)) (fun _ i => l.length - (intOf i).toNat)
  case atStart => exact ⟨0, Nat.zero_le _, rfl, rfl⟩
  case round =>
    obtain ⟨k, hk, rfl, rfl⟩ := hrel
    have hr := sumTo_range HF.out k hk
    by_cases hlt : k < l.length
    · obtain ⟨b, off, rfl, hlc, hbw, hcell⟩ := HO.out k hlt
      have hck := hcell k hlt
      have hth := HF.out.thing k hlt
      have HS : Hid (sumTo l (k+1) = sumTo l k + l[k]?.getD 0) := rfl
      clear hcell
      generalize l[k]?.getD 0 = p at *
      generalize sumTo l k = a at *
      go_wp2
      go_round
      case rel => exact ⟨k + 1, by omega, by go_num, by rw [HS.out]⟩
      case measure => simp [intOf]; omega
    · have hkl : k = l.length := by omega
      subst hkl
      go_wp2
      go_ret
      exact ⟨rfl, rfl⟩
set_option maxHeartbeats 2000000 in
set_option maxRecDepth 100000 in
theorem tleastl_any (n : Int) (v : Value) (l : List Int) (w : World) (hv : IsInts w v l) (_ : ∃ ao cap, v = .slice ao l.length cap) :
    Calls Try.prog 4 #[.int .i64 n, v] w fun e w' => e = .returned (.bool true) ∧ Below w.heap.size w w' := by
  have HV : Hid (IsInts w v l) := hv
  obtain ⟨ao, cap, rfl, _⟩ := hv.opened
  clear hv
  go_enter Try.func4, Try.ntmps4
  go_wp2_with (first | (go_at_call 7; go_must (refine (tfact_any _).mono ?_; rintro e w1 ⟨rfl, hb1⟩; have HB1 : Hid (Below w.heap.size w w1) := hb1; clear hb1)) | (go_at_call 9; fail))
  refine (oleast_any n _ l _ (HV.out.below HB1.out)).mono ?_
  rintro e w2 ⟨x, rfl, hx, hb2⟩
  have HB2 : Hid (Below w.heap.size w w2) := HB1.out.trans (hb2.mono HB1.out.size)
  clear hb2 HB1
  go_wp2_with (go_at_call 8; fail)
  refine (front_any n _ l _ (HV.out.below HB2.out)).mono ?_
  rintro e w3 ⟨vr, rfl, _, hb3⟩
  have HB3 : Hid (Below w.heap.size w w3) := HB2.out.trans (hb3.mono HB2.out.size)
  clear hb3 HB2
  go_wp2_with (go_at_call 10; fail)
  refine (swap_any n _ l _ (HV.out.below HB3.out)).mono ?_
  rintro e w4 ⟨vr2, rfl, _, hb4⟩
  have HB4 : Hid (Below w.heap.size w w4) := HB3.out.trans (hb4.mono HB3.out.size)
  have HV4 : Hid (IsInts w4 (.slice ao l.length cap) l) := HV.out.below HB4.out
  clear hb4 HB3 HV
  by_cases hc : chkL n l = 0
  · have F := chkL_zero hc
    obtain ⟨m, rfl⟩ : ∃ m : Nat, n = m := ⟨n.toNat, by have := F.low; omega⟩
    have hxl := hx.ok hc
    rw [Int.toNat_natCast] at hxl
    have h1 := list_least (f := fun _ => 0) (fun _ => Nat.zero_le _) (Un_nodup m) (thing_in F) hxl
    have h2 := list_least (f := fun a => a - 1) (fun a => Nat.sub_le a 1) (Un_nodup m) (thing_in F) hxl
    have h3 := list_least (f := fun a => a) (fun _ => Nat.le_refl _) (Un_nodup m) (thing_in F) hxl
    have h4 := leave_cost F l.length (Nat.le_refl _)
    have h5 := list_each hxl
    have h6 := front_most F (f := fun _ => 0)
    have h7 := front_most F (f := fun a => a - 1)
    have h8 := sumTo_range F l.length (Nat.le_refl _)
    have h40 := F.reqs
    have HF : Hid (FineL (m : Int) l) := F
    rw [hc, lookN, lookN, if_pos hc, if_pos hc, Int.toNat_natCast, show errV 0 = .nilIface from rfl]
    have HSU : Hid (∀ w, IsInts w (.slice ao l.length cap) l → Calls Try.prog 11 #[.slice ao l.length cap] w fun e w' => e = .returned (.int .i64 (sumTo l l.length)) ∧ w' = w) := fun w hw => sum_any _ l w hw HF.out
    generalize wayCost (fun _ => 0) (Un m) l l.length = a at *
    generalize wayCost (fun a => a - 1) (Un m) l l.length = b at *
    generalize wayCost (fun a => a) (Un m) l l.length = c at *
    generalize sumTo l l.length = S at *
    have h9 : (x : Int) ≤ S + (l.length : Int) := by omega
    clear F hxl hx hc h3 h4
    go_wp2_with (go_at_call 11; go_must (refine (HSU.out _ HV4.out).mono ?_; rintro e w' ⟨rfl, hw⟩; have hw := hw.symm; subst hw))
    go_ret
    exact ⟨rfl, HB4.out⟩
  · have hn : chkL n l = 1 ∨ chkL n l = 4 := by have := chkL_cases n l; omega
    generalize lookN (fun _ => 0) n l = N at *
    generalize lookN (fun a => a - 1) n l = N2 at *
    rcases hn with hn | hn
    all_goals
      rw [hn]
      clear hn hc hx
      simp only [errV]
      go_wp2
      go_ret
      exact ⟨rfl, HB4.out⟩

theorem listLeast_own : ownKnob Try.prog.godebug = none := by kernel_rfl
theorem listLeast_laidOut : laidOutB Try.prog = true := by kernel_rfl

set_option maxRecDepth 100000 in
theorem listLeast_lifted (os : Os) (started : os.Started) (H : Type) (enc : TypeId × Value → H) :
    ReturnsInHanded {} Try.checked os 4 .any (Rows.listLeastSpec.pre6 enc Try.prog Try.f4 Rows.listLeastRow.domain false) (Rows.listLeastSpec.post enc Try.prog Try.f4 false true false false) := by
  refine returnsInHanded_of_change (C := Try.checked) listLeast_own started (by kernel_rfl) Try.func4
    (ChangeSpec.witness6 (enc := enc) (C := Try.checked) false ⟨#[], #[.int .i64 0, .slice none 0 0], []⟩ 8 (by kernel_rfl) (by kernel_rfl) (by kernel_rfl) (by kernel_rfl)) ?_
  intro W base args ds gs before hval0 hW _ _
  have hval : ∀ (j : Nat) t v, Try.f4.params[j]? = some t → args[j]? = some v → Value.okWide Try.prog W .any base t v := hval0
  have hW' : DataW.Whole enc Try.prog Try.f4.params.toList Rows.listLeastSpec.vars false W args.toList ds gs before := hW
  obtain ⟨p, q, hA0, hV, rfl, hfz, hnd⟩ := hW
  have hA : DataW.TrodAll enc Try.prog W 0 (fun _ => true) true Try.f4.params.toList args.toList ds p := hA0
  rw [Try.params4] at hA hval
  obtain ⟨v0, vs0, d0, ds0, p0, q0, hargs, rfl, rfl, h0, r0⟩ := trodAll_cons hA
  obtain ⟨v1, vs1, d1, ds1, p1, q1, rfl, rfl, rfl, h1, r1⟩ := trodAll_cons r0
  obtain ⟨rfl, rfl, rfl⟩ := trodAll_nil r1
  obtain rfl : args = #[v0, v1] := by cases args; simp_all
  obtain ⟨rfl, rfl⟩ := trodVars_none hV
  obtain ⟨n0, rfl, rfl, rfl, wn0⟩ := open_int Try.underlying3 (hval 0 3 v0 rfl rfl) h0
  obtain ⟨l1, ao1, cap1, hv1, hl1⟩ := arg_ints Try.underlying22 Try.underlying3 (by kernel_rfl) (hval 1 22 v1 rfl rfl) h1
  clear hA0 hval0
  refine (tleastl_any n0 v1 l1 W hl1 ⟨ao1, cap1, hv1⟩).mono fun e W' ⟨he, hb⟩ => ?_
  subst he
  exact ⟨_, rfl, law_post hW' hb listLeast_laidOut rfl (by kernel_rfl) (by kernel_rfl) Try.underlying4 rfl rfl rfl⟩

theorem listLeast_holds : Rows.ListLeastSaid :=
  OpenClaim.holds_of_wide 4 Try.f4 rfl rfl rfl rfl rfl rfl rfl ⟨rfl, rfl, rfl, rfl, rfl⟩ rfl rfl rfl rfl rfl (by kernel_rfl) Try.func4 (by kernel_rfl)
    (of_decide_eq_true (by kernel_rfl)) (by unfold Func.isWrapper; first | (rw [if_pos (by decide +kernel)]; kernel_rfl) | (rw [if_neg (by decide +kernel)]; exact ⟨rfl, rfl⟩))
    (fun os started H enc _ => listLeast_lifted os started H enc)
end Go.Proofs.Ytedmfehjifknbab
