/- LandLeast is proved: for every two lists of requests and costs, and every number of slots, in whatever memory and on every schedule, it returns true and leaves its arguments as they were: nobody pays less than the least; with more slots it is no more; each page that is asked for is paid for once at least. No condition. -/
import Derived.Test.YtedmfehjifknbaaLandFact
import Derived.Test.YtedmfehjifknbaaLandM
import Derived.Test.YtedmfehjifknbaaHas
import Derived.Test.YtedmfehjifknbaaLawkit
namespace Go.Proofs.Ytedmfehjifknbaa
open Go.ChangeShapes Go.WideShapes Go.ChangeAt Go.RowKit Go.Sort

/-- The pages below k that are asked for. -/
def askedTo (l : List Int) : Nat → List Int
  | 0 => []
  | k + 1 => bif l.contains (k : Int) then (k : Int) :: askedTo l k else askedTo l k
theorem asked_mem {l : List Int} {x : Int} : ∀ {k : Nat}, x ∈ askedTo l k → x ∈ l ∧ 0 ≤ x ∧ x < k
  | 0, h => by cases h
  | k + 1, h => by
    unfold askedTo at h
    cases hc : l.contains (k : Int) with
    | true =>
      rw [hc, cond_true] at h
      rcases List.mem_cons.1 h with rfl | h
      · exact ⟨List.contains_iff_mem.1 hc, by omega, by omega⟩
      · obtain ⟨a, b, c⟩ := asked_mem h
        exact ⟨a, b, by omega⟩
    | false =>
      rw [hc, cond_false] at h
      obtain ⟨a, b, c⟩ := asked_mem h
      exact ⟨a, b, by omega⟩
theorem asked_nodup (l : List Int) : ∀ k, (askedTo l k).Nodup
  | 0 => List.nodup_nil
  | k + 1 => by
    unfold askedTo
    cases hc : l.contains (k : Int) with
    | true =>
      rw [cond_true]
      refine List.nodup_cons.2 ⟨fun h => ?_, asked_nodup l k⟩
      have := (asked_mem h).2.2
      omega
    | false => rw [cond_false]; exact asked_nodup l k
theorem asked_once {s : Nat} {c : Int → Nat} {l : List Int} {x : Nat} (hx : IsLeast s c l x) (k : Nat) : sumOn c (askedTo l k) ≤ x :=
  Nat.le_trans (sumOn_sub (asked_nodup l k) fun _ hp => full_mem.2 (asked_mem hp).1) (least_once hx)

set_option maxHeartbeats 2000000 in
set_option maxRecDepth 100000 in
theorem lleast_any (v : Value) (l : List Int) (vc : Value) (c : List Int) (s : Int) (w : World) (hv : IsInts w v l) (_ : ∃ ao cap, v = .slice ao l.length cap) (hvc : IsInts w vc c) (_ : ∃ ao cap, vc = .slice ao c.length cap) :
    Calls Try.prog 4 #[v, vc, .int .i64 s] w fun e w' => e = .returned (.bool true) ∧ Below w.heap.size w w' := by
  have HV : Hid (IsInts w v l) := hv
  have HVC : Hid (IsInts w vc c) := hvc
  obtain ⟨ao, cap, rfl, _⟩ := hv.opened
  obtain ⟨ac, cac, rfl, hcac, hoc⟩ := hvc.opened
  have HOC : Hid (∀ k, k < c.length → ∃ b off, ac = some ⟨b, off, none⟩ ∧ c.length ≤ cac ∧ b < w.heap.size ∧ ∀ j, j < c.length → w.cell? ⟨b, off + j, none⟩ = some (.int .i64 (c[j]?.getD 0))) := hoc
  unfold maxLen at hcac
  clear hv hvc hoc
  go_enter Try.func4, Try.ntmps4
  go_wp2_with (first | (go_at_call 8; go_must (refine (lfact_any _).mono ?_; rintro e w1 ⟨rfl, hb1⟩; have HB1 : Hid (Below w.heap.size w w1) := hb1; clear hb1)) | (go_at_call 10; fail))
  refine (landlord_any _ _ l c s _ (HV.out.below HB1.out) (HVC.out.below HB1.out)).mono ?_
  rintro e w2 ⟨vp, vq, rfl, _, _, hb2⟩
  have HB2 : Hid (Below w.heap.size w w2) := HB1.out.trans (hb2.mono HB1.out.size)
  clear hb2 HB1
  go_wp2_with (go_at_call 11; fail)
  refine (least_any _ _ l c s _ (HV.out.below HB2.out) (HVC.out.below HB2.out)).mono ?_
  rintro e w3 ⟨x, rfl, hx, hb3⟩
  have HB3 : Hid (Below w.heap.size w w3) := HB2.out.trans (hb3.mono HB2.out.size)
  clear hb3 HB2
  by_cases hc : chkC l c s = 0
  case neg =>
    have hn : chkC l c s = 1 ∨ chkC l c s = 4 := by have := chkC_cases l c s; omega
    generalize landN l c s = N at *
    rcases hn with hn | hn
    all_goals
      rw [hn]
      clear hn hc hx HV HVC HOC
      simp only [errV]
      go_wp2
      go_ret
      exact ⟨rfl, HB3.out⟩
  have F := chkC_zero hc
  obtain ⟨S, rfl⟩ : ∃ S : Nat, s = S := ⟨s.toNat, by have := F.slots; omega⟩
  have hS1 : 1 ≤ S := by have := F.slots; omega
  have hS8 : S ≤ 8 := by have := F.slots; omega
  have hc6 := F.costs
  have hxl := hx.ok hc
  rw [Int.toNat_natCast] at hxl
  have hn : landN l c (S : Int) = lpaid S (cf c) l l.length := by rw [landN, if_pos hc, Int.toNat_natCast]
  have h1 := lpaid_most (s := S) F
  have h2 := least_land hS1 hxl
  have HF : Hid (FineC l c (S : Int)) := F
  have HXL : Hid (IsLeast S (cf c) l x) := hxl
  have HON : Hid (∀ k, sumOn (cf c) (askedTo l k) ≤ x) := fun k => asked_once hxl k
  rw [hc, hn, show errV 0 = .nilIface from rfl]
  generalize lpaid S (cf c) l l.length = N at *
  clear F hx hn hc hxl
  go_wp2_with fail
  go_loopw [14, 15] (fun o p wr => ∃ k : Nat, k ≤ c.length ∧ p = .int .i64 k ∧ o = .int .i64 (sumOn (cf c) (askedTo l k) : Nat) ∧ wr = w3) (fun _ p _ => c.length - (intOf p).toNat)
  case atStart => exact ⟨0, Nat.zero_le _, rfl, rfl, rfl⟩
  case round =>
    obtain ⟨k, hk, rfl, rfl, rfl⟩ := hrel
    have hok := HON.out k
    by_cases hlt : k < c.length
    · obtain ⟨b, off, rfl, hlc, hbw, hcell⟩ := HOC.out k hlt
      have hck : wr.cell? ⟨b, off + k, none⟩ = some (.int .i64 (cf c (k : Int) : Nat)) := by
        rw [HB3.out.cell (by exact hbw), hcell k hlt]
        have := cf_get HF.out (p := (k : Int)) (by rw [Int.toNat_natCast]; exact hlt)
        rw [Int.toNat_natCast] at this
        rw [this]
      have hcl := cf_le HF.out (k : Int)
      have HIN : Hid (IsInts wr (.slice ao l.length cap) l) := HV.out.below HB3.out
      have HA : Hid (askedTo l (k+1) = bif l.contains (k : Int) then (k : Int) :: askedTo l k else askedTo l k) := rfl
      clear hcell
      generalize hr : l.contains (k : Int) = r at *
      have HR : Hid (l.contains (k : Int) = r) := hr
      clear hr
      cases r with
      | true =>
        have HA2 : Hid (sumOn (cf c) (askedTo l (k+1)) = sumOn (cf c) (askedTo l k) + cf c (k : Int)) := by unfold Hid; rw [HA.out, cond_true, sumOn, Nat.add_comm]
        generalize sumOn (cf c) (askedTo l k) = o at *
        generalize cf c (k : Int) = f at *
        go_wp2_with (go_at_call 12; go_must (refine (has_any _ l _ _ HIN.out).mono ?_; rintro e w' ⟨rfl, hw⟩; have hw := hw.symm; subst hw; rw [HR.out]))
        go_roundw
        case rel => exact ⟨k + 1, by omega, by go_num, by rw [HA2.out]; go_num, trivial⟩
        case measure => simp [intOf]; omega
      | false =>
        have HA2 : Hid (sumOn (cf c) (askedTo l (k+1)) = sumOn (cf c) (askedTo l k)) := by unfold Hid; rw [HA.out, cond_false]
        generalize sumOn (cf c) (askedTo l k) = o at *
        generalize cf c (k : Int) = f at *
        go_wp2_with (go_at_call 12; go_must (refine (has_any _ l _ _ HIN.out).mono ?_; rintro e w' ⟨rfl, hw⟩; have hw := hw.symm; subst hw; rw [HR.out]))
        go_roundw
        case rel => exact ⟨k + 1, by omega, by go_num, by rw [HA2.out], trivial⟩
        case measure => simp [intOf]; omega
    · have hkc : k = c.length := by omega
      generalize sumOn (cf c) (askedTo l k) = o at *
      subst hkc
      have HV3 : Hid (IsInts wr (.slice ao l.length cap) l) := HV.out.below HB3.out
      have HVC3 : Hid (IsInts wr (.slice ac c.length cac) c) := HVC.out.below HB3.out
      clear HV HVC HOC
      go_wp2_with (go_at_call 11; fail)
      refine (least_any _ _ l c ((S : Int) + 1) _ HV3.out HVC3.out).mono ?_
      rintro e w4 ⟨y, rfl, hy, hb4⟩
      have HB4 : Hid (Below w.heap.size w w4) := HB3.out.trans (hb4.mono HB3.out.size)
      clear hb4
      have hle : x ≤ N := h2
      by_cases hc2 : chkC l c ((S : Int) + 1) = 0
      · have hyl := hy.ok hc2
        rw [show ((S : Int) + 1).toNat = S + 1 by omega] at hyl
        have hyx := least_more (Nat.le_succ S) HXL.out hyl
        rw [hc2, show errV 0 = .nilIface from rfl]
        clear hyl hy hc2 HXL HON HF HV3 HVC3
        go_wp2
        go_ret
        exact ⟨rfl, HB4.out⟩
      · have hn : chkC l c ((S : Int) + 1) = 1 ∨ chkC l c ((S : Int) + 1) = 4 := by have := chkC_cases l c ((S : Int) + 1); omega
        rcases hn with hn | hn
        all_goals
          rw [hn]
          clear hn hc2 hy HXL HON HF HV3 HVC3
          simp only [errV]
          go_wp2
          go_ret
          exact ⟨rfl, HB4.out⟩

theorem landLeast_own : ownKnob Try.prog.godebug = none := by kernel_rfl
theorem landLeast_laidOut : laidOutB Try.prog = true := by kernel_rfl

set_option maxRecDepth 100000 in
theorem landLeast_lifted (os : Os) (started : os.Started) (H : Type) (enc : TypeId × Value → H) :
    ReturnsInHanded {} Try.checked os 4 .any (Rows.landLeastSpec.pre6 enc Try.prog Try.f4 Rows.landLeastRow.domain false) (Rows.landLeastSpec.post enc Try.prog Try.f4 false true false false) := by
  refine returnsInHanded_of_change (C := Try.checked) landLeast_own started (by kernel_rfl) Try.func4
    (ChangeSpec.witness6 (enc := enc) (C := Try.checked) false ⟨#[], #[.slice none 0 0, .slice none 0 0, .int .i64 0], []⟩ 8 (by kernel_rfl) (by kernel_rfl) (by kernel_rfl) (by kernel_rfl)) ?_
  intro W base args ds gs before hval0 hW _ _
  have hval : ∀ (j : Nat) t v, Try.f4.params[j]? = some t → args[j]? = some v → Value.okWide Try.prog W .any base t v := hval0
  have hW' : DataW.Whole enc Try.prog Try.f4.params.toList Rows.landLeastSpec.vars false W args.toList ds gs before := hW
  obtain ⟨p, q, hA0, hV, rfl, hfz, hnd⟩ := hW
  have hA : DataW.TrodAll enc Try.prog W 0 (fun _ => true) true Try.f4.params.toList args.toList ds p := hA0
  rw [Try.params4] at hA hval
  obtain ⟨v0, vs0, d0, ds0, p0, q0, hargs, rfl, rfl, h0, r0⟩ := trodAll_cons hA
  obtain ⟨v1, vs1, d1, ds1, p1, q1, rfl, rfl, rfl, h1, r1⟩ := trodAll_cons r0
  obtain ⟨v2, vs2, d2, ds2, p2, q2, rfl, rfl, rfl, h2, r2⟩ := trodAll_cons r1
  obtain ⟨rfl, rfl, rfl⟩ := trodAll_nil r2
  obtain rfl : args = #[v0, v1, v2] := by cases args; simp_all
  obtain ⟨rfl, rfl⟩ := trodVars_none hV
  obtain ⟨n2, rfl, rfl, rfl, wn2⟩ := open_int Try.underlying3 (hval 2 3 v2 rfl rfl) h2
  obtain ⟨l0, ao0, cap0, hv0, hl0⟩ := arg_ints Try.underlying22 Try.underlying3 (by kernel_rfl) (hval 0 22 v0 rfl rfl) h0
  obtain ⟨l1, ao1, cap1, hv1, hl1⟩ := arg_ints Try.underlying22 Try.underlying3 (by kernel_rfl) (hval 1 22 v1 rfl rfl) h1
  clear hA0 hval0
  refine (lleast_any v0 l0 v1 l1 n2 W hl0 ⟨ao0, cap0, hv0⟩ hl1 ⟨ao1, cap1, hv1⟩).mono fun e W' ⟨he, hb⟩ => ?_
  subst he
  exact ⟨_, rfl, law_post hW' hb landLeast_laidOut rfl (by kernel_rfl) (by kernel_rfl) Try.underlying4 rfl rfl rfl⟩

theorem landLeast_holds : Rows.LandLeastSaid :=
  OpenClaim.holds_of_wide 4 Try.f4 rfl rfl rfl rfl rfl rfl rfl ⟨rfl, rfl, rfl, rfl, rfl⟩ rfl rfl rfl rfl rfl (by kernel_rfl) Try.func4 (by kernel_rfl)
    (of_decide_eq_true (by kernel_rfl)) (by unfold Func.isWrapper; first | (rw [if_pos (by decide +kernel)]; kernel_rfl) | (rw [if_neg (by decide +kernel)]; exact ⟨rfl, rfl⟩))
    (fun os started H enc _ => landLeast_lifted os started H enc)
end Go.Proofs.Ytedmfehjifknbaa
