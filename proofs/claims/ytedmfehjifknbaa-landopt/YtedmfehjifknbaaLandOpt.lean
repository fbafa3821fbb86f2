/- LandOpt is proved: for every list of requests, every number of pages, price and number of slots, in whatever memory and on every schedule, it returns true and leaves its argument as it was: where all pages cost the same, the least is that price times how often pages are not there by the best way. No condition. -/
import Derived.Test.YtedmfehjifknbaaLandFact
import Derived.Test.YtedmfehjifknbaaLandZ
import Derived.Test.YtedmfehjifknbaaOptAny
import Derived.Test.YtedmfehjifknbaaMissIs
import Derived.Test.YtedmfehjifknbaaLawIn2
import Derived.Test.YtedmfehjifknbaaLawkit
namespace Go.Proofs.Ytedmfehjifknbaa
open Go.ChangeShapes Go.WideShapes Go.ChangeAt Go.RowKit Go.Sort

theorem cf_each {n e : Nat} {p : Int} (hp : p.toNat < n) : cf (List.replicate n (e : Int)) p = e := by
  unfold cf; rw [List.getElem?_replicate, if_pos hp]; simp
theorem page_mem {l c : List Int} {s : Int} (F : FineC l c s) {p : Int} (hp : p ∈ l) : 0 ≤ p ∧ p < c.length := by
  obtain ⟨k, hk, rfl⟩ := List.getElem_of_mem hp
  have := F.page k hk
  rwa [List.getElem?_eq_getElem hk] at this
theorem chk_fine {l c : List Int} {s : Int} (F : FineC l c s) : chk l s = 0 := by
  refine chk_ok F.reqs ?_ F.slots
  rw [List.any_eq_false]
  intro p hp
  have := page_mem F hp
  have := F.costs
  simp [bad]; omega
theorem opt_least {l : List Int} {n e s : Nat} (F : FineC l (List.replicate n (e : Int)) s) {x : Nat} (hx : IsLeast s (cf (List.replicate n (e : Int))) l x) : x = e * mc (ohit s l) l.length := by
  have hs : 1 ≤ s := by have := F.slots; omega
  have hp : inPages l := chk_pages (chk_fine F)
  refine least_unique (least_congr (fun p hp => ?_) hx) (least_each hs hp e)
  refine cf_each ?_
  have := page_mem F hp
  rw [List.length_replicate] at this
  omega
theorem mc_most_of (f : Nat → Bool) : ∀ n, mc f n ≤ n
  | 0 => by simp [mc]
  | n + 1 => by have := mc_most_of f n; unfold mc; split <;> omega

set_option maxHeartbeats 2000000 in
set_option maxRecDepth 100000 in
theorem landOpt_any (v : Value) (l : List Int) (n e s : Int) (w : World) (hv : IsInts w v l) (hform : ∃ ao cap, v = .slice ao l.length cap) :
    Calls Try.prog 5 #[v, .int .i64 n, .int .i64 e, .int .i64 s] w fun e w' => e = .returned (.bool true) ∧ Below w.heap.size w w' := by
  have HV : Hid (IsInts w v l) := hv
  obtain ⟨ao, cap, rfl⟩ := hform
  clear hv
  obtain ⟨i0, hi, hz0, hz1, hz2⟩ := info_parts Try.info3
  have HI : Hid (Try.prog.info? 3 = some i0 ∧ i0.zero = some (.int .i64 0) ∧ i0.size = 1 ∧ i0.bytes = 8) := ⟨hi, hz0, hz1, hz2⟩
  clear hi hz0 hz1 hz2
  go_enter Try.func5, Try.ntmps5
  go_wp2_with (first | (go_at_call 8; go_must (refine (lfact_any _).mono ?_; rintro e w1 ⟨rfl, hb1⟩; have HB1 : Hid (Below w.heap.size w w1) := hb1; clear hb1)) | (go_at_call 9; fail))
  by_cases hn : within n 1 6 = true
  case neg =>
    have HN : Hid (within n 1 6 = false) := by unfold Hid; simpa using hn
    clear hn
    refine (within_any _ _ _ _).mono ?_
    rintro e w' ⟨rfl, hw⟩
    have hw := hw.symm
    subst hw
    rw [HN.out]
    go_wp2
    go_ret
    exact ⟨rfl, HB1.out⟩
  by_cases he : within e 0 20 = true
  case neg =>
    have HN : Hid (within n 1 6 = true) := hn
    have HE : Hid (within e 0 20 = false) := by unfold Hid; simpa using he
    clear hn he
    refine (within_any _ _ _ _).mono ?_
    rintro e w' ⟨rfl, hw⟩
    have hw := hw.symm
    subst hw
    rw [HN.out]
    go_wp2_with (go_at_call 9; go_must (refine (within_any _ _ _ _).mono ?_; rintro e w' ⟨rfl, hw⟩; have hw := hw.symm; subst hw; rw [HE.out]))
    go_ret
    exact ⟨rfl, HB1.out⟩
  have HN : Hid (within n 1 6 = true) := hn
  have HE : Hid (within e 0 20 = true) := he
  simp [within] at hn he
  obtain ⟨N, rfl⟩ : ∃ N : Nat, n = N := ⟨n.toNat, by omega⟩
  obtain ⟨E, rfl⟩ : ∃ E : Nat, e = E := ⟨e.toNat, by omega⟩
  have hN : N ≤ 6 := by omega
  have hE : E ≤ 20 := by omega
  clear hn he
  refine (within_any _ _ _ _).mono ?_
  rintro e w' ⟨rfl, hw⟩
  have hw := hw.symm
  subst hw
  rw [HN.out]
  go_wp2_with (go_at_call 9; go_must (refine (within_any _ _ _ _).mono ?_; rintro e w' ⟨rfl, hw⟩; have hw := hw.symm; subst hw; rw [HE.out]))
  go_loopw [10, 11] (fun vc i wr => ∃ k : Nat, k ≤ N ∧ i = .int .i64 k ∧ OwnI wr w.heap.size vc (List.replicate k (E : Int)) ∧ Below w.heap.size w wr) (fun _ i _ => N - (intOf i).toNat)
  case atStart => exact ⟨0, Nat.zero_le _, rfl, OwnI.nil _ _, HB1.out⟩
  case round =>
    obtain ⟨k, hk, rfl, hoc, hbr⟩ := hrel
    have HBR : Hid (Below w.heap.size w wr) := hbr
    obtain ⟨ac, cc, hvc⟩ := hoc.form
    rw [List.length_replicate] at hvc
    subst hvc
    have HOC : Hid (OwnI wr w.heap.size (.slice ac k cc) (List.replicate k (E : Int))) := hoc
    clear hoc hbr
    by_cases hlt : k < N
    · have HL : Hid ((List.replicate k (E : Int)).length = k) := List.length_replicate ..
      have HR : Hid (List.replicate (k+1) (E : Int) = List.replicate k (E : Int) ++ [(E : Int)]) := List.replicate_succ' ..
      generalize List.replicate k (E : Int) = lk at *
      go_wp2_with (at_builtin; (refine wpList_append_own _ rfl _ _ 22 rfl w.heap.size 3 i0 (.int .i64 0) 1 8 Try.underlying22 HI.out.1 HI.out.2.1 HI.out.2.2.1 HI.out.2.2.2 rfl (by decide) _ k (lk.map (Value.int .i64)) rfl (World.ownsRow.alloc (HOC.out.rows HL.out rfl) _) ⟨wr.heap.size, 0, none⟩ 1 1 [.int .i64 (E : Int)] rfl rfl (by exact new_one _ _ _) (one_cell _) (by unfold maxLen; omega) (by omega) (by have := HBR.out.size; simp; omega) ?_; intro v2 w2 hown' hgrow _; have R := keeps_append HOC.out HL.out HBR.out.size hown' hgrow; have HR2 : Hid (OwnI w2 w.heap.size v2 (lk ++ [(E : Int)])) := R.1; have HK2 : Hid (Below w.heap.size w w2) := R.2.2 _ (Nat.le_refl _) HBR.out; clear hown' hgrow R))
      go_roundw
      case rel => exact ⟨k + 1, by omega, by go_num, by rw [HR.out]; exact HR2.out, HK2.out⟩
      case measure => simp [intOf]; omega
    · have hkN : k = N := by omega
      subst hkN
      clear hlt
      go_wp2_with (go_at_call 11; fail)
      refine (least_any _ _ l (List.replicate k (E : Int)) s _ (HV.out.below HBR.out) HOC.out.isInts).mono ?_
      rintro e w2 ⟨x, rfl, hx, hb2⟩
      have HB2 : Hid (Below w.heap.size w w2) := HBR.out.trans (hb2.mono HBR.out.size)
      clear hb2 HBR HOC
      by_cases hc : chkC l (List.replicate k (E : Int)) s = 0
      · have F := chkC_zero hc
        have hck := chk_fine F
        obtain ⟨S, rfl⟩ : ∃ S : Nat, s = S := ⟨s.toNat, by have := F.slots; omega⟩
        have hxl := hx.ok hc
        rw [Int.toNat_natCast] at hxl
        have hxe := opt_least F hxl
        have hl40 := F.reqs
        rw [hc, show errV 0 = .nilIface from rfl]
        have HCK : Hid (chk l (S : Int) = 0) := hck
        have HM : Hid (missed (optB l (S : Int)) (optB l (S : Int)).length = mc (ohit S l) l.length) := by unfold Hid; rw [optB_ok hck, Int.toNat_natCast]; exact missed_mc _ _
        have hx4 := mc_most_of (ohit S l) l.length
        clear F hc hck hxl hx
        generalize mc (ohit S l) l.length = m at *
        have hEm : E * m ≤ 20 * 40 := Nat.mul_le_mul hE (by omega)
        have hw3 : IntKind.i64.wrap ((E : Int) * (m : Int)) = ((E * m : Nat) : Int) := by rw [← Int.natCast_mul, IntKind.wrap_i64]; omega
        subst hxe
        generalize E * m = z at *
        go_wp2_with (go_at_call 13; fail)
        refine (opt_any _ l (S : Int) _ (HV.out.below HB2.out)).mono ?_
        rintro e w3 ⟨vd, vd2, vd3, rfl, hD, _, _, hb3⟩
        rw [HCK.out, show errV 0 = .nilIface from rfl]
        have HB3 : Hid (Below w.heap.size w w3) := HB2.out.trans (hb3.mono HB2.out.size)
        have HD3 : Hid (IsBools w3 vd (optB l (S : Int))) := hD.isBools
        clear hD hb3 HB2 HV
        go_wp2_with (go_at_call 14; go_must (refine (misses_is HD3.out HM.out _ (by rfl)).mono ?_; rintro e w' ⟨rfl, hw⟩; have hw := hw.symm; subst hw))
        go_ret
        exact ⟨rfl, HB3.out⟩
      · have hcn : chkC l (List.replicate k (E : Int)) s = 1 ∨ chkC l (List.replicate k (E : Int)) s = 4 := by have := chkC_cases l (List.replicate k (E : Int)) s; omega
        have hx0 := hx.err hc
        subst hx0
        clear hx
        rcases hcn with hcn | hcn
        all_goals
          rw [hcn]
          clear hcn hc
          simp only [errV]
          go_wp2
          go_ret
          exact ⟨rfl, HB2.out⟩

theorem landOpt_own : ownKnob Try.prog.godebug = none := by kernel_rfl
theorem landOpt_laidOut : laidOutB Try.prog = true := by kernel_rfl

set_option maxRecDepth 100000 in
theorem landOpt_lifted (os : Os) (started : os.Started) (H : Type) (enc : TypeId × Value → H) :
    ReturnsInHanded {} Try.checked os 5 .any (Rows.landOptSpec.pre6 enc Try.prog Try.f5 Rows.landOptRow.domain false) (Rows.landOptSpec.post enc Try.prog Try.f5 false true false false) := by
  refine returnsInHanded_of_change (C := Try.checked) landOpt_own started (by kernel_rfl) Try.func5
    (ChangeSpec.witness6 (enc := enc) (C := Try.checked) false ⟨#[], #[.slice none 0 0, .int .i64 0, .int .i64 0, .int .i64 0], []⟩ 8 (by kernel_rfl) (by kernel_rfl) (by kernel_rfl) (by kernel_rfl)) ?_
  intro W base args ds gs before hval0 hW _ _
  have hval : ∀ (j : Nat) t v, Try.f5.params[j]? = some t → args[j]? = some v → Value.okWide Try.prog W .any base t v := hval0
  have hW' : DataW.Whole enc Try.prog Try.f5.params.toList Rows.landOptSpec.vars false W args.toList ds gs before := hW
  obtain ⟨p, q, hA0, hV, rfl, hfz, hnd⟩ := hW
  have hA : DataW.TrodAll enc Try.prog W 0 (fun _ => true) true Try.f5.params.toList args.toList ds p := hA0
  rw [Try.params5] at hA hval
  obtain ⟨v0, vs0, d0, ds0, p0, q0, hargs, rfl, rfl, h0, r0⟩ := trodAll_cons hA
  obtain ⟨v1, vs1, d1, ds1, p1, q1, rfl, rfl, rfl, h1, r1⟩ := trodAll_cons r0
  obtain ⟨v2, vs2, d2, ds2, p2, q2, rfl, rfl, rfl, h2, r2⟩ := trodAll_cons r1
  obtain ⟨v3, vs3, d3, ds3, p3, q3, rfl, rfl, rfl, h3, r3⟩ := trodAll_cons r2
  obtain ⟨rfl, rfl, rfl⟩ := trodAll_nil r3
  obtain rfl : args = #[v0, v1, v2, v3] := by cases args; simp_all
  obtain ⟨rfl, rfl⟩ := trodVars_none hV
  obtain ⟨n1, rfl, rfl, rfl, wn1⟩ := open_int Try.underlying3 (hval 1 3 v1 rfl rfl) h1
  obtain ⟨n2, rfl, rfl, rfl, wn2⟩ := open_int Try.underlying3 (hval 2 3 v2 rfl rfl) h2
  obtain ⟨n3, rfl, rfl, rfl, wn3⟩ := open_int Try.underlying3 (hval 3 3 v3 rfl rfl) h3
  obtain ⟨l0, ao0, cap0, hv0, hl0⟩ := arg_ints Try.underlying22 Try.underlying3 (by kernel_rfl) (hval 0 22 v0 rfl rfl) h0
  clear hA0 hval0
  refine (landOpt_any v0 l0 n1 n2 n3 W hl0 ⟨ao0, cap0, hv0⟩).mono fun e W' ⟨he, hb⟩ => ?_
  subst he
  exact ⟨_, rfl, law_post hW' hb landOpt_laidOut rfl (by kernel_rfl) (by kernel_rfl) Try.underlying4 rfl rfl rfl⟩

theorem landOpt_holds : Rows.LandOptSaid :=
  OpenClaim.holds_of_wide 5 Try.f5 rfl rfl rfl rfl rfl rfl rfl ⟨rfl, rfl, rfl, rfl, rfl⟩ rfl rfl rfl rfl rfl (by kernel_rfl) Try.func5 (by kernel_rfl)
    (of_decide_eq_true (by kernel_rfl)) (by unfold Func.isWrapper; first | (rw [if_pos (by decide +kernel)]; kernel_rfl) | (rw [if_neg (by decide +kernel)]; exact ⟨rfl, rfl⟩))
    (fun os started H enc _ => landOpt_lifted os started H enc)
end Go.Proofs.Ytedmfehjifknbaa
