/- LandScale is proved: for every two lists of requests and costs, every number of slots and every factor, in whatever memory and on every schedule, it returns true and leaves its arguments as they were: where all costs are as many times as much, all is as many times as much, and the same pages stay. No condition. -/
import Derived.Test.YtedmfehjifknbaaLandFact
import Derived.Test.YtedmfehjifknbaaLandM
import Derived.Test.YtedmfehjifknbaaLandZ
import Derived.Test.YtedmfehjifknbaaLawIn2
import Derived.Test.YtedmfehjifknbaaLawkit
namespace Go.Proofs.Ytedmfehjifknbaa
open Go.ChangeShapes Go.WideShapes Go.ChangeAt Go.RowKit Go.Sort

/-- The first k costs, so many times. -/
def moreTo (c : List Int) (b : Int) (k : Nat) : List Int := (c.take k).map (· * b)
theorem moreTo_succ {c : List Int} {b : Int} {k : Nat} (h : k < c.length) : moreTo c b (k+1) = moreTo c b k ++ [c[k]?.getD 0 * b] := by
  unfold moreTo
  rw [List.take_succ_eq_append_getElem h, List.map_append, List.getElem?_eq_getElem h]; rfl
theorem moreTo_length {c : List Int} {b : Int} {k : Nat} (h : k ≤ c.length) : (moreTo c b k).length = k := by unfold moreTo; rw [List.length_map, List.length_take]; omega
theorem cf_times {l c : List Int} {s : Int} (F : FineC l c s) {b : Nat} {p : Int} (hp : p ∈ l) : cf (moreTo c (b : Int) c.length) p = b * cf c p := by
  obtain ⟨k, hk, rfl⟩ := List.getElem_of_mem hp
  have h1 := F.page k hk
  rw [List.getElem?_eq_getElem hk, Option.getD_some] at h1
  have h2 : (l[k]).toNat < c.length := by omega
  have h3 := F.cost _ h2
  unfold cf moreTo
  rw [List.take_length, List.getElem?_map, List.getElem?_eq_getElem h2] at *
  simp only [Option.map_some, Option.getD_some] at *
  obtain ⟨n, hn⟩ : ∃ n : Nat, c[(l[k]).toNat] = (n : Int) := ⟨(c[(l[k]).toNat]).toNat, by omega⟩
  rw [hn, Int.toNat_natCast, ← Int.natCast_mul, Int.toNat_natCast, Nat.mul_comm]
theorem scale_paid {l c : List Int} {s : Int} (F : FineC l c s) {b : Nat} (hb : 1 ≤ b) : lpaid s.toNat (cf (moreTo c (b : Int) c.length)) l l.length = b * lpaid s.toNat (cf c) l l.length := by
  rw [← lpaid_times hb]
  exact lpaid_congr (fun _ hp => cf_times F hp) _ (Nat.le_refl _)
theorem scale_held {l c : List Int} {s : Int} (F : FineC l c s) {b : Nat} (hb : 1 ≤ b) : tenants (land s.toNat (cf (moreTo c (b : Int) c.length)) l l.length) = tenants (land s.toNat (cf c) l l.length) := by
  have h := lheld_times (s := s.toNat) hb (cf c) l l.length
  unfold lheld at h
  rw [← h, land_congr (fun _ hp => cf_times F hp) _ (Nat.le_refl _)]
theorem scale_least {l c : List Int} {s : Int} (F : FineC l c s) {b : Nat} {x y : Nat} (hx : IsLeast s.toNat (cf c) l x) (hy : IsLeast s.toNat (cf (moreTo c (b : Int) c.length)) l y) : y = b * x :=
  least_unique (least_congr (fun _ hp => cf_times F hp) hy) (least_mul b hx)

set_option maxHeartbeats 4000000 in
set_option maxRecDepth 100000 in
theorem scale_any (v : Value) (l : List Int) (vc : Value) (c : List Int) (s by_ : Int) (w : World) (hv : IsInts w v l) (_ : ∃ ao cap, v = .slice ao l.length cap) (hvc : IsInts w vc c) (_ : ∃ ao cap, vc = .slice ao c.length cap) :
    Calls Try.prog 6 #[v, vc, .int .i64 s, .int .i64 by_] w fun e w' => e = .returned (.bool true) ∧ Below w.heap.size w w' := by
  have HV : Hid (IsInts w v l) := hv
  have HVC : Hid (IsInts w vc c) := hvc
  obtain ⟨ao, cap, rfl, _⟩ := hv.opened
  obtain ⟨ac, cac, rfl, hcac, hoc⟩ := hvc.opened
  have HOC : Hid (∀ k, k < c.length → ∃ b off, ac = some ⟨b, off, none⟩ ∧ c.length ≤ cac ∧ b < w.heap.size ∧ ∀ j, j < c.length → w.cell? ⟨b, off + j, none⟩ = some (.int .i64 (c[j]?.getD 0))) := hoc
  unfold maxLen at hcac
  clear hv hvc hoc
  obtain ⟨i0, hi, hz0, hz1, hz2⟩ := info_parts Try.info3
  have HI : Hid (Try.prog.info? 3 = some i0 ∧ i0.zero = some (.int .i64 0) ∧ i0.size = 1 ∧ i0.bytes = 8) := ⟨hi, hz0, hz1, hz2⟩
  clear hi hz0 hz1 hz2
  by_cases hb : within by_ 1 20 = true
  case neg =>
    have HK : Hid (within by_ 1 20 = false) := by unfold Hid; simpa using hb
    clear hb
    go_enter Try.func6, Try.ntmps6
    go_wp2_with (first | (go_at_call 8; go_must (refine (lfact_any _).mono ?_; rintro e w1 ⟨rfl, hb1⟩; have HB1 : Hid (Below w.heap.size w w1) := hb1; clear hb1)) | (go_at_call 9; go_must (refine (within_any _ _ _ _).mono ?_; rintro e w' ⟨rfl, hw⟩; have hw := hw.symm; subst hw; rw [HK.out])))
    go_ret
    exact ⟨rfl, HB1.out⟩
  have HK : Hid (within by_ 1 20 = true) := hb
  simp [within] at hb
  obtain ⟨B, rfl⟩ : ∃ B : Nat, by_ = B := ⟨by_.toNat, by omega⟩
  have hB1 : 1 ≤ B := by omega
  have hB20 : B ≤ 20 := by omega
  clear hb
  go_enter Try.func6, Try.ntmps6
  go_wp2_with (first | (go_at_call 8; go_must (refine (lfact_any _).mono ?_; rintro e w1 ⟨rfl, hb1⟩; have HB1 : Hid (Below w.heap.size w w1) := hb1; clear hb1)) | (go_at_call 9; go_must (refine (within_any _ _ _ _).mono ?_; rintro e w' ⟨rfl, hw⟩; have hw := hw.symm; subst hw; rw [HK.out])))
  go_loopw [10, 11] (fun vm i wr => ∃ k : Nat, k ≤ c.length ∧ k ≤ 7 ∧ i = .int .i64 k ∧ OwnI wr w.heap.size vm (moreTo c (B : Int) k) ∧ Below w.heap.size w wr) (fun _ i _ => 7 - (intOf i).toNat)
  case atStart => exact ⟨0, Nat.zero_le _, by omega, rfl, OwnI.nil _ _, HB1.out⟩
  case round =>
    obtain ⟨k, hk, hk7, rfl, hom, hbr⟩ := hrel
    have HBR : Hid (Below w.heap.size w wr) := hbr
    obtain ⟨am, cm, hvm⟩ := hom.form
    rw [moreTo_length hk] at hvm
    subst hvm
    have HOM : Hid (OwnI wr w.heap.size (.slice am k cm) (moreTo c (B : Int) k)) := hom
    clear hom hbr
    by_cases hlt : k < c.length
    · by_cases hlt7 : k < 7
      · obtain ⟨b, off, rfl, hlc, hbw, hcell⟩ := HOC.out k hlt
        have hck : wr.cell? ⟨b, off + k, none⟩ = some (.int .i64 (c[k]?.getD 0)) := (HBR.out.cell (by exact hbw)).trans (hcell k hlt)
        have HL : Hid ((moreTo c (B : Int) k).length = k) := moreTo_length hk
        have HR : Hid (moreTo c (B : Int) (k+1) = moreTo c (B : Int) k ++ [c[k]?.getD 0 * (B : Int)]) := moreTo_succ hlt
        clear hcell
        generalize moreTo c (B : Int) k = lk at *
        generalize c[k]?.getD 0 = q at *
        by_cases hq : within q 0 20 = true
        · have HQ : Hid (within q 0 20 = true) := hq
          simp [within] at hq
          obtain ⟨Q, rfl⟩ : ∃ Q : Nat, q = Q := ⟨q.toNat, by omega⟩
          have hQ : Q ≤ 20 := by omega
          have hm1 : Q * B ≤ 20 * 20 := Nat.mul_le_mul hQ hB20
          have hm2 : (Q : Int) * (B : Int) ≤ 400 := by exact_mod_cast hm1
          have hm3 : 0 ≤ (Q : Int) * (B : Int) := by exact_mod_cast Nat.zero_le _
          clear hq hm1
          go_wp2_with (first | (go_at_call 9; go_must (refine (within_any _ _ _ _).mono ?_; rintro e w' ⟨rfl, hw⟩; have hw := hw.symm; subst hw; rw [HQ.out])) | (at_builtin; (refine wpList_append_own _ rfl _ _ 22 rfl w.heap.size 3 i0 (.int .i64 0) 1 8 Try.underlying22 HI.out.1 HI.out.2.1 HI.out.2.2.1 HI.out.2.2.2 rfl (by decide) _ k (lk.map (Value.int .i64)) rfl (World.ownsRow.alloc (HOM.out.rows HL.out rfl) _) ⟨wr.heap.size, 0, none⟩ 1 1 [.int .i64 ((Q : Int) * (B : Int))] rfl rfl (by exact new_one _ _ _) (one_cell _) (by unfold maxLen; omega) (by omega) (by have := HBR.out.size; simp; omega) ?_; intro v2 w2 hown' hgrow _; have R := keeps_append HOM.out HL.out HBR.out.size hown' hgrow; have HR2 : Hid (OwnI w2 w.heap.size v2 (lk ++ [(Q : Int) * (B : Int)])) := R.1; have HK2 : Hid (Below w.heap.size w w2) := R.2.2 _ (Nat.le_refl _) HBR.out; clear hown' hgrow R)))
          go_roundw
          case rel => exact ⟨k + 1, by omega, by omega, by go_num, by rw [HR.out]; exact HR2.out, HK2.out⟩
          case measure => simp [intOf]; omega
        · have HQ : Hid (within q 0 20 = false) := by unfold Hid; simpa using hq
          clear hq
          go_wp2_with (go_at_call 9; go_must (refine (within_any _ _ _ _).mono ?_; rintro e w' ⟨rfl, hw⟩; have hw := hw.symm; subst hw; rw [HQ.out]))
          go_ret
          exact ⟨rfl, HBR.out⟩
      · have hk77 : k = 7 := by omega
        subst hk77
        have HC4 : Hid (chkC l c s = 4) := chkC_long (.inr (by omega))
        have HM4 : Hid (chkC l (moreTo c (B : Int) 7) s = 4) := chkC_long (.inr (by rw [moreTo_length hk]; omega))
        generalize moreTo c (B : Int) 7 = lk at *
        go_wp2_with (go_at_call 10; fail)
        refine (landlord_any _ _ l c s _ (HV.out.below HBR.out) (HVC.out.below HBR.out)).mono ?_
        rintro e w2 ⟨vp, vq, rfl, _, _, hb2⟩
        rw [HC4.out]
        have HB2 : Hid (Below w.heap.size w w2) := HBR.out.trans (hb2.mono HBR.out.size)
        have HM2 : Hid (IsInts w2 (.slice am 7 cm) lk) := HOM.out.isInts.below hb2
        clear hb2
        go_wp2_with (go_at_call 10; fail)
        refine (landlord_any _ _ l lk s _ (HV.out.below HB2.out) HM2.out).mono ?_
        rintro e w3 ⟨vp3, vq3, rfl, _, _, hb3⟩
        rw [HM4.out]
        have HB3 : Hid (Below w.heap.size w w3) := HB2.out.trans (hb3.mono HB2.out.size)
        have HM3 : Hid (IsInts w3 (.slice am 7 cm) lk) := HM2.out.below hb3
        clear hb3
        go_wp2_with (go_at_call 11; fail)
        refine (least_any _ _ l c s _ (HV.out.below HB3.out) (HVC.out.below HB3.out)).mono ?_
        rintro e w4 ⟨x, rfl, _, hb4⟩
        rw [HC4.out]
        have HB4 : Hid (Below w.heap.size w w4) := HB3.out.trans (hb4.mono HB3.out.size)
        have HM4' : Hid (IsInts w4 (.slice am 7 cm) lk) := HM3.out.below hb4
        clear hb4
        go_wp2_with (go_at_call 11; fail)
        refine (least_any _ _ l lk s _ (HV.out.below HB4.out) HM4'.out).mono ?_
        rintro e w5 ⟨y, rfl, _, hb5⟩
        rw [HM4.out]
        have HB5 : Hid (Below w.heap.size w w5) := HB4.out.trans (hb5.mono HB4.out.size)
        simp only [errV]
        generalize landN l c s = N1 at *
        generalize landN l lk s = N2 at *
        clear hb5 HV HVC HOC HOM
        go_wp2
        go_ret
        exact ⟨rfl, HB5.out⟩
    · have hkc : k = c.length := by omega
      subst hkc
      obtain ⟨lk, hlk⟩ : ∃ lk, moreTo c (B : Int) c.length = lk := ⟨_, rfl⟩
      have HLK : Hid (moreTo c (B : Int) c.length = lk) := hlk
      rw [hlk] at HOM
      clear hlk hlt
      go_wp2_with (go_at_call 10; fail)
      refine (landlord_any _ _ l c s _ (HV.out.below HBR.out) (HVC.out.below HBR.out)).mono ?_
      rintro e w2 ⟨vp, vq, rfl, hO2, _, hb2⟩
      have HB2 : Hid (Below w.heap.size w w2) := HBR.out.trans (hb2.mono HBR.out.size)
      have HM2 : Hid (IsInts w2 (.slice am c.length cm) lk) := HOM.out.isInts.below hb2
      have HP2 : Hid (IsInts w2 vp (tenants (landT l c s))) := hO2.isInts
      clear hb2 hO2
      go_wp2_with (go_at_call 10; fail)
      refine (landlord_any _ _ l lk s _ (HV.out.below HB2.out) HM2.out).mono ?_
      rintro e w3 ⟨vp3, vq3, rfl, hO3, _, hb3⟩
      have HB3 : Hid (Below w.heap.size w w3) := HB2.out.trans (hb3.mono HB2.out.size)
      have HM3 : Hid (IsInts w3 (.slice am c.length cm) lk) := HM2.out.below hb3
      have HP3 : Hid (IsInts w3 vp (tenants (landT l c s))) := HP2.out.below hb3
      have HQ3 : Hid (IsInts w3 vp3 (tenants (landT l lk s))) := hO3.isInts
      clear hb3 hO3
      go_wp2_with (go_at_call 11; fail)
      refine (least_any _ _ l c s _ (HV.out.below HB3.out) (HVC.out.below HB3.out)).mono ?_
      rintro e w4 ⟨x, rfl, hx, hb4⟩
      have HB4 : Hid (Below w.heap.size w w4) := HB3.out.trans (hb4.mono HB3.out.size)
      have HM4 : Hid (IsInts w4 (.slice am c.length cm) lk) := HM3.out.below hb4
      have HP4 : Hid (IsInts w4 vp (tenants (landT l c s))) := HP3.out.below hb4
      have HQ4 : Hid (IsInts w4 vp3 (tenants (landT l lk s))) := HQ3.out.below hb4
      have HX : Hid (LeastN l c s x) := hx
      clear hb4 hx
      go_wp2_with (go_at_call 11; fail)
      refine (least_any _ _ l lk s _ (HV.out.below HB4.out) HM4.out).mono ?_
      rintro e w5 ⟨y, rfl, hy, hb5⟩
      have HB5 : Hid (Below w.heap.size w w5) := HB4.out.trans (hb5.mono HB4.out.size)
      have HP5 : Hid (IsInts w5 vp (tenants (landT l c s))) := HP4.out.below hb5
      have HQ5 : Hid (IsInts w5 vp3 (tenants (landT l lk s))) := HQ4.out.below hb5
      clear hb5 HV HVC HOC HOM HM2 HM3 HM4 HP2 HP3 HP4 HQ3 HQ4
      by_cases hc : chkC l c s = 0
      case neg =>
        have hn : chkC l c s = 1 ∨ chkC l c s = 4 := by have := chkC_cases l c s; omega
        generalize landN l c s = N1 at *
        generalize landN l lk s = N2 at *
        clear HX hy HP5 HQ5
        generalize errV (chkC l lk s) = er at *
        rcases hn with hn | hn
        all_goals
          rw [hn]
          clear hn hc
          simp only [errV]
          go_wp2
          go_ret
          exact ⟨rfl, HB5.out⟩
      by_cases hc2 : chkC l lk s = 0
      case neg =>
        have hn : chkC l lk s = 1 ∨ chkC l lk s = 4 := by have := chkC_cases l lk s; omega
        generalize landN l c s = N1 at *
        generalize landN l lk s = N2 at *
        clear HX hy HP5 HQ5
        rw [hc]
        rcases hn with hn | hn
        all_goals
          rw [hn]
          clear hn hc hc2
          simp only [errV, if_true]
          go_wp2
          go_ret
          exact ⟨rfl, HB5.out⟩
      have F := chkC_zero hc
      have e1 : landN l lk s = B * landN l c s := by rw [landN, landN, if_pos hc, if_pos hc2, ← HLK.out]; exact scale_paid F hB1
      have e2 : tenants (landT l lk s) = tenants (landT l c s) := by rw [landT, landT, if_pos hc, if_pos hc2, ← HLK.out]; exact scale_held F hB1
      have e3 : y = B * x := by
        have h2 := hy.ok hc2
        rw [← HLK.out] at h2
        exact scale_least F (HX.out.ok hc) h2
      have h1 : landN l c s ≤ 800 := by rw [landN, if_pos hc]; exact lpaid_most F
      have h2 : x ≤ 800 := least_most F (by have := F.slots; omega) (HX.out.ok hc)
      rw [hc, hc2, e1, e3, show errV 0 = .nilIface from rfl]
      rw [e2] at HQ5
      generalize landN l c s = N1 at *
      generalize tenants (landT l c s) = tn at *
      have hm1 : N1 * B ≤ 800 * 20 := Nat.mul_le_mul h1 hB20
      have hm2 : x * B ≤ 800 * 20 := Nat.mul_le_mul h2 hB20
      have hm3 : (N1 : Int) * (B : Int) ≤ 16000 := by exact_mod_cast hm1
      have hm4 : 0 ≤ (N1 : Int) * (B : Int) := by exact_mod_cast Nat.zero_le _
      have hm5 : (x : Int) * (B : Int) ≤ 16000 := by exact_mod_cast hm2
      have hm6 : 0 ≤ (x : Int) * (B : Int) := by exact_mod_cast Nat.zero_le _
      have q1 : ((B * N1 : Nat) : Int) = (N1 : Int) * (B : Int) := by rw [Int.natCast_mul, Int.mul_comm]
      have q2 : ((B * x : Nat) : Int) = (x : Int) * (B : Int) := by rw [Int.natCast_mul, Int.mul_comm]
      rw [q1, q2]
      clear hc hc2 F e1 e2 e3 HX hy HLK hm1 hm2 q1 q2 HK
      go_wp2_with (go_at_call 15; go_must (refine (ints_same _ _ tn _ HP5.out HQ5.out).mono ?_; rintro e w6 ⟨rfl, q, rfl⟩))
      go_ret
      exact ⟨rfl, below_drewN HB5.out _⟩

theorem landScale_own : ownKnob Try.prog.godebug = none := by kernel_rfl
theorem landScale_laidOut : laidOutB Try.prog = true := by kernel_rfl

set_option maxRecDepth 100000 in
theorem landScale_lifted (os : Os) (started : os.Started) (H : Type) (enc : TypeId × Value → H) :
    ReturnsInHanded {} Try.checked os 6 .any (Rows.landScaleSpec.pre6 enc Try.prog Try.f6 Rows.landScaleRow.domain false) (Rows.landScaleSpec.post enc Try.prog Try.f6 false true false false) := by
  refine returnsInHanded_of_change (C := Try.checked) landScale_own started (by kernel_rfl) Try.func6
    (ChangeSpec.witness6 (enc := enc) (C := Try.checked) false ⟨#[], #[.slice none 0 0, .slice none 0 0, .int .i64 0, .int .i64 0], []⟩ 8 (by kernel_rfl) (by kernel_rfl) (by kernel_rfl) (by kernel_rfl)) ?_
  intro W base args ds gs before hval0 hW _ _
  have hval : ∀ (j : Nat) t v, Try.f6.params[j]? = some t → args[j]? = some v → Value.okWide Try.prog W .any base t v := hval0
  have hW' : DataW.Whole enc Try.prog Try.f6.params.toList Rows.landScaleSpec.vars false W args.toList ds gs before := hW
  obtain ⟨p, q, hA0, hV, rfl, hfz, hnd⟩ := hW
  have hA : DataW.TrodAll enc Try.prog W 0 (fun _ => true) true Try.f6.params.toList args.toList ds p := hA0
  rw [Try.params6] at hA hval
  obtain ⟨v0, vs0, d0, ds0, p0, q0, hargs, rfl, rfl, h0, r0⟩ := trodAll_cons hA
  obtain ⟨v1, vs1, d1, ds1, p1, q1, rfl, rfl, rfl, h1, r1⟩ := trodAll_cons r0
  obtain ⟨v2, vs2, d2, ds2, p2, q2, rfl, rfl, rfl, h2, r2⟩ := trodAll_cons r1
  obtain ⟨v3, vs3, d3, ds3, p3, q3, rfl, rfl, rfl, h3, r3⟩ := trodAll_cons r2
  obtain ⟨rfl, rfl, rfl⟩ := trodAll_nil r3
  obtain rfl : args = #[v0, v1, v2, v3] := by cases args; simp_all
  obtain ⟨rfl, rfl⟩ := trodVars_none hV
  obtain ⟨n2, rfl, rfl, rfl, wn2⟩ := open_int Try.underlying3 (hval 2 3 v2 rfl rfl) h2
  obtain ⟨n3, rfl, rfl, rfl, wn3⟩ := open_int Try.underlying3 (hval 3 3 v3 rfl rfl) h3
  obtain ⟨l0, ao0, cap0, hv0, hl0⟩ := arg_ints Try.underlying22 Try.underlying3 (by kernel_rfl) (hval 0 22 v0 rfl rfl) h0
  obtain ⟨l1, ao1, cap1, hv1, hl1⟩ := arg_ints Try.underlying22 Try.underlying3 (by kernel_rfl) (hval 1 22 v1 rfl rfl) h1
  clear hA0 hval0
  refine (scale_any v0 l0 v1 l1 n2 n3 W hl0 ⟨ao0, cap0, hv0⟩ hl1 ⟨ao1, cap1, hv1⟩).mono fun e W' ⟨he, hb⟩ => ?_
  subst he
  exact ⟨_, rfl, law_post hW' hb landScale_laidOut rfl (by kernel_rfl) (by kernel_rfl) Try.underlying4 rfl rfl rfl⟩

theorem landScale_holds : Rows.LandScaleSaid :=
  OpenClaim.holds_of_wide 6 Try.f6 rfl rfl rfl rfl rfl rfl rfl ⟨rfl, rfl, rfl, rfl, rfl⟩ rfl rfl rfl rfl rfl (by kernel_rfl) Try.func6 (by kernel_rfl)
    (of_decide_eq_true (by kernel_rfl)) (by unfold Func.isWrapper; first | (rw [if_pos (by decide +kernel)]; kernel_rfl) | (rw [if_neg (by decide +kernel)]; exact ⟨rfl, rfl⟩))
    (fun os started H enc _ => landScale_lifted os started H enc)
end Go.Proofs.Ytedmfehjifknbaa
