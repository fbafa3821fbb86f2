/- TopCosts is proved: for every list of requests, every price and number of days, every list of times, all places of two servers and every list of asks, in whatever memory and on every schedule, it returns true and leaves its arguments as they were: moving to the front, buying when renting was as dear, telling when waiting was as dear, and going from both sides by two, are no more than twice the least (and what two were apart). No condition. -/
import Derived.Test.YtnjfmlojbaigjabOLook
import Derived.Test.YtnjfmlojbaigjabOLeast
import Derived.Test.YtnjfmlojbaigjabSki
import Derived.Test.YtnjfmlojbaigjabARun
import Derived.Test.YtnjfmlojbaigjabAckTwiceL
import Derived.Test.YtnjfmlojbaigjabWLeast
import Derived.Test.YtnjfmlojbaigjabSGo
import Derived.Test.YtnjfmlojbaigjabPLeast
import Derived.Test.YtnjfmlojbaigjabRefAbs
import Derived.Test.YtnjfmlojbaigjabLawkit
import Derived.Deep.QuietTactic
namespace Go.Proofs.Ytnjfmlojbaigjab
set_option maxRecDepth 100000
open Go.ChangeShapes Go.WideShapes Go.ChangeAt Go.RowKit Go.Sort

theorem err_two (c : Nat) (h : c ≠ 0) : ∃ z, errV c = .iface 83 z := by
  obtain ⟨k, rfl⟩ : ∃ k, c = k + 1 := ⟨c - 1, by omega⟩
  exact ⟨_, rfl⟩
/-- What is told of looking. -/
theorem top_list {l : List Int} {y : Nat} (hy : LookN 3 l y) : (errV (chkL 3 l) = .nilIface ∧ ((lookN (fun _ => 0) 3 l : Nat) : Int) ≤ 2 * (y : Int) ∧ (y : Int) ≤ 160 ∧ lookN (fun _ => 0) 3 l ≤ 160) ∨ ∃ z, errV (chkL 3 l) = .iface 83 z := by
  by_cases hc : chkL 3 l = 0
  · refine .inl ⟨by rw [hc]; rfl, ?_⟩
    have F : FineL ((3 : Nat) : Int) l := chkL_zero hc
    have hxl := hy.ok hc
    rw [show (3 : Int).toNat = 3 from rfl] at hxl
    have h1 := list_twice (Un_nodup 3) (thing_in F) hxl
    have h2 := list_least (f := fun _ => 0) (fun _ => Nat.zero_le _) (Un_nodup 3) (thing_in F) hxl
    have h3 := way_cost_le (f := fun _ => 0) (Un_nodup 3) (thing_in F) l.length (Nat.le_refl _)
    rw [Un_length] at h3
    have := Nat.mul_le_mul F.reqs (Nat.le_refl 3)
    have e : lookN (fun _ => 0) 3 l = wayCost (fun _ => 0) (Un 3) l l.length := by unfold lookN; rw [if_pos hc]; rfl
    rw [e]
    omega
  · exact .inr (err_two _ hc)
/-- What is told of renting and buying. -/
theorem top_ski (p d : Int) : (errV (chkB p d p) = .nilIface ∧ errV (chkS p d) = .nilIface ∧ costS p d p ≤ 2 * leastS p d ∧ 0 ≤ leastS p d ∧ leastS p d ≤ 1000 ∧ costS p d p ≤ 2000) ∨ ∃ z, errV (chkB p d p) = .iface 83 z ∧ errV (chkS p d) = .iface 83 z := by
  by_cases h : FineS p d
  · have hB : FineB p := by unfold FineS at h; unfold FineB; omega
    refine .inl ⟨by unfold chkB; rw [if_pos ⟨h, hB⟩]; rfl, by unfold chkS; rw [if_pos h]; rfl, ?_⟩
    unfold costS leastS
    rw [if_pos ⟨h, hB⟩, if_pos h]
    unfold FineS at h
    repeat' split
    all_goals omega
  · refine .inr ⟨_, by unfold chkB; rw [if_neg (fun e => h e.1)]; rfl, by unfold chkS; rw [if_neg h]; rfl⟩
/-- What is told of telling. -/
theorem top_ack {l : List Int} {p : Int} {y : Nat} (hy : Wt.LeastA l p y) : (errV (chkA l p) = .nilIface ∧ paidA l p ≤ 2 * (y : Int) ∧ (y : Int) ≤ 800 ∧ 0 ≤ paidA l p ∧ paidA l p ≤ 800) ∨ ∃ z, errV (chkA l p) = .iface 83 z := by
  by_cases hc : chkA l p = 0
  · have F := chkA_zero hc
    have h1 := least_run (by have := F.price; omega) F.rise (hy.ok hc)
    have h2 := tc_most F
    have e : paidA l p = tc p l := by unfold paidA; rw [if_pos hc]
    refine .inl ⟨by rw [hc]; rfl, ?_⟩
    rw [e]
    omega
  · exact .inr (err_two _ hc)
/-- What is told of two servers. -/
theorem top_serve {a b : Int} {asks : List Int} {y : Nat} (hy : LeastS [a, b] asks y) : (errV (chkV [a, b] asks) = .nilIface ∧ goN true [a, b] asks ≤ 2 * (y : Int) + zabs (a - b) ∧ (y : Int) ≤ 240 ∧ (0 ≤ goN true [a, b] asks ∧ goN true [a, b] asks ≤ 240) ∧ (-1000 ≤ a ∧ a ≤ 1000) ∧ (-1000 ≤ b ∧ b ≤ 1000) ∧ 0 ≤ zabs (a - b) ∧ zabs (a - b) ≤ 12) ∨ ∃ z, errV (chkV [a, b] asks) = .iface 83 z := by
  by_cases hc : chkV [a, b] asks = 0
  · have F := chkV_zero hc
    have hX := hy.ok hc
    have RO := rowOk true F.some F.line F.asked _ (Nat.le_refl asks.length)
    have hb := row_both F.some F.line F.asked _ (Nat.le_refl asks.length)
    have h1 := leastGo_double ⟨by simp, by simp⟩ F.line F.asked hX hb
    have h2 := leastGo_both F.line F.asked hX hb
    have ha12 := F.line a (by simp)
    have hb12 := F.line b (by simp)
    have e : goN true [a, b] asks = goCost true [a, b] asks asks.length := by unfold goN; rw [if_pos hc]
    rw [show (([a, b] : List Int).length : Int) = 2 from rfl, apart_two ha12 hb12] at h1
    have h3 := RO.cost
    have h4 := F.many
    have h5 : zabs (b - a) = zabs (a - b) := by unfold zabs; omega
    have h6 : 0 ≤ zabs (a - b) ∧ zabs (a - b) ≤ 12 := by unfold zabs; omega
    refine .inl ⟨by rw [hc]; rfl, ?_⟩
    rw [e]
    rw [h5] at h1
    refine ⟨h1, by omega, by omega, by omega, by omega, h6⟩
  · exact .inr (err_two _ hc)
theorem two_new (w : World) (a b : Int) : IsInts (w.alloc (.cells #[.int .i64 a, .int .i64 b] 3)) (.slice (some ⟨w.heap.size, 0, none⟩) 2 2) [a, b] ∧ Below w.heap.size w (w.alloc (.cells #[.int .i64 a, .int .i64 b] 3)) :=
  ⟨isInts_new (l := [a, b]) (t := 3) (cur := #[.int .i64 a, .int .i64 b]) rfl (by simp) (heap_alloc_new _ _), (Below.refl w.heap.size w).alloc (Nat.le_refl _) _⟩

set_option maxHeartbeats 16000000 in
theorem costs_any (v0 : Value) (l0 : List Int) (p d : Int) (v3 : Value) (l3 : List Int) (a b : Int) (v6 : Value) (l6 : List Int) (w : World) (hv0 : IsInts w v0 l0) (_ : ∃ ao cap, v0 = .slice ao l0.length cap) (hv3 : IsInts w v3 l3) (_ : ∃ ao cap, v3 = .slice ao l3.length cap) (hv6 : IsInts w v6 l6) (_ : ∃ ao cap, v6 = .slice ao l6.length cap) :
    Calls Try.prog 3 #[v0, .int .i64 p, .int .i64 d, v3, .int .i64 a, .int .i64 b, v6] w fun e w' => e = .returned (.bool true) ∧ Below w.heap.size w w' := by
  have HV0 : Hid (IsInts w v0 l0) := hv0
  have HV3 : Hid (IsInts w v3 l3) := hv3
  have HV6 : Hid (IsInts w v6 l6) := hv6
  obtain ⟨a0, c0, rfl, _⟩ := hv0.opened
  obtain ⟨a3, c3, rfl, _⟩ := hv3.opened
  obtain ⟨a6, c6, rfl, _⟩ := hv6.opened
  have HK : Hid (∀ w : World, Calls Try.prog 4 #[.int .i64 1, .int .i64 5] w fun e w' => e = .returned (.tuple #[.int .i64 1, .nilIface]) ∧ w' = w) := fun w => by
    refine (seven_any 1 5 w).mono ?_
    rintro e w' ⟨rfl, hw⟩
    exact ⟨by rw [show costS 1 5 1 = 1 by decide, show chkB 1 5 1 = 0 by decide]; rfl, hw⟩
  have HEV : Hid (∀ w : World, Calls Try.prog 4 #[.int .i64 p, .int .i64 d] w fun e w' => e = .returned (.tuple #[.int .i64 (costS p d p), errV (chkB p d p)]) ∧ w' = w) := fun w => seven_any p d w
  have HSL : Hid (∀ w : World, Calls Try.prog 7 #[.int .i64 p, .int .i64 d] w fun e w' => e = .returned (.tuple #[.int .i64 (leastS p d), errV (chkS p d)]) ∧ w' = w) := fun w => sleast_any p d w
  have HTS := top_ski p d
  clear hv0 hv3 hv6
  generalize costS p d p = sc at *
  generalize leastS p d = sl at *
  generalize errV (chkB p d p) = se at *
  generalize errV (chkS p d) = sf at *
  have HTK : Hid ((se = .nilIface ∧ sf = .nilIface ∧ sc ≤ 2 * sl ∧ 0 ≤ sl ∧ sl ≤ 1000 ∧ sc ≤ 2000) ∨ ∃ z, se = .iface 83 z ∧ sf = .iface 83 z) := HTS
  clear HTS
  go_enter Try.func3, Try.ntmps3
  go_wp2_with (first | (go_at_call 4; go_must (refine (HK.out _).mono ?_; rintro e w' ⟨rfl, hw⟩; have hw := hw.symm; subst hw)) | (go_at_call 5; fail))
  refine (front_any 3 _ l0 _ HV0.out).mono ?_
  rintro e w2 ⟨vr, rfl, _, hb2⟩
  have HB2 : Hid (Below w.heap.size w w2) := hb2
  clear hb2 HK
  have HLX : Hid (∀ y, LookN 3 l0 y → (errV (chkL 3 l0) = .nilIface ∧ ((lookN (fun _ => 0) 3 l0 : Nat) : Int) ≤ 2 * (y : Int) ∧ (y : Int) ≤ 160 ∧ lookN (fun _ => 0) 3 l0 ≤ 160) ∨ ∃ z, errV (chkL 3 l0) = .iface 83 z) := fun y hy => top_list hy
  have HOL : Hid (∀ w', Below w.heap.size w w' → Calls Try.prog 6 #[.int .i64 3, .slice a0 l0.length c0] w' fun e w2 => ∃ x : Nat, e = .returned (.tuple #[.int .i64 x, errV (chkL 3 l0)]) ∧ LookN 3 l0 x ∧ Below w'.heap.size w' w2) := fun w' hb => oleast_any 3 _ l0 w' (HV0.out.below hb)
  generalize errV (chkL 3 l0) = le_ at *
  generalize lookN (fun _ => 0) 3 l0 = lx at *
  go_wp2_with (go_at_call 6; fail)
  refine (HOL.out _ HB2.out).mono ?_
  rintro e w3 ⟨y, rfl, hy, hb3⟩
  have HB3 : Hid (Below w.heap.size w w3) := HB2.out.trans (hb3.mono HB2.out.size)
  have hcase := HLX.out y hy
  clear hb3 HB2 HOL HLX hy
  rcases hcase with ⟨rfl, h1, h2, h3⟩ | ⟨z1, rfl⟩
  all_goals
    try have hd1 : decide (2 * (y : Int) < (lx : Int)) = false := decide_eq_false (by omega)
    go_wp2
    go_quiet (fail)
    have HB4 : Hid (Below w.heap.size w (w3.drewN nq)) := below_drewN HB3.out nq
    clear HB3
    generalize w3.drewN nq = w4 at *
    have htk := HTK.out
    rcases htk with ⟨rfl, rfl, k1, k2, k3, k4⟩ | ⟨z2, rfl, rfl⟩
    all_goals
      try have hd2 : decide (2 * sl < sc) = false := decide_eq_false (by omega)
      go_wp2_with (first | (go_at_call 4; go_must (refine (HEV.out _).mono ?_; rintro e w' ⟨rfl, hw⟩; have hw := hw.symm; subst hw)) | (go_at_call 7; go_must (refine (HSL.out _).mono ?_; rintro e w' ⟨rfl, hw⟩; have hw := hw.symm; subst hw)))
      go_quiet (fail)
      have HB5 : Hid (Below w.heap.size w (w4.drewN nq)) := below_drewN HB4.out nq
      clear HB4
      generalize w4.drewN nq = w5 at *
      go_wp2_with (go_at_call 8; fail)
      refine (arun_any _ l3 p _ (HV3.out.below HB5.out)).mono ?_
      rintro e w6 ⟨vt, rfl, _, hb6⟩
      have HB6 : Hid (Below w.heap.size w w6) := HB5.out.trans (hb6.mono HB5.out.size)
      clear hb6 HB5
      have HAX : Hid (∀ y, Wt.LeastA l3 p y → (errV (chkA l3 p) = .nilIface ∧ paidA l3 p ≤ 2 * (y : Int) ∧ (y : Int) ≤ 800 ∧ 0 ≤ paidA l3 p ∧ paidA l3 p ≤ 800) ∨ ∃ z, errV (chkA l3 p) = .iface 83 z) := fun y hy => top_ack hy
      have HAL : Hid (∀ w', Below w.heap.size w w' → Calls Try.prog 9 #[.slice a3 l3.length c3, .int .i64 p] w' fun e w2 => ∃ x : Nat, e = .returned (.tuple #[.int .i64 x, errV (chkA l3 p)]) ∧ Wt.LeastA l3 p x ∧ Below w'.heap.size w' w2) := fun w' hb => Wt.wleast_any _ l3 p w' (HV3.out.below hb)
      generalize errV (chkA l3 p) = ae at *
      generalize paidA l3 p = ax at *
      go_wp2_with (go_at_call 9; fail)
      refine (HAL.out _ HB6.out).mono ?_
      rintro e w7 ⟨y7, rfl, hy7, hb7⟩
      have HB7 : Hid (Below w.heap.size w w7) := HB6.out.trans (hb7.mono HB6.out.size)
      have hcase7 := HAX.out y7 hy7
      clear hb7 HB6 HAL HAX hy7
      rcases hcase7 with ⟨rfl, m1, m2, m3, m4⟩ | ⟨z3, rfl⟩
      all_goals
        try have hd3 : decide (2 * (y7 : Int) < ax) = false := decide_eq_false (by omega)
        go_wp2
        go_quiet (fail)
        have HB8 : Hid (Below w.heap.size w (w7.drewN nq)) := below_drewN HB7.out nq
        clear HB7
        generalize w7.drewN nq = w8 at *
        go_wp2_with (go_at_call 10; fail)
        have HN8 := two_new w8 a b
        refine (sdouble_any _ _ [a, b] l6 _ HN8.1 ((HV6.out.below HB8.out).below HN8.2)).mono ?_
        rintro e w9 ⟨vd, rfl, _, hb9⟩
        have hb89 : Below w8.heap.size w8 w9 := HN8.2.trans (hb9.mono HN8.2.size)
        have HB9 : Hid (Below w.heap.size w w9) := HB8.out.trans (hb89.mono HB8.out.size)
        clear hb9 hb89 HN8 HB8
        have HSX : Hid (∀ y, LeastS [a, b] l6 y → (errV (chkV [a, b] l6) = .nilIface ∧ goN true [a, b] l6 ≤ 2 * (y : Int) + zabs (a - b) ∧ (y : Int) ≤ 240 ∧ (0 ≤ goN true [a, b] l6 ∧ goN true [a, b] l6 ≤ 240) ∧ (-1000 ≤ a ∧ a ≤ 1000) ∧ (-1000 ≤ b ∧ b ≤ 1000) ∧ 0 ≤ zabs (a - b) ∧ zabs (a - b) ≤ 12) ∨ ∃ z, errV (chkV [a, b] l6) = .iface 83 z) := fun y hy => top_serve hy
        have HSLV : Hid (∀ w', Below w.heap.size w w' → Calls Try.prog 11 #[.slice (some ⟨w'.heap.size, 0, none⟩) 2 2, .slice a6 l6.length c6] (w'.alloc (.cells #[.int .i64 a, .int .i64 b] 3)) fun e w2 => ∃ x : Nat, e = .returned (.tuple #[.int .i64 x, errV (chkV [a, b] l6)]) ∧ LeastS [a, b] l6 x ∧ Below w'.heap.size w' w2) := fun w' hb => by
          have HN := two_new w' a b
          refine (vleast_any _ _ [a, b] l6 _ HN.1 ((HV6.out.below hb).below HN.2)).mono ?_
          rintro e w2 ⟨x, rfl, hx, hb2⟩
          exact ⟨x, rfl, hx, HN.2.trans (hb2.mono HN.2.size)⟩
        generalize errV (chkV [a, b] l6) = ve at *
        generalize goN true [a, b] l6 = vx at *
        go_wp2_with (go_at_call 11; fail)
        refine (HSLV.out _ HB9.out).mono ?_
        rintro e w10 ⟨y10, rfl, hy10, hb10⟩
        have HB10 : Hid (Below w.heap.size w w10) := HB9.out.trans (hb10.mono HB9.out.size)
        have hcase10 := HSX.out y10 hy10
        clear hb10 HB9 HSLV HSX hy10
        rcases hcase10 with ⟨rfl, n1, n2, n3, n4, n5, n6, n7⟩ | ⟨z4, rfl⟩
        · have HAB : Hid (∀ w, Calls Try.prog 12 #[.int .i64 a, .int .i64 b] w fun e w' => e = .returned (.int .i64 (zabs (a - b))) ∧ w' = w) := fun w => abs_any a b n4 n5 w
          generalize zabs (a - b) = dz at *
          have hd4 : decide (vx ≤ 2 * (y10 : Int) + dz) = true := decide_eq_true n1
          go_wp2
          go_quiet (first | (go_at_call 12; exact Calls.quiet_of_same (HAB.out _)))
          go_wp2
          go_ret
          exact ⟨rfl, below_drewN HB10.out _⟩
        · go_wp2
          go_quiet (fail)
          go_wp2
          go_ret
          exact ⟨rfl, below_drewN HB10.out _⟩

theorem topCosts_own : ownKnob Try.prog.godebug = none := by kernel_rfl
theorem topCosts_laidOut : laidOutB Try.prog = true := by kernel_rfl

set_option maxRecDepth 100000 in
theorem topCosts_lifted (os : Os) (started : os.Started) (H : Type) (enc : TypeId × Value → H) :
    ReturnsInHanded {} Try.checked os 3 .any (Rows.topCostsSpec.pre6 enc Try.prog Try.f3 Rows.topCostsRow.domain false) (Rows.topCostsSpec.post enc Try.prog Try.f3 false true false false) := by
  refine returnsInHanded_of_change (C := Try.checked) topCosts_own started (by kernel_rfl) Try.func3
    (ChangeSpec.witness6 (enc := enc) (C := Try.checked) false ⟨#[], #[.slice none 0 0, .int .i64 0, .int .i64 0, .slice none 0 0, .int .i64 0, .int .i64 0, .slice none 0 0], []⟩ 8 (by kernel_rfl) (by kernel_rfl) (by kernel_rfl) (by kernel_rfl)) ?_
  intro W base args ds gs before hval0 hW _ _
  have hval : ∀ (j : Nat) t v, Try.f3.params[j]? = some t → args[j]? = some v → Value.okWide Try.prog W .any base t v := hval0
  have hW' : DataW.Whole enc Try.prog Try.f3.params.toList Rows.topCostsSpec.vars false W args.toList ds gs before := hW
  obtain ⟨p, q, hA0, hV, rfl, hfz, hnd⟩ := hW
  have hA : DataW.TrodAll enc Try.prog W 0 (fun _ => true) true Try.f3.params.toList args.toList ds p := hA0
  rw [Try.params3] at hA hval
  obtain ⟨v0, vs0, d0, ds0, p0, q0, hargs, rfl, rfl, h0, r0⟩ := trodAll_cons hA
  obtain ⟨v1, vs1, d1, ds1, p1, q1, rfl, rfl, rfl, h1, r1⟩ := trodAll_cons r0
  obtain ⟨v2, vs2, d2, ds2, p2, q2, rfl, rfl, rfl, h2, r2⟩ := trodAll_cons r1
  obtain ⟨v3, vs3, d3, ds3, p3, q3, rfl, rfl, rfl, h3, r3⟩ := trodAll_cons r2
  obtain ⟨v4, vs4, d4, ds4, p4, q4, rfl, rfl, rfl, h4, r4⟩ := trodAll_cons r3
  obtain ⟨v5, vs5, d5, ds5, p5, q5, rfl, rfl, rfl, h5, r5⟩ := trodAll_cons r4
  obtain ⟨v6, vs6, d6, ds6, p6, q6, rfl, rfl, rfl, h6, r6⟩ := trodAll_cons r5
  obtain ⟨rfl, rfl, rfl⟩ := trodAll_nil r6
  obtain rfl : args = #[v0, v1, v2, v3, v4, v5, v6] := by cases args; simp_all
  obtain ⟨rfl, rfl⟩ := trodVars_none hV
  obtain ⟨n1, rfl, rfl, rfl, wn1⟩ := open_int Try.underlying3 (hval 1 3 v1 rfl rfl) h1
  obtain ⟨n2, rfl, rfl, rfl, wn2⟩ := open_int Try.underlying3 (hval 2 3 v2 rfl rfl) h2
  obtain ⟨n4, rfl, rfl, rfl, wn4⟩ := open_int Try.underlying3 (hval 4 3 v4 rfl rfl) h4
  obtain ⟨n5, rfl, rfl, rfl, wn5⟩ := open_int Try.underlying3 (hval 5 3 v5 rfl rfl) h5
  obtain ⟨l0, ao0, cap0, hv0, hl0⟩ := arg_ints Try.underlying22 Try.underlying3 (by kernel_rfl) (hval 0 22 v0 rfl rfl) h0
  obtain ⟨l3, ao3, cap3, hv3, hl3⟩ := arg_ints Try.underlying22 Try.underlying3 (by kernel_rfl) (hval 3 22 v3 rfl rfl) h3
  obtain ⟨l6, ao6, cap6, hv6, hl6⟩ := arg_ints Try.underlying22 Try.underlying3 (by kernel_rfl) (hval 6 22 v6 rfl rfl) h6
  clear hA0 hval0
  refine (costs_any v0 l0 n1 n2 v3 l3 n4 n5 v6 l6 W hl0 ⟨ao0, cap0, hv0⟩ hl3 ⟨ao3, cap3, hv3⟩ hl6 ⟨ao6, cap6, hv6⟩).mono fun e W' ⟨he, hb⟩ => ?_
  subst he
  exact ⟨_, rfl, law_post hW' hb topCosts_laidOut rfl (by kernel_rfl) (by kernel_rfl) Try.underlying4 rfl rfl rfl⟩

theorem topCosts_holds : Rows.TopCostsSaid :=
  OpenClaim.holds_of_wide 3 Try.f3 rfl rfl rfl rfl rfl rfl rfl ⟨rfl, rfl, rfl, rfl, rfl⟩ rfl rfl rfl rfl rfl (by kernel_rfl) Try.func3 (by kernel_rfl)
    (of_decide_eq_true (by kernel_rfl)) (by unfold Func.isWrapper; first | (rw [if_pos (by decide +kernel)]; kernel_rfl) | (rw [if_neg (by decide +kernel)]; exact ⟨rfl, rfl⟩))
    (fun os started H enc _ => topCosts_lifted os started H enc)
end Go.Proofs.Ytnjfmlojbaigjab
