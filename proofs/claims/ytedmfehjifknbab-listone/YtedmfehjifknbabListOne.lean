/- ListOne is proved: for every number of things, every thing and every number of times, on every schedule, it returns true: looking for one and the same thing costs as much as its place and one each time, by moving to the front, and at least. No condition. -/
import Derived.Test.YtedmfehjifknbabListFact
import Derived.Test.YtedmfehjifknbabLawIn2
import Derived.Test.YtedmfehjifknbabLawkit
namespace Go.Proofs.Ytedmfehjifknbab
open Go.ChangeShapes Go.WideShapes Go.ChangeAt Go.RowKit Go.Sort

theorem pos_un {n x : Nat} (hn : n ≤ 4) (hx : x < n) : pos (Un n) (x : Int) = x := by
  rcases (by omega : n = 1 ∨ n = 2 ∨ n = 3 ∨ n = 4) with rfl | rfl | rfl | rfl
  · rcases (by omega : x = 0) with rfl; decide
  · rcases (by omega : x = 0 ∨ x = 1) with rfl | rfl <;> decide
  · rcases (by omega : x = 0 ∨ x = 1 ∨ x = 2) with rfl | rfl | rfl <;> decide
  · rcases (by omega : x = 0 ∨ x = 1 ∨ x = 2 ∨ x = 3) with rfl | rfl | rfl | rfl <;> decide
theorem rep_get {m : Nat} {x : Int} : ∀ k, k < (List.replicate m x).length → (List.replicate m x)[k]?.getD 0 = x := fun k hk => by
  rw [List.length_replicate] at hk
  rw [List.getElem?_replicate, if_pos hk]; rfl
/-- One and the same thing: what it costs. -/
theorem one_facts {n m : Nat} {x : Int} (F : FineL (n : Int) (List.replicate m x)) (hm : 1 ≤ m) {y : Nat} (hy : LeastLook (Un n) (List.replicate m x) y) : (wayCost (fun _ => 0) (Un n) (List.replicate m x) m : Int) = x + m ∧ (y : Int) = x + m := by
  have ht := F.thing 0 (by rw [List.length_replicate]; omega)
  rw [rep_get 0 (by rw [List.length_replicate]; omega)] at ht
  obtain ⟨z, rfl⟩ : ∃ z : Nat, x = z := ⟨x.toNat, by omega⟩
  have hn4 : n ≤ 4 := by have := F.low; omega
  have h1 := front_same (U := Un n) (x := (z : Int)) (l := List.replicate m (z : Int)) rep_get m hm (by rw [List.length_replicate]; exact Nat.le_refl _)
  have hp := pos_un hn4 (show z < n by omega)
  rw [hp] at h1
  obtain ⟨B, hB⟩ := hy.some
  have h2 := looks_same (Un_nodup n) (x := (z : Int)) (Un_mem.2 ht) rep_get hB (by rw [List.length_replicate]; exact hm)
  have h3 := list_least (f := fun _ => 0) (fun _ => Nat.zero_le _) (Un_nodup n) (thing_in F) hy
  rw [List.length_replicate] at h2 h3
  rw [hp] at h2
  omega
theorem none_facts {n : Nat} {y : Nat} (hy : LeastLook (Un n) [] y) : y = 0 := by
  obtain ⟨B, hB⟩ := hy.some
  have := hy.all _ _ (Looks.start (U := Un n) (l := []))
  omega

set_option maxHeartbeats 2000000 in
set_option maxRecDepth 100000 in
theorem one_any (n x many_ : Int) (w : World) :
    Calls Try.prog 6 #[.int .i64 n, .int .i64 x, .int .i64 many_] w fun e w' => e = .returned (.bool true) ∧ Below w.heap.size w w' := by
  obtain ⟨i0, hi, hz0, hz1, hz2⟩ := info_parts Try.info3
  have HI : Hid (Try.prog.info? 3 = some i0 ∧ i0.zero = some (.int .i64 0) ∧ i0.size = 1 ∧ i0.bytes = 8) := ⟨hi, hz0, hz1, hz2⟩
  clear hi hz0 hz1 hz2
  by_cases hb : within many_ 0 40 = true
  case neg =>
    have HK : Hid (within many_ 0 40 = false) := by unfold Hid; simpa using hb
    clear hb
    go_enter Try.func6, Try.ntmps6
    go_wp2_with (first | (go_at_call 7; go_must (refine (tfact_any _).mono ?_; rintro e w1 ⟨rfl, hb1⟩; have HB1 : Hid (Below w.heap.size w w1) := hb1; clear hb1)) | (go_at_call 14; go_must (refine (within_any _ _ _ _).mono ?_; rintro e w' ⟨rfl, hw⟩; have hw := hw.symm; subst hw; rw [HK.out])))
    go_ret
    exact ⟨rfl, HB1.out⟩
  have HK : Hid (within many_ 0 40 = true) := hb
  simp [within] at hb
  obtain ⟨M, rfl⟩ : ∃ M : Nat, many_ = M := ⟨many_.toNat, by omega⟩
  have hM : M ≤ 40 := by omega
  clear hb
  go_enter Try.func6, Try.ntmps6
  go_wp2_with (first | (go_at_call 7; go_must (refine (tfact_any _).mono ?_; rintro e w1 ⟨rfl, hb1⟩; have HB1 : Hid (Below w.heap.size w w1) := hb1; clear hb1)) | (go_at_call 14; go_must (refine (within_any _ _ _ _).mono ?_; rintro e w' ⟨rfl, hw⟩; have hw := hw.symm; subst hw; rw [HK.out])))
  go_loopw [8, 9] (fun vc i wr => ∃ k : Nat, k ≤ M ∧ i = .int .i64 k ∧ OwnI wr w.heap.size vc (List.replicate k x) ∧ Below w.heap.size w wr) (fun _ i _ => M - (intOf i).toNat)
  case atStart => exact ⟨0, Nat.zero_le _, rfl, OwnI.nil _ _, HB1.out⟩
  case round =>
    obtain ⟨k, hk, rfl, hoc, hbr⟩ := hrel
    have HBR : Hid (Below w.heap.size w wr) := hbr
    obtain ⟨ac, cc, hvc⟩ := hoc.form
    rw [List.length_replicate] at hvc
    subst hvc
    have HOC : Hid (OwnI wr w.heap.size (.slice ac k cc) (List.replicate k x)) := hoc
    clear hoc hbr
    by_cases hlt : k < M
    · have HL : Hid ((List.replicate k x).length = k) := List.length_replicate ..
      have HR : Hid (List.replicate (k+1) x = List.replicate k x ++ [x]) := List.replicate_succ' ..
      generalize List.replicate k x = lk at *
      go_wp2_with (at_builtin; (refine wpList_append_own _ rfl _ _ 22 rfl w.heap.size 3 i0 (.int .i64 0) 1 8 Try.underlying22 HI.out.1 HI.out.2.1 HI.out.2.2.1 HI.out.2.2.2 rfl (by decide) _ k (lk.map (Value.int .i64)) rfl (World.ownsRow.alloc (HOC.out.rows HL.out rfl) _) ⟨wr.heap.size, 0, none⟩ 1 1 [.int .i64 x] rfl rfl (by exact new_one _ _ _) (one_cell _) (by unfold maxLen; omega) (by omega) (by have := HBR.out.size; simp; omega) ?_; intro v2 w2 hown' hgrow _; have R := keeps_append HOC.out HL.out HBR.out.size hown' hgrow; have HR2 : Hid (OwnI w2 w.heap.size v2 (lk ++ [x])) := R.1; have HK2 : Hid (Below w.heap.size w w2) := R.2.2 _ (Nat.le_refl _) HBR.out; clear hown' hgrow R))
      go_roundw
      case rel => exact ⟨k + 1, by omega, by go_num, by rw [HR.out]; exact HR2.out, HK2.out⟩
      case measure => simp [intOf]; omega
    · have hkN : k = M := by omega
      subst hkN
      clear hlt
      go_wp2_with (go_at_call 8; fail)
      refine (front_any n _ (List.replicate k x) _ HOC.out.isInts).mono ?_
      rintro e w2 ⟨vr, rfl, _, hb2⟩
      have HB2 : Hid (Below w.heap.size w w2) := HBR.out.trans (hb2.mono HBR.out.size)
      have HI2 : Hid (IsInts w2 (.slice ac k cc) (List.replicate k x)) := HOC.out.isInts.below hb2
      clear hb2 HBR HOC
      go_wp2_with (go_at_call 9; fail)
      refine (oleast_any n _ (List.replicate k x) _ HI2.out).mono ?_
      rintro e w3 ⟨y, rfl, hy, hb3⟩
      have HB3 : Hid (Below w.heap.size w w3) := HB2.out.trans (hb3.mono HB2.out.size)
      clear hb3 HB2 HI2
      by_cases hc : chkL n (List.replicate k x) = 0
      · have F := chkL_zero hc
        obtain ⟨m, rfl⟩ : ∃ m : Nat, n = m := ⟨n.toNat, by have := F.low; omega⟩
        have hyl := hy.ok hc
        rw [Int.toNat_natCast] at hyl
        rw [hc, lookN, if_pos hc, Int.toNat_natCast, List.length_replicate, show errV 0 = .nilIface from rfl]
        by_cases h0 : k = 0
        · subst h0
          have hy0 := none_facts hyl
          subst hy0
          rw [show wayCost (fun _ => 0) (Un m) (List.replicate 0 x) 0 = 0 from rfl]
          clear F hyl hy hc
          go_wp2
          go_ret
          exact ⟨rfl, HB3.out⟩
        · have R := one_facts F (by omega) hyl
          have ht := F.thing 0 (by rw [List.length_replicate]; omega)
          rw [rep_get 0 (by rw [List.length_replicate]; omega)] at ht
          have hlow := F.low
          have hk0 : ((k : Int) == 0) = false := beq_eq_false_iff_ne.2 (by omega)
          generalize wayCost (fun _ => 0) (Un m) (List.replicate k x) k = a at *
          obtain ⟨R1, R2⟩ := R
          have e1 : ((a : Int) == x + (k : Int)) = true := by rw [R1]; exact beq_self_eq_true _
          have e2 : ((y : Int) == x + (k : Int)) = true := by rw [R2]; exact beq_self_eq_true _
          clear F hyl hy hc R1 R2
          go_wp2
          go_ret
          exact ⟨rfl, HB3.out⟩
      · have hcn : chkL n (List.replicate k x) = 1 ∨ chkL n (List.replicate k x) = 4 := by have := chkL_cases n (List.replicate k x); omega
        generalize lookN (fun _ => 0) n (List.replicate k x) = N at *
        rcases hcn with hcn | hcn
        all_goals
          rw [hcn]
          clear hcn hc hy
          simp only [errV]
          go_wp2
          go_ret
          exact ⟨rfl, HB3.out⟩

theorem listOne_own : ownKnob Try.prog.godebug = none := by kernel_rfl
theorem listOne_laidOut : laidOutB Try.prog = true := by kernel_rfl

set_option maxRecDepth 100000 in
theorem listOne_lifted (os : Os) (started : os.Started) (H : Type) (enc : TypeId × Value → H) :
    ReturnsInHanded {} Try.checked os 6 .any (Rows.listOneSpec.pre6 enc Try.prog Try.f6 Rows.listOneRow.domain false) (Rows.listOneSpec.post enc Try.prog Try.f6 false true false false) := by
  refine returnsInHanded_of_change (C := Try.checked) listOne_own started (by kernel_rfl) Try.func6
    (ChangeSpec.witness6 (enc := enc) (C := Try.checked) false ⟨#[], #[.int .i64 0, .int .i64 0, .int .i64 0], []⟩ 8 (by kernel_rfl) (by kernel_rfl) (by kernel_rfl) (by kernel_rfl)) ?_
  intro W base args ds gs before hval0 hW _ _
  have hval : ∀ (j : Nat) t v, Try.f6.params[j]? = some t → args[j]? = some v → Value.okWide Try.prog W .any base t v := hval0
  have hW' : DataW.Whole enc Try.prog Try.f6.params.toList Rows.listOneSpec.vars false W args.toList ds gs before := hW
  obtain ⟨p, q, hA0, hV, rfl, hfz, hnd⟩ := hW
  have hA : DataW.TrodAll enc Try.prog W 0 (fun _ => true) true Try.f6.params.toList args.toList ds p := hA0
  rw [Try.params6] at hA hval
  obtain ⟨v0, vs0, d0, ds0, p0, q0, hargs, rfl, rfl, h0, r0⟩ := trodAll_cons hA
  obtain ⟨v1, vs1, d1, ds1, p1, q1, rfl, rfl, rfl, h1, r1⟩ := trodAll_cons r0
  obtain ⟨v2, vs2, d2, ds2, p2, q2, rfl, rfl, rfl, h2, r2⟩ := trodAll_cons r1
  obtain ⟨rfl, rfl, rfl⟩ := trodAll_nil r2
  obtain rfl : args = #[v0, v1, v2] := by cases args; simp_all
  obtain ⟨rfl, rfl⟩ := trodVars_none hV
  obtain ⟨n0, rfl, rfl, rfl, wn0⟩ := open_int Try.underlying3 (hval 0 3 v0 rfl rfl) h0
  obtain ⟨n1, rfl, rfl, rfl, wn1⟩ := open_int Try.underlying3 (hval 1 3 v1 rfl rfl) h1
  obtain ⟨n2, rfl, rfl, rfl, wn2⟩ := open_int Try.underlying3 (hval 2 3 v2 rfl rfl) h2
  clear hA0 hval0
  refine (one_any n0 n1 n2 W ).mono fun e W' ⟨he, hb⟩ => ?_
  subst he
  exact ⟨_, rfl, law_post hW' hb listOne_laidOut rfl (by kernel_rfl) (by kernel_rfl) Try.underlying4 rfl rfl rfl⟩

theorem listOne_holds : Rows.ListOneSaid :=
  OpenClaim.holds_of_wide 6 Try.f6 rfl rfl rfl rfl rfl rfl rfl ⟨rfl, rfl, rfl, rfl, rfl⟩ rfl rfl rfl rfl rfl (by kernel_rfl) Try.func6 (by kernel_rfl)
    (of_decide_eq_true (by kernel_rfl)) (by unfold Func.isWrapper; first | (rw [if_pos (by decide +kernel)]; kernel_rfl) | (rw [if_neg (by decide +kernel)]; exact ⟨rfl, rfl⟩))
    (fun os started H enc _ => listOne_lifted os started H enc)
end Go.Proofs.Ytedmfehjifknbab
