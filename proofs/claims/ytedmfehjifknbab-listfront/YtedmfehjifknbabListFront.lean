/- ListFront is proved: for every number of things and every list of requests, in whatever memory and on every schedule, it returns true and leaves its argument as it was: at the end things stand in the order in which they were looked for last, the last one first, and those never looked for as they stood, behind them. No condition. -/
import Derived.Test.YtedmfehjifknbabListFact
import Derived.Test.YtedmfehjifknbabHas
import Derived.Test.YtedmfehjifknbabLate
import Derived.Test.YtedmfehjifknbabLawkit
namespace Go.Proofs.Ytedmfehjifknbab
open Go.ChangeShapes Go.WideShapes Go.ChangeAt Go.RowKit Go.Sort

theorem full_small {n : Nat} {l : List Int} (F : FineL (n : Int) l) (j : Nat) : (full (l.drop j)).length ≤ 4 := by
  have h := sumOn_sub (f := fun _ => 1) (full_nodup (l.drop j)) (B := Un n) fun x hx => thing_in F x (List.mem_of_mem_drop (full_mem.1 hx))
  have e : ∀ A : List Int, sumOn (fun _ => 1) A = A.length := fun A => by
    induction A with
    | nil => rfl
    | cons x A ih => rw [sumOn, ih, List.length_cons, Nat.add_comm]
  rw [e, e, Un_length] at h
  have := F.low
  omega
/-- The things below k that nobody looked for. -/
def restTo (l : List Int) (k : Nat) : List Int := (Un k).filter fun u => !l.contains u
theorem restTo_succ (l : List Int) (k : Nat) : restTo l (k+1) = if l.contains (k : Int) then restTo l k else restTo l k ++ [(k : Int)] := by
  unfold restTo Un
  rw [List.range_succ, List.map_append, List.filter_append]
  cases h : l.contains (k : Int) with
  | true => rw [if_pos rfl, List.map_cons, List.map_nil, List.filter_cons, h]; simp
  | false => rw [if_neg (by simp), List.map_cons, List.map_nil, List.filter_cons, h]; simp
theorem rest_has (l : List Int) (k : Nat) : (full l ++ restTo l k).contains (k : Int) = l.contains (k : Int) := by
  rw [Bool.eq_iff_iff, List.contains_iff_mem, List.contains_iff_mem, List.mem_append, full_mem]
  constructor
  · rintro (h | h)
    · exact h
    · have := Un_mem.1 (List.mem_filter.1 h).1
      omega
  · exact .inl
theorem rest_small (l : List Int) {k : Nat} (hk : k ≤ 4) : (restTo l k).length ≤ 4 := by
  have := List.length_filter_le (fun u => !l.contains u) (Un k)
  rw [Un_length] at this
  unfold restTo; omega

set_option maxHeartbeats 2000000 in
set_option maxRecDepth 100000 in
theorem lfront_any (n : Int) (v : Value) (l : List Int) (w : World) (hv : IsInts w v l) (_ : ∃ ao cap, v = .slice ao l.length cap) :
    Calls Try.prog 5 #[.int .i64 n, v] w fun e w' => e = .returned (.bool true) ∧ Below w.heap.size w w' := by
  have HV : Hid (IsInts w v l) := hv
  obtain ⟨ao, cap, rfl, hcap, ho⟩ := hv.opened
  have HO : Hid (∀ k, k < l.length → ∃ b off, ao = some ⟨b, off, none⟩ ∧ l.length ≤ cap ∧ b < w.heap.size ∧ ∀ j, j < l.length → w.cell? ⟨b, off + j, none⟩ = some (.int .i64 (l[j]?.getD 0))) := ho
  clear hv ho
  unfold maxLen at hcap
  obtain ⟨i0, hi, hz0, hz1, hz2⟩ := info_parts Try.info3
  have HI : Hid (Try.prog.info? 3 = some i0 ∧ i0.zero = some (.int .i64 0) ∧ i0.size = 1 ∧ i0.bytes = 8) := ⟨hi, hz0, hz1, hz2⟩
  clear hi hz0 hz1 hz2
  go_enter Try.func5, Try.ntmps5
  go_wp2_with (first | (go_at_call 7; go_must (refine (tfact_any _).mono ?_; rintro e w1 ⟨rfl, hb1⟩; have HB1 : Hid (Below w.heap.size w w1) := hb1; clear hb1)) | (go_at_call 8; fail))
  refine (front_any n _ l _ (HV.out.below HB1.out)).mono ?_
  rintro e w2 ⟨vr, rfl, hR, hb2⟩
  have HB2 : Hid (Below w.heap.size w w2) := HB1.out.trans (hb2.mono HB1.out.size)
  clear hb2 HB1 HV
  by_cases hc : chkL n l = 0
  case neg =>
    have hn : chkL n l = 1 ∨ chkL n l = 4 := by have := chkL_cases n l; omega
    rw [lookL, if_neg hc] at hR
    obtain ⟨ar, cr, rfl⟩ := hR.form
    generalize lookN (fun _ => 0) n l = N at *
    clear hR
    rcases hn with hn | hn
    all_goals
      rw [hn]
      clear hn hc
      simp only [errV]
      go_wp2
      go_ret
      exact ⟨rfl, HB2.out⟩
  have F := chkL_zero hc
  obtain ⟨m, rfl⟩ : ∃ m : Nat, n = m := ⟨n.toNat, by have := F.low; omega⟩
  have hm4 : m ≤ 4 := by have := F.low; omega
  have h40 := F.reqs
  have hrow := front_row (Un_nodup m) (thing_in F) l.length (Nat.le_refl _)
  rw [List.take_length] at hrow
  rw [lookL, if_pos hc, Int.toNat_natCast, hrow] at hR
  have HR : Hid (IsInts w2 vr (full l ++ restTo l m)) := hR.isInts
  have HF : Hid (FineL (m : Int) l) := F
  rw [hc, show errV 0 = .nilIface from rfl]
  generalize lookN (fun _ => 0) (m : Int) l = N at *
  clear hc F hrow hR
  have hsub : IntKind.i64.wrap ((l.length : Int) - 1) = (l.length : Int) - 1 := by rw [IntKind.wrap_i64]; omega
  have HLC : Hid (∀ t, t < l.length → ∃ b off, ao = some ⟨b, off, none⟩ ∧ l.length ≤ cap ∧ b < w2.heap.size ∧ w2.cell? ⟨b, off + t, none⟩ = some (.int .i64 (l[t]?.getD 0))) := by
    intro t ht
    obtain ⟨b, off, h1, hlc, hbw, hcell⟩ := HO.out t ht
    exact ⟨b, off, h1, hlc, Nat.lt_of_lt_of_le hbw HB2.out.size, (HB2.out.cell (by exact hbw)).trans (hcell t ht)⟩
  clear HO
  go_wp2_with fail
  go_loopw [9, 10] (fun vw i wr => ∃ j : Nat, j ≤ l.length ∧ i = .int .i64 ((j : Int) - 1) ∧ OwnI wr w2.heap.size vw (full (l.drop j)) ∧ Below w2.heap.size w2 wr) (fun _ i _ => (intOf i + 1).toNat)
  case atStart => exact ⟨l.length, Nat.le_refl _, rfl, by rw [List.drop_length]; exact OwnI.nil _ _, Below.refl _ _⟩
  case round =>
    obtain ⟨j, hj, rfl, how, hbr⟩ := hrel
    have HBR : Hid (Below w2.heap.size w2 wr) := hbr
    obtain ⟨aw, cw, hvw⟩ := how.form
    subst hvw
    have HOW : Hid (OwnI wr w2.heap.size (.slice aw (full (l.drop j)).length cw) (full (l.drop j))) := how
    have hsm := full_small HF.out j
    clear how
    by_cases h0 : j = 0
    · subst h0
      rw [show ((0 : Nat) : Int) - 1 = -1 from rfl]
      rw [List.drop_zero] at HOW hsm
      have HR3 : Hid (restTo l 0 = []) := rfl
      have HOS : Hid (OwnI wr w2.heap.size (.slice aw (full l).length cw) (full l ++ restTo l 0)) := by unfold Hid; rw [HR3.out, List.append_nil]; exact HOW.out
      rw [List.drop_zero]
      generalize (full l).length = q0 at *
      go_wp2_with fail
      go_loopw [9, 11] (fun vw i wr => ∃ k : Nat, k ≤ m ∧ i = .int .i64 (k : Int) ∧ OwnI wr w2.heap.size vw (full l ++ restTo l k) ∧ Below w2.heap.size w2 wr) (fun _ i _ => m - (intOf i).toNat)
      case atStart => exact ⟨0, Nat.zero_le _, rfl, HOS.out, HBR.out⟩
      case round =>
        clear HOS HOW HBR hbr hsm HR3
        obtain ⟨k, hk, rfl, how, hbr⟩ := hrel
        have HBR : Hid (Below w2.heap.size w2 wr) := hbr
        obtain ⟨aw, cw, hvw⟩ := how.form
        subst hvw
        have hsm : (full l ++ restTo l k).length ≤ 8 := by
          have h1 := full_small HF.out 0
          rw [List.drop_zero] at h1
          have h2 := rest_small l (show k ≤ 4 by omega)
          rw [List.length_append]; omega
        have HOW : Hid (OwnI wr w2.heap.size (.slice aw (full l ++ restTo l k).length cw) (full l ++ restTo l k)) := how
        clear how
        by_cases hlt : k < m
        · have HHS : Hid ((full l ++ restTo l k).contains (k : Int) = l.contains (k : Int)) := rest_has l k
          have HRS : Hid (restTo l (k+1) = if l.contains (k : Int) then restTo l k else restTo l k ++ [(k : Int)]) := restTo_succ l k
          cases hcn : l.contains (k : Int) with
          | true =>
            have HH : Hid ((full l ++ restTo l k).contains (k : Int) = true) := by unfold Hid; rw [HHS.out, hcn]
            have HN : Hid (full l ++ restTo l (k+1) = full l ++ restTo l k) := by unfold Hid; rw [HRS.out, hcn, if_pos rfl]
            clear hcn HHS HRS
            generalize full l ++ restTo l k = lk at *
            generalize hq : lk.length = q at *
            have HL : Hid (lk.length = q) := hq
            clear hq
            go_wp2_with (go_at_call 12; go_must (refine (has_any _ lk _ _ HOW.out.isInts).mono ?_; rintro e w' ⟨rfl, hw⟩; have hw := hw.symm; subst hw; rw [HH.out]))
            go_roundw
            case rel => exact ⟨k + 1, by omega, by go_num, by rw [HN.out]; exact HOW.out, HBR.out⟩
            case measure => simp [intOf]; omega
          | false =>
            have HH : Hid ((full l ++ restTo l k).contains (k : Int) = false) := by unfold Hid; rw [HHS.out, hcn]
            have HN : Hid (full l ++ restTo l (k+1) = (full l ++ restTo l k) ++ [(k : Int)]) := by unfold Hid; rw [HRS.out, hcn, if_neg (by simp), List.append_assoc]
            clear hcn HHS HRS
            generalize full l ++ restTo l k = lk at *
            generalize hq : lk.length = q at *
            have HL : Hid (lk.length = q) := hq
            clear hq
            go_wp2_with (first | (go_at_call 12; go_must (refine (has_any _ lk _ _ HOW.out.isInts).mono ?_; rintro e w' ⟨rfl, hw⟩; have hw := hw.symm; subst hw; rw [HH.out])) | (at_builtin; (refine wpList_append_own _ rfl _ _ 22 rfl w2.heap.size 3 i0 (.int .i64 0) 1 8 Try.underlying22 HI.out.1 HI.out.2.1 HI.out.2.2.1 HI.out.2.2.2 rfl (by decide) _ q (lk.map (Value.int .i64)) rfl (World.ownsRow.alloc (HOW.out.rows HL.out rfl) _) ⟨wr.heap.size, 0, none⟩ 1 1 [.int .i64 ((k : Int))] rfl rfl (by exact new_one _ _ _) (one_cell _) (by unfold maxLen; omega) (by omega) (by have := HBR.out.size; simp; omega) ?_; intro v2 w3 hown' hgrow _; have R := keeps_append HOW.out HL.out HBR.out.size hown' hgrow; have HR2 : Hid (OwnI w3 w2.heap.size v2 (lk ++ [(k : Int)])) := R.1; have HK2 : Hid (Below w2.heap.size w2 w3) := R.2.2 _ (Nat.le_refl _) HBR.out; clear hown' hgrow R)))
            go_roundw
            case rel => exact ⟨k + 1, by omega, by go_num, by rw [HN.out]; exact HR2.out, HK2.out⟩
            case measure => simp [intOf]; omega
        · have hkm : k = m := by omega
          subst hkm
          have HIR : Hid (IsInts wr vr (full l ++ restTo l k)) := HR.out.below HBR.out
          have HIW : Hid (IsInts wr (.slice aw (full l ++ restTo l k).length cw) (full l ++ restTo l k)) := HOW.out.isInts
          generalize full l ++ restTo l k = lk at *
          generalize lk.length = q at *
          go_wp2_with (go_at_call 13; go_must (refine (ints_same _ _ lk _ HIR.out HIW.out).mono ?_; rintro e w6 ⟨rfl, q2, rfl⟩))
          go_ret
          exact ⟨rfl, below_drewN (HB2.out.trans (HBR.out.mono HB2.out.size)) _⟩
    · obtain ⟨t, rfl⟩ : ∃ t, j = t + 1 := ⟨j - 1, by omega⟩
      rw [show ((t + 1 : Nat) : Int) - 1 = (t : Int) by omega]
      have htl : t < l.length := by omega
      obtain ⟨b, off, rfl, hlc, hbw, hcell⟩ := HLC.out t htl
      have hck : wr.cell? ⟨b, off + t, none⟩ = some (.int .i64 (l[t]?.getD 0)) := (hbr.cell (by exact hbw)).trans hcell
      have HFD := full_drop htl
      have HHS : (full (l.drop (t+1))).contains (l[t]?.getD 0) = (l.drop (t+1)).contains (l[t]?.getD 0) := by rw [Bool.eq_iff_iff, List.contains_iff_mem, List.contains_iff_mem, full_mem]
      have hts : IntKind.i64.wrap ((t : Int) - 1) = (t : Int) - 1 := by rw [IntKind.wrap_i64]; omega
      clear hcell hbr
      cases hcn : (l.drop (t+1)).contains (l[t]?.getD 0) with
      | true =>
        have HH : Hid ((full (l.drop (t+1))).contains (l[t]?.getD 0) = true) := by unfold Hid; rw [HHS, hcn]
        have HN : Hid (full (l.drop t) = full (l.drop (t+1))) := by unfold Hid; rw [HFD, if_pos (List.contains_iff_mem.1 hcn)]
        clear hcn HHS HFD
        generalize full (l.drop (t+1)) = lk at *
        generalize l[t]?.getD 0 = p at *
        generalize hq : lk.length = q at *
        have HL : Hid (lk.length = q) := hq
        clear hq
        go_wp2_with (go_at_call 12; go_must (refine (has_any _ lk _ _ HOW.out.isInts).mono ?_; rintro e w' ⟨rfl, hw⟩; have hw := hw.symm; subst hw; rw [HH.out]))
        go_roundw
        case rel => exact ⟨t, by omega, rfl, by rw [HN.out]; exact HOW.out, HBR.out⟩
        case measure => simp [intOf]
      | false =>
        have HH : Hid ((full (l.drop (t+1))).contains (l[t]?.getD 0) = false) := by unfold Hid; rw [HHS, hcn]
        have HN : Hid (full (l.drop t) = full (l.drop (t+1)) ++ [l[t]?.getD 0]) := by unfold Hid; rw [HFD, if_neg (fun h => by rw [List.contains_iff_mem.2 h] at hcn; cases hcn)]
        clear hcn HHS HFD
        generalize full (l.drop (t+1)) = lk at *
        generalize l[t]?.getD 0 = p at *
        generalize hq : lk.length = q at *
        have HL : Hid (lk.length = q) := hq
        clear hq
        go_wp2_with (first | (go_at_call 12; go_must (refine (has_any _ lk _ _ HOW.out.isInts).mono ?_; rintro e w' ⟨rfl, hw⟩; have hw := hw.symm; subst hw; rw [HH.out])) | (at_builtin; (refine wpList_append_own _ rfl _ _ 22 rfl w2.heap.size 3 i0 (.int .i64 0) 1 8 Try.underlying22 HI.out.1 HI.out.2.1 HI.out.2.2.1 HI.out.2.2.2 rfl (by decide) _ q (lk.map (Value.int .i64)) rfl (World.ownsRow.alloc (HOW.out.rows HL.out rfl) _) ⟨wr.heap.size, 0, none⟩ 1 1 [.int .i64 (p)] rfl rfl (by exact new_one _ _ _) (one_cell _) (by unfold maxLen; omega) (by omega) (by have := HBR.out.size; simp; omega) ?_; intro v2 w3 hown' hgrow _; have R := keeps_append HOW.out HL.out HBR.out.size hown' hgrow; have HR2 : Hid (OwnI w3 w2.heap.size v2 (lk ++ [p])) := R.1; have HK2 : Hid (Below w2.heap.size w2 w3) := R.2.2 _ (Nat.le_refl _) HBR.out; clear hown' hgrow R)))
        go_roundw
        case rel => exact ⟨t, by omega, rfl, by rw [HN.out]; exact HR2.out, HK2.out⟩
        case measure => simp [intOf]

theorem listFront_own : ownKnob Try.prog.godebug = none := by kernel_rfl
theorem listFront_laidOut : laidOutB Try.prog = true := by kernel_rfl

set_option maxRecDepth 100000 in
theorem listFront_lifted (os : Os) (started : os.Started) (H : Type) (enc : TypeId × Value → H) :
    ReturnsInHanded {} Try.checked os 5 .any (Rows.listFrontSpec.pre6 enc Try.prog Try.f5 Rows.listFrontRow.domain false) (Rows.listFrontSpec.post enc Try.prog Try.f5 false true false false) := by
  refine returnsInHanded_of_change (C := Try.checked) listFront_own started (by kernel_rfl) Try.func5
    (ChangeSpec.witness6 (enc := enc) (C := Try.checked) false ⟨#[], #[.int .i64 0, .slice none 0 0], []⟩ 8 (by kernel_rfl) (by kernel_rfl) (by kernel_rfl) (by kernel_rfl)) ?_
  intro W base args ds gs before hval0 hW _ _
  have hval : ∀ (j : Nat) t v, Try.f5.params[j]? = some t → args[j]? = some v → Value.okWide Try.prog W .any base t v := hval0
  have hW' : DataW.Whole enc Try.prog Try.f5.params.toList Rows.listFrontSpec.vars false W args.toList ds gs before := hW
  obtain ⟨p, q, hA0, hV, rfl, hfz, hnd⟩ := hW
  have hA : DataW.TrodAll enc Try.prog W 0 (fun _ => true) true Try.f5.params.toList args.toList ds p := hA0
  rw [Try.params5] at hA hval
  obtain ⟨v0, vs0, d0, ds0, p0, q0, hargs, rfl, rfl, h0, r0⟩ := trodAll_cons hA
  obtain ⟨v1, vs1, d1, ds1, p1, q1, rfl, rfl, rfl, h1, r1⟩ := trodAll_cons r0
  obtain ⟨rfl, rfl, rfl⟩ := trodAll_nil r1
  obtain rfl : args = #[v0, v1] := by cases args; simp_all
  obtain ⟨rfl, rfl⟩ := trodVars_none hV
  obtain ⟨n0, rfl, rfl, rfl, wn0⟩ := open_int Try.underlying3 (hval 0 3 v0 rfl rfl) h0
  obtain ⟨l1, ao1, cap1, hv1, hl1⟩ := arg_ints Try.underlying22 Try.underlying3 (by kernel_rfl) (hval 1 22 v1 rfl rfl) h1
  clear hA0 hval0
  refine (lfront_any n0 v1 l1 W hl1 ⟨ao1, cap1, hv1⟩).mono fun e W' ⟨he, hb⟩ => ?_
  subst he
  exact ⟨_, rfl, law_post hW' hb listFront_laidOut rfl (by kernel_rfl) (by kernel_rfl) Try.underlying4 rfl rfl rfl⟩

theorem listFront_holds : Rows.ListFrontSaid :=
  OpenClaim.holds_of_wide 5 Try.f5 rfl rfl rfl rfl rfl rfl rfl ⟨rfl, rfl, rfl, rfl, rfl⟩ rfl rfl rfl rfl rfl (by kernel_rfl) Try.func5 (by kernel_rfl)
    (of_decide_eq_true (by kernel_rfl)) (by unfold Func.isWrapper; first | (rw [if_pos (by decide +kernel)]; kernel_rfl) | (rw [if_neg (by decide +kernel)]; exact ⟨rfl, rfl⟩))
    (fun os started H enc _ => listFront_lifted os started H enc)
end Go.Proofs.Ytedmfehjifknbab
