/- LruAgain is proved: for every list of requests, every number of slots and every page, in whatever memory and on every schedule, it returns true and leaves its argument as it was: what was asked for just now is there. No condition. -/
import Derived.Test.YtmjmdggpchfnbaaLruFact
import Derived.Test.YtmjmdggpchfnbaaCame
namespace Go.Proofs.Ytmjmdggpchfnbaa
open Go.ChangeShapes Go.WideShapes Go.ChangeAt Go.RowKit Go.Sort

theorem grown_of_below {w w' : World} (h : Below w.heap.size w w') : w.grownBy w' none := ⟨h.os, h.tape, h.output, h.size, fun i hi _ => h.block i hi⟩

theorem OwnI.later {w w' : World} {base : Nat} {v : Value} {l : List Int} (h : OwnI w base v l) (hb : Below w.heap.size w w') : OwnI w' base v l :=
  h.kept (grown_of_below hb) (by cases v.ownBlock <;> simp)

/-- A row that was made later than another is kept where the elder grows. -/
theorem OwnI.younger {w w1 : World} {B : Nat} {v vo : Value} {l : List Int} (h : OwnI w B v l) (hlt : ∀ k, vo.ownBlock = some k → k < B) (hg : w.grownBy w1 vo.ownBlock) : OwnI w1 B v l := by
  refine h.kept hg ?_
  cases hv : v.ownBlock with
  | none => exact .inl rfl
  | some k =>
    refine .inr fun he => ?_
    have h1 := (World.ownsRow.lt h k hv).1
    have h2 := hlt k he.symm
    omega
theorem OwnB.younger {w w1 : World} {B : Nat} {v vo : Value} {l : List Bool} (h : OwnB w B v l) (hlt : ∀ k, vo.ownBlock = some k → k < B) (hg : w.grownBy w1 vo.ownBlock) : OwnB w1 B v l := by
  refine h.kept hg ?_
  cases hv : v.ownBlock with
  | none => exact .inl rfl
  | some k =>
    refine .inr fun he => ?_
    have h1 := (World.ownsRow.lt h k hv).1
    have h2 := hlt k he.symm
    omega

theorem full_again (l : List Int) (p : Int) : full (l ++ [p] ++ [p]) = full (l ++ [p]) := by
  rw [full_snoc, full_snoc, List.erase_cons_head]
theorem hit_again {s : Nat} (l : List Int) (p : Int) (hs : 1 ≤ s) : hitAt s (l ++ [p] ++ [p]) (l.length + 1) = true := by
  unfold hitAt
  obtain ⟨n, rfl⟩ : ∃ n, s = n + 1 := ⟨s - 1, by omega⟩
  rw [show (l ++ [p] ++ [p]).take (l.length + 1) = l ++ [p] by rw [List.take_append_of_le_length (by simp), List.take_of_length_le (by simp)], full_snoc, List.take_succ_cons]
  simp

theorem hits_cells {w : World} {v : Value} {s n : Nat} {l : List Int} (h : IsBools w v (hits s l n)) (hn : 0 < n) : ∃ b off cap, v = .slice (some ⟨b, off, none⟩) n cap ∧ n ≤ cap ∧ cap ≤ maxLen ∧ ∀ j, j < n → w.cell? ⟨b, off + j, none⟩ = some (.bool (hitAt s l j)) := by
  rcases h with ⟨h0, _⟩ | ⟨b, off, cap, hv, hp, hlc, hm, hc⟩
  · have := hits_length s l n
    rw [h0] at this; simp at this; omega
  · rw [hits_length] at hv hlc hc
    exact ⟨b, off, cap, hv, hlc, hm, fun j hj => by rw [hc j hj, hits_get hj]⟩

theorem held_again {s : Nat} (l : List Int) (p : Int) (hs : 1 ≤ s) : ∃ r, (full (l ++ [p])).take s = p :: r ∧ (full (l ++ [p] ++ [p])).take s = p :: r := by
  obtain ⟨n, rfl⟩ : ∃ n, s = n + 1 := ⟨s - 1, by omega⟩
  exact ⟨((full l).erase p).take n, by rw [full_snoc, List.take_succ_cons], by rw [full_again, full_snoc, List.take_succ_cons]⟩

set_option maxHeartbeats 1000000 in
theorem again_any (v : Value) (l : List Int) (s p : Int) (w : World) (hcame : Came w v l) (hreach : l.length * 8 ≤ 140737488351232) :
    Calls Try.prog 4 #[v, .int .i64 s, .int .i64 p] w fun e w' => e = .returned (.bool true) ∧ Below w.heap.size w w' := by
  have HV : Hid (Came w v l) := hcame
  obtain ⟨i0, hi, hz0, hz1, hz2⟩ := info_parts Try.info3
  have HI : Hid (Try.prog.info? 3 = some i0 ∧ i0.zero = some (.int .i64 0) ∧ i0.size = 1 ∧ i0.bytes = 8) := ⟨hi, hz0, hz1, hz2⟩
  clear hcame hi hz0 hz1 hz2
  go_enter Try.func4, Try.ntmps4
  go_wp2_with (first | (go_at_call 6; go_must (refine (fact_any _).mono ?_; rintro e w1 ⟨rfl, hb1⟩)) | (at_builtin; go_must (first | (refine wpList_append_own _ rfl _ _ 22 rfl w1.heap.size 3 i0 (.int .i64 0) 1 8 Try.underlying22 HI.out.1 HI.out.2.1 HI.out.2.2.1 HI.out.2.2.2 rfl (by decide) _ l.length (l.map (Value.int .i64)) rfl (World.ownsRow.alloc (HR1.out) _) ⟨w2.heap.size, 0, none⟩ 1 1 [.int .i64 p] rfl rfl (by exact new_one _ _ _) (one_cell _) (by unfold maxLen; omega) (by omega) (Nat.le_trans HB2.out.size (by simp)) ?_; intro v2 w3 hown' hgrow _; have R := own_append HR1.out HB2.out (Nat.le_refl _) hown' hgrow; have HR2 : Hid (OwnI w3 w1.heap.size v2 (l ++ [p])) := R.1; have HB3 : Hid (Below w1.heap.size w1 w3) := R.2; clear hown' hgrow R) | (refine append_came rfl _ _ rfl w1.heap.size _ _ [] l rfl rfl (OwnI.nil _ _) (HV.out.below hb1) (Nat.le_refl _) (by simp; omega) ?_; intro v1 w2 hown1 hgr1; have HR1 : Hid (OwnI w2 w1.heap.size v1 l) := hown1; have HB2 : Hid (Below w1.heap.size w1 w2) := (Below.refl _ _).grown hgr1 (Nat.le_refl _) (by intro k hk; cases hk); clear hown1 hgr1))) | (go_at_call 7; fail))
  refine (run_any _ (l ++ [p]) s _ HR2.out.isInts).mono ?_
  rintro e w4 ⟨vb, vh, rfl, hB, hO, hb4⟩
  have HBa : Hid (OwnB w4 w3.heap.size vb (lruB (l ++ [p]) s)) := hB
  have HOa : Hid (OwnI w4 w3.heap.size vh (lruL (l ++ [p]) s)) := hO
  have HB4 : Hid (Below w1.heap.size w1 w4) := HB3.out.trans (hb4.mono HB3.out.size)
  have HR3 : Hid (OwnI w4 w1.heap.size v2 (l ++ [p])) := HR2.out.later hb4
  have HLT : Hid (∀ k, v2.ownBlock = some k → k < w3.heap.size) := fun k hk => (World.ownsRow.lt HR2.out k hk).2
  clear hB hO hb4 HR1 HR2 HB2 HB3
  have HN : Hid ((l ++ [p]).length = l.length + 1) := by unfold Hid; simp
  go_wp2_with (first | (at_builtin; go_must (refine wpList_append_own _ rfl _ _ 22 rfl w1.heap.size 3 i0 (.int .i64 0) 1 8 Try.underlying22 HI.out.1 HI.out.2.1 HI.out.2.2.1 HI.out.2.2.2 rfl (by decide) _ (l.length + 1) ((l ++ [p]).map (Value.int .i64)) rfl (World.ownsRow.alloc (HR3.out.rows HN.out rfl) _) ⟨w4.heap.size, 0, none⟩ 1 1 [.int .i64 p] rfl rfl (by exact new_one _ _ _) (one_cell _) (by unfold maxLen; omega) (by omega) (Nat.le_trans HB4.out.size (by simp)) ?_; intro v3 w5 hown' hgrow _; have R := own_append2 HR3.out HN.out HB4.out (Nat.le_refl _) hown' hgrow; have HR4 : Hid (OwnI w5 w1.heap.size v3 (l ++ [p] ++ [p])) := R.1; have HB5 : Hid (Below w1.heap.size w1 w5) := R.2; have HBb : Hid (OwnB w5 w3.heap.size vb (lruB (l ++ [p]) s)) := OwnB.younger (World.ownsRow.alloc HBa.out _) HLT.out hgrow; have HOb : Hid (OwnI w5 w3.heap.size vh (lruL (l ++ [p]) s)) := OwnI.younger (World.ownsRow.alloc HOa.out _) HLT.out hgrow; clear hown' hgrow R HBa HOa)) | (go_at_call 7; fail))
  refine (run_any _ (l ++ [p] ++ [p]) s _ HR4.out.isInts).mono ?_
  rintro e w6 ⟨vb', vh', rfl, hB, hO, hb6⟩
  have HB6 : Hid (Below w.heap.size w w6) := hb1.trans ((HB5.out.trans (hb6.mono HB5.out.size)).mono hb1.size)
  by_cases h0 : chk (l ++ [p]) s = 0
  · by_cases h1 : chk (l ++ [p] ++ [p]) s = 0
    · obtain ⟨h40, hs1, hs8⟩ := chk_zero h1
      rw [h0, h1, show errV 0 = .nilIface from rfl]
      obtain ⟨n, rfl⟩ : ∃ n : Nat, s = n := ⟨s.toNat, by omega⟩
      obtain ⟨r, hr1, hr2⟩ := held_again (s := n) l p (by omega)
      have HOc := HOb.out.isInts.below hb6
      have HBc := HBb.out.isBools.below hb6
      rw [lruL_ok h0, Int.toNat_natCast, hr1] at HOc
      rw [lruB_ok h0, Int.toNat_natCast] at HBc
      rw [lruL_ok h1, Int.toNat_natCast, hr2] at hO
      rw [lruB_ok h1, Int.toNat_natCast] at hB
      have hlen2 : (l ++ [p] ++ [p]).length = l.length + 1 + 1 := by simp
      rw [hlen2] at hB h40
      rw [HN.out] at HBc
      have HOd : Hid (IsInts w6 vh (p :: r)) := HOc
      have HOe : Hid (IsInts w6 vh' (p :: r)) := hO.isInts
      obtain ⟨b1, o1, c1, rfl, hn1, hm1, _⟩ := hits_cells HBc (by omega)
      obtain ⟨b2, o2, c2, rfl, hn2, hm2, hall2⟩ := hits_cells hB.isBools (by omega)
      have hc2 := hall2 (l.length + 1) (by omega)
      rw [hit_again l p (by omega)] at hc2
      rcases HOc with ⟨h, _⟩ | ⟨b3, o3, c3, rfl, hp3, hl3, hm3, hall3⟩
      · cases h
      have hc3 : w6.cell? ⟨b3, o3, none⟩ = some (.int .i64 p) := hall3 0 hp3
      clear hall2 hall3 hr1 hr2 hB hO h0 h1 HBc HBb HOb HR4 HB5 HR3 HB4 HLT HI HV hlen2 HN hreach
      have hpp : (p == p) = true := by simp
      unfold maxLen at hm1 hm2 hm3
      simp only [List.length_cons] at hp3 hl3
      have hr0 : (0 : Int) < (r.length : Int) + 1 := by omega
      go_wp2_with (go_at_call 8; go_must (refine (ints_same _ _ (p :: r) _ HOd.out HOe.out).mono ?_; rintro e w7 ⟨rfl, q, rfl⟩))
      go_ret
      exact ⟨rfl, below_drewN HB6.out q⟩
    · have HE : Hid (errV (chk (l ++ [p] ++ [p]) s) = .iface 37 (.int .i64 (chk (l ++ [p] ++ [p]) s))) := errV_pos h1
      clear h1 hB hO hb6
      rw [h0, HE.out, show errV 0 = .nilIface from rfl]
      clear h0
      go_wp2
      go_ret
      exact ⟨rfl, HB6.out⟩
  · have HE : Hid (errV (chk (l ++ [p]) s) = .iface 37 (.int .i64 (chk (l ++ [p]) s))) := errV_pos h0
    clear h0 hB hO hb6
    rw [HE.out]
    go_wp2
    go_ret
    exact ⟨rfl, HB6.out⟩

theorem lruAgain_own : ownKnob Try.prog.godebug = none := by kernel_rfl
theorem lruAgain_laidOut : laidOutB Try.prog = true := by kernel_rfl

set_option maxRecDepth 100000 in
theorem lruAgain_lifted (os : Os) (started : os.Started) (H : Type) (enc : TypeId × Value → H) :
    ReturnsInHanded {} Try.checked os 4 .any (Rows.lruAgainSpec.pre6 enc Try.prog Try.f4 Rows.lruAgainRow.domain false) (Rows.lruAgainSpec.post enc Try.prog Try.f4 false true false false) := by
  refine returnsInHanded_of_change_sized (C := Try.checked) lruAgain_own started (by kernel_rfl) Try.func4
    (ChangeSpec.witness6 (enc := enc) (C := Try.checked) false ⟨#[], #[.slice none 0 0, .int .i64 0, .int .i64 0], []⟩ 8 (by kernel_rfl) (by kernel_rfl) (by kernel_rfl) (by kernel_rfl)) ?_
  intro W base args ds gs before hval0 hW _ hsz0 _
  have hval : ∀ (j : Nat) t v, Try.f4.params[j]? = some t → args[j]? = some v → Value.okWide Try.prog W .any base t v := hval0
  have hW' : DataW.Whole enc Try.prog Try.f4.params.toList Rows.lruAgainSpec.vars false W args.toList ds gs before := hW
  obtain ⟨p, q, hA0, hV, rfl, hfz, hnd⟩ := hW
  have hA : DataW.TrodAll enc Try.prog W 0 (fun _ => true) true Try.f4.params.toList args.toList ds p := hA0
  rw [Try.params4] at hA hval
  obtain ⟨v0, vs0, d0, ds0, p0, q0, hargs, rfl, rfl, h0, r0⟩ := trodAll_cons hA
  obtain ⟨v1, vs1, d1, ds1, p1, q1, rfl, rfl, rfl, h1, r1⟩ := trodAll_cons r0
  obtain ⟨v2, vs2, d2, ds2, p2, q2, rfl, rfl, rfl, h2, r2⟩ := trodAll_cons r1
  obtain ⟨rfl, rfl, rfl⟩ := trodAll_nil r2
  obtain rfl : args = #[v0, v1, v2] := by cases args; simp_all
  obtain ⟨rfl, rfl⟩ := trodVars_none hV
  obtain ⟨n1, rfl, rfl, rfl, wn1⟩ := open_int Try.underlying3 (hval 1 3 v1 rfl rfl) h1
  obtain ⟨n2, rfl, rfl, rfl, wn2⟩ := open_int Try.underlying3 (hval 2 3 v2 rfl rfl) h2
  obtain ⟨l0, hl0, hc0, hr0⟩ := arg_came (ts := Try.f4.params.toList ++ Rows.lruAgainSpec.plain.varTypes Try.prog) hsz0 (j := 0) rfl rfl (hval 0 22 v0 rfl rfl) h0
  clear hA0 hval0
  refine (again_any v0 l0 n1 n2 W hc0 hr0).mono fun e W' ⟨he, hb⟩ => ?_
  subst he
  exact ⟨_, rfl, law_post hW' hb lruAgain_laidOut rfl (by kernel_rfl) (by kernel_rfl) Try.underlying4 rfl rfl rfl⟩

theorem lruAgain_holds : Rows.LruAgainSaid :=
  OpenClaim.holds_of_wide 4 Try.f4 rfl rfl rfl rfl rfl rfl rfl ⟨rfl, rfl, rfl, rfl, rfl⟩ rfl rfl rfl rfl rfl (by kernel_rfl) Try.func4 (by kernel_rfl)
    (of_decide_eq_true (by kernel_rfl)) (by unfold Func.isWrapper; first | (rw [if_pos (by decide +kernel)]; kernel_rfl) | (rw [if_neg (by decide +kernel)]; exact ⟨rfl, rfl⟩))
    (fun os started H enc _ => lruAgain_lifted os started H enc)
end Go.Proofs.Ytmjmdggpchfnbaa
