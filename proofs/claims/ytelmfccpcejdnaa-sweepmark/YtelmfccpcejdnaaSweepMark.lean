/- SweepMark is proved: of whatever heap, in whatever memory and on every schedule, it returns true and leaves its argument as it was: just what can be come to is marked, each once. No condition. -/
import Derived.Test.YtelmfccpcejdnaaSFact
import Derived.Test.YtelmfccpcejdnaaHasAt
import Derived.Test.YtelmfccpcejdnaaInRange
import Derived.Test.YtelmfccpcejdnaaRBit
import Derived.Test.YtelmfccpcejdnaaRefSet
import Derived.Test.YtelmfccpcejdnaaArgHeap
namespace Go.Proofs.Ytelmfccpcejdnaa
set_option maxRecDepth 100000
open Go.ChangeShapes Go.WideShapes Go.ChangeAt Go.RowKit Go.Sort

theorem num_come {L : List (List Int)} {R S A : List Int} {m : Nat} (hf : FineH L R) (hS : ∀ x, x ∈ S → 0 ≤ x ∧ x < L.length) (h1 : A.Nodup) (h2 : ∀ x, x ∈ A ↔ Come (gOf L) S x) (hm : Comes L S m) : setN A = m := by
  have h16 : allIn A := fun x hx => by have := hf.come hS ((h2 x).1 hx); have := hf.few; omega
  have hk := setN_msk h1 h16
  refine Nat.eq_of_testBit_eq fun i => ?_
  by_cases hi : i < 16
  · rw [Bool.eq_iff_iff, hk.2 i hi, hm.2 i hi, h2]
  · rw [Nat.testBit_lt_two_pow (Nat.lt_of_lt_of_le hk.1 (Nat.pow_le_pow_right (n := 2) (by omega) (show 16 ≤ i by omega))), Nat.testBit_lt_two_pow (Nat.lt_of_lt_of_le hm.1 (Nat.pow_le_pow_right (n := 2) (by omega) (show 16 ≤ i by omega)))]
theorem nodup_take {A : List Int} (h : A.Nodup) {k : Nat} (hk : k < A.length) : A[k] ∉ A.take k := by
  intro hm
  have h2 : (A.take k ++ A.drop k).Nodup := by rw [List.take_append_drop]; exact h
  rw [List.drop_eq_getElem_cons hk] at h2
  exact (List.nodup_append.1 h2).2.2 _ hm _ (List.mem_cons_self ..) rfl
set_option maxHeartbeats 2000000 in
theorem swmark_any (v : Value) (L : List (List Int)) (R : List Int) (w : World) (hv : IsHeap w v L R) (_ : CameH w v R) :
    Calls Try.prog 3 #[v] w fun e w' => e = .returned (.bool true) ∧ Below w.heap.size w w' := by
  obtain ⟨ao, co, ar, cr, rfl, h1, h2⟩ := hv.form
  have HBX : Hid (Boxed w (w.alloc (.cells #[.slice ao L.length co, .slice ar R.length cr] 25)) w.heap.size ao co ar cr L R) := boxed h1 h2 _
  clear hv h1 h2
  go_enter Try.func3, Try.ntmps3
  go_wp2_with (go_at_call 6; fail)
  generalize w.alloc (.cells #[.slice ao L.length co, .slice ar R.length cr] 25) = W at *
  refine (sfact_any _).mono ?_
  rintro e w1 ⟨rfl, hb1⟩
  have HB1 : Hid (Boxed w w1 w.heap.size ao co ar cr L R) := HBX.out.later hb1
  clear HBX hb1
  have hd0 : w1.cell? ⟨w.heap.size, 0, none⟩ = some (.slice ao L.length co) := HB1.out.outs
  have hd1 : w1.cell? ⟨w.heap.size, 1, none⟩ = some (.slice ar R.length cr) := HB1.out.roots
  go_wp2_with (go_at_call 7; fail)
  refine (smark_any _ L R _ HB1.out.isHeap).mono ?_
  rintro e w2 ⟨⟨vo, rfl, C, hC, hM⟩, hb2⟩
  have HB2 : Hid (Boxed w w2 w.heap.size ao co ar cr L R) := HB1.out.later hb2
  have HC2 : Hid (IsInts w2 vo C) := hC
  have HM : Hid (MarkIs L R C) := hM
  clear hd0 hd1 HB1 hb2 hC hM
  have hd0 : w2.cell? ⟨w.heap.size, 0, none⟩ = some (.slice ao L.length co) := HB2.out.outs
  have hd1 : w2.cell? ⟨w.heap.size, 1, none⟩ = some (.slice ar R.length cr) := HB2.out.roots
  go_wp2_with (go_at_call 8; fail)
  refine (reach_any _ L R _ HB2.out.isHeap).mono ?_
  rintro e w3 ⟨⟨n, rfl, hn⟩, hb3⟩
  have HB3 : Hid (Boxed w w3 w.heap.size ao co ar cr L R) := HB2.out.later hb3
  have HC3 : Hid (IsInts w3 vo C) := HC2.out.below hb3
  clear hd0 hd1 HB2 hb3 HC2
  have hd0 : w3.cell? ⟨w.heap.size, 0, none⟩ = some (.slice ao L.length co) := HB3.out.outs
  by_cases h0 : chkH L R = 0
  · have HF : Hid (FineH L R) := chkH_zero.1 h0
    have hl12 := HF.out.few
    unfold ReachIs at hn
    rw [if_pos h0] at hn
    have HN : Hid (Comes L R n) := hn
    have hn16 : n < 65536 := hn.1
    have HD : Hid (Deep (gOf L) [] R C) := by have := HM.out; unfold MarkIs at this; rw [if_pos h0] at this; exact this
    have HI : Hid (Inn L C) := (inn_nil L).deep HF.out HF.out.root HD.out
    have HSN : Hid (setN C = n) := num_come HF.out HF.out.root HD.out.reach.1 HD.out.reach.2 hn
    have hC12 : C.length ≤ 12 := by have := HI.out.few; omega
    have HC16 : Hid (allIn C) := fun x hx => by have := HI.out.2 x hx; omega
    rw [h0, show errV 0 = .nilIface from rfl]
    clear h0 hn HM
    obtain ⟨a4, c4, rfl, hc4, ho4⟩ := HC3.out.opened
    have HO4 : Hid (∀ k, k < C.length → ∃ b off, a4 = some ⟨b, off, none⟩ ∧ C.length ≤ c4 ∧ b < w3.heap.size ∧ ∀ j, j < C.length → w3.cell? ⟨b, off + j, none⟩ = some (.int .i64 (C[j]?.getD 0))) := ho4
    unfold maxLen at hc4
    clear ho4
    have hwr : IntKind.i64.wrap ((L.length : Int) - 1) = (L.length : Int) - 1 := by rw [IntKind.wrap_i64]; omega
    go_wp2
    go_loopw [8] (fun i wr => ∃ k q : Nat, k ≤ C.length ∧ i = .int .i64 (k : Nat) ∧ wr = w3.drewN q) (fun i _ => C.length - (intOf i).toNat)
    case atStart => exact ⟨0, 0, Nat.zero_le _, rfl, rfl⟩
    case round =>
      obtain ⟨k, q, hk, rfl, rfl⟩ := hrel
      have HQ : Hid (∀ n, ∃ q', (w3.drewN q).drewN n = w3.drewN q') := fun n => ⟨q + n, by simp [World.drewN_drewN]⟩
      have hdq : (w3.drewN q).cell? ⟨w.heap.size, 0, none⟩ = some (.slice ao L.length co) := hd0
      by_cases hlt : k < C.length
      · have hlt' : (k : Int) < (C.length : Int) := by omega
        obtain ⟨b, off, rfl, hlc, hbs, hcell⟩ := HO4.out k hlt
        have hck : (w3.drewN q).cell? ⟨b, off + k, none⟩ = some (.int .i64 (C[k]?.getD 0)) := hcell k hlt
        have hxr := HI.out.2 _ (List.getElem_mem hlt)
        have hcm := (HD.out.reach.2 _).1 (List.getElem_mem hlt)
        have hnt := nodup_take HI.out.1 hlt
        have HPRE : Hid (IsInts (w3.drewN q) (.slice (some ⟨b, off, none⟩) k c4) (C.take k)) := (isInts_prefix HC3.out rfl hk).heap rfl
        rw [List.getElem?_eq_getElem hlt, Option.getD_some] at hck
        generalize C[k] = y at *
        obtain ⟨y, rfl⟩ : ∃ t : Nat, y = (t : Int) := ⟨y.toNat, by omega⟩
        have HCO : Hid ((C.take k).contains (y : Int) = false) := by
          unfold Hid
          rw [Bool.eq_false_iff]
          exact fun h => hnt (List.contains_iff_mem.1 h)
        have hbit : n.testBit y = true := (HN.out.2 y (by omega)).2 hcm
        have HIN : Hid (∀ W, Calls Try.prog 9 #[.int .i64 (y : Nat), .int .i64 0, .int .i64 ((L.length : Int) - 1)] W fun e w' => e = .returned (.bool true) ∧ w' = W) := fun W => by
          have h := in_range (y : Nat) 0 ((L.length : Int) - 1) W
          rwa [decide_eq_true (show (0 : Int) ≤ (y : Nat) by omega), decide_eq_true (show ((y : Nat) : Int) ≤ (L.length : Int) - 1 by omega)] at h
        have HBI : Hid (∀ W, Calls Try.prog 11 #[.int .i64 (n : Nat), .int .i64 (y : Nat)] W fun e w' => e = .returned (.bool true) ∧ w' = W) := fun W => by
          have h := rbit_any n y hn16 (by omega) W
          rwa [hbit] at h
        have HHA : Hid (∀ W : World, W.heap = (w3.drewN q).heap → Calls Try.prog 10 #[.slice (some ⟨b, off, none⟩) k c4, .int .i64 (y : Nat)] W fun e w' => e = .returned (.bool false) ∧ w' = W) := fun W hW => has_at HPRE.out HCO.out W hW
        clear hcell hxr hcm hnt hbit hd0 HO4
        generalize w3.drewN q = wq at *
        go_wp2
        go_quiet (first | (go_at_call 9; exact Calls.quiet_of_same (HIN.out _)) | (go_at_call 10; exact Calls.quiet_of_same (HHA.out _ (by rfl))) | (go_at_call 11; exact Calls.quiet_of_same (HBI.out _)))
        go_wp2
        go_roundw
        case rel =>
          obtain ⟨q', hq'⟩ := HQ.out nq
          exact ⟨k + 1, q', by omega, by go_num, hq'⟩
        case measure => simp [intOf]; omega
      · have hlt' : ¬ (k : Int) < (C.length : Int) := by omega
        have HCQ : Hid (IsInts (w3.drewN q) (.slice a4 C.length c4) C) := HC3.out.heap rfl
        have hnn : ((n : Int) == n) = true := by simp
        go_wp2_with (go_at_call 12; go_must (refine (refset_any _ C _ HCQ.out HC16.out (by omega)).mono ?_; rintro e w' ⟨rfl, hw⟩; have hw := hw.symm; subst hw; rw [HSN.out]))
        go_ret
        exact ⟨rfl, below_drewN HB3.out.below _⟩
  · have HE : Hid (errV (chkH L R) = .iface 56 (.int .i64 (chkH L R))) := errV_pos h0
    rw [HE.out]
    clear h0 hn
    go_wp2
    go_ret
    exact ⟨rfl, HB3.out.below⟩

theorem sweepMark_own : ownKnob Try.prog.godebug = none := by kernel_rfl
theorem sweepMark_laidOut : laidOutB Try.prog = true := by kernel_rfl

set_option maxRecDepth 100000 in
theorem sweepMark_lifted (os : Os) (started : os.Started) (H : Type) (enc : TypeId × Value → H) :
    ReturnsInHanded {} Try.checked os 3 .any (Rows.sweepMarkSpec.pre6 enc Try.prog Try.f3 Rows.sweepMarkRow.domain false) (Rows.sweepMarkSpec.post enc Try.prog Try.f3 false true false false) := by
  refine returnsInHanded_of_change (C := Try.checked) sweepMark_own started (by kernel_rfl) Try.func3
    (ChangeSpec.witness6 (enc := enc) (C := Try.checked) false ⟨#[], #[.agg #[.slice none 0 0, .slice none 0 0]], []⟩ 8 (by kernel_rfl) (by kernel_rfl) (by kernel_rfl) (by kernel_rfl)) ?_
  intro W base args ds gs before hval0 hW _ _
  have hval : ∀ (j : Nat) t v, Try.f3.params[j]? = some t → args[j]? = some v → Value.okWide Try.prog W .any base t v := hval0
  have hW' : DataW.Whole enc Try.prog Try.f3.params.toList Rows.sweepMarkSpec.vars false W args.toList ds gs before := hW
  obtain ⟨p, q, hA0, hV, rfl, hfz, hnd⟩ := hW
  have hA : DataW.TrodAll enc Try.prog W 0 (fun _ => true) true Try.f3.params.toList args.toList ds p := hA0
  rw [Try.params3] at hA hval
  obtain ⟨v0, vs0, d0, ds0, p0, q0, hargs, rfl, rfl, h0, r0⟩ := trodAll_cons hA
  obtain ⟨rfl, rfl, rfl⟩ := trodAll_nil r0
  obtain rfl : args = #[v0] := by cases args; simp_all
  obtain ⟨rfl, rfl⟩ := trodVars_none hV
  obtain ⟨l0, rt0, hl0, hc0⟩ := arg_heap (hval 0 25 v0 rfl rfl) h0
  clear hA0 hval0
  refine (swmark_any v0 l0 rt0 W hl0 hc0).mono fun e W' ⟨he, hb⟩ => ?_
  subst he
  exact ⟨_, rfl, law_post hW' hb sweepMark_laidOut rfl (by kernel_rfl) (by kernel_rfl) Try.underlying4 rfl rfl rfl⟩

theorem sweepMark_holds : Rows.SweepMarkSaid :=
  OpenClaim.holds_of_wide 3 Try.f3 rfl rfl rfl rfl rfl rfl rfl ⟨rfl, rfl, rfl, rfl, rfl⟩ rfl rfl rfl rfl rfl (by kernel_rfl) Try.func3 (by kernel_rfl)
    (of_decide_eq_true (by kernel_rfl)) (by unfold Func.isWrapper; first | (rw [if_pos (by decide +kernel)]; kernel_rfl) | (rw [if_neg (by decide +kernel)]; exact ⟨rfl, rfl⟩))
    (fun os started H enc _ => sweepMark_lifted os started H enc)
end Go.Proofs.Ytelmfccpcejdnaa
