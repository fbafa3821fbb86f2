/- FlushLru is proved: for every list of requests and every number of slots, in whatever memory and on every schedule, it returns true and leaves its argument as it was: what is there for who lets all go is there for who goes by the last asking. No condition. -/
import Derived.Test.YtggigaokllahoaaFlushFact
import Derived.Test.YtggigaokllahoaaFlushIn
import Derived.Test.YtggigaokllahoaaLru
import Derived.Test.YtggigaokllahoaaHas
import Derived.Test.YtggigaokllahoaaLawkit
namespace Go.Proofs.Ytggigaokllahoaa
open Go.ChangeShapes Go.WideShapes Go.ChangeAt Go.RowKit Go.Sort

theorem hits_marks (s : Nat) (l : List Int) (k : Nat) : hits s l k = marks (hitAt s l) k := rfl
theorem has_is {v : Value} {l : List Int} {x : Int} {r : Bool} {w : World} (hv : IsInts w v l) (hr : l.contains x = r) :
    Calls Try.prog 7 #[v, .int .i64 x] w fun e w' => e = .returned (.bool r) ∧ w' = w := by
  subst hr; exact has_any v l x w hv

set_option maxHeartbeats 1000000 in
theorem flushLru_any (v : Value) (l : List Int) (s : Int) (w : World) (hv : IsInts w v l) (_hform : ∃ ao cap, v = .slice ao l.length cap) :
    Calls Try.prog 3 #[v, .int .i64 s] w fun e w' => e = .returned (.bool true) ∧ Below w.heap.size w w' := by
  have HV : Hid (IsInts w v l) := hv
  clear hv
  by_cases h0 : chk l s = 0
  · obtain ⟨h40, h1, h8⟩ := chk_zero h0
    have HC : Hid (chk l s = 0) := h0
    obtain ⟨n, rfl⟩ : ∃ n : Nat, s = n := ⟨s.toNat, by omega⟩
    have hn1 : 1 ≤ n := by omega
    clear h0
    go_enter Try.func3, Try.ntmps3
    go_wp2_with (first | (go_at_call 4; go_must (refine (empty_any _).mono ?_; rintro e w1 ⟨rfl, hb1⟩)) | (go_at_call 5; fail))
    refine (flush_any _ l n _ (HV.out.below hb1)).mono ?_
    rintro e w2 ⟨vb, vh, rfl, hB, hO, hb2⟩
    rw [HC.out, show errV 0 = .nilIface from rfl]
    have HB2 : Hid (Below w.heap.size w w2) := hb1.trans (hb2.mono hb1.size)
    rw [flushB_ok HC.out, Int.toNat_natCast] at hB
    rw [flushL_ok HC.out, Int.toNat_natCast] at hO
    have HBa : Hid (OwnB w2 w1.heap.size vb (marks (ehit n l) l.length)) := hB
    have HOa : Hid (OwnI w2 w1.heap.size vh (since n l l.length)) := hO
    clear hb1 hb2 hB hO
    go_wp2_with (go_at_call 6; fail)
    refine (lru_any _ l n _ (HV.out.below HB2.out)).mono ?_
    rintro e w3 ⟨vb', vh', rfl, hB, hO, hb3⟩
    have HB3 : Hid (Below w.heap.size w w3) := HB2.out.trans (hb3.mono HB2.out.size)
    rw [HC.out, show errV 0 = .nilIface from rfl]
    rw [lruB_ok HC.out, Int.toNat_natCast, hits_marks] at hB
    rw [lruL_ok HC.out, Int.toNat_natCast] at hO
    have HBb : Hid (IsBools w3 vb (marks (ehit n l) l.length)) := HBa.out.isBools.below hb3
    have HBc : Hid (IsBools w3 vb' (marks (hitAt n l) l.length)) := hB.isBools
    have HOb : Hid (IsInts w3 vh (since n l l.length)) := HOa.out.isInts.below hb3
    have HOc : Hid (IsInts w3 vh' ((full l).take n)) := hO.isInts
    obtain ⟨ah, ch, hvh⟩ := HOa.out.form
    obtain ⟨ab, cb, hvb⟩ := HBa.out.form
    obtain ⟨ab', cb', hvb'⟩ := hB.form
    rw [marks_length] at hvb hvb'
    subst hvb hvb' hvh
    have HIN : Hid (∀ j, j < (since n l l.length).length → ((full l).take n).contains ((since n l l.length)[j]?.getD 0) = true) := fun j hj => since_all hn1 hj
    have HHI : Hid (∀ k, k ≤ l.length → ehit n l k = true → hitAt n l k = true) := fun k hk => since_hits hn1 hk
    have hm8 := since_le hn1 l l.length
    clear HBa HOa HC hb3 hB hO
    generalize since n l l.length = held at *
    generalize (full l).take n = lru at *
    go_wp2
    go_loop [12] (fun i => ∃ k : Nat, k ≤ l.length ∧ i = .int .i64 k) (fun i => l.length - (intOf i).toNat)
    case atStart => exact ⟨0, by omega, rfl⟩
    case round =>
      obtain ⟨k, hk, rfl⟩ := hrel
      by_cases hlt : k < l.length
      · obtain ⟨b1, o1, c1, hv1, hn1, hm1, hc1⟩ := marks_cells HBb.out (by omega : 0 < l.length)
        obtain ⟨b2, o2, c2, hv2, hn2, hm2, hc2⟩ := marks_cells HBc.out (by omega : 0 < l.length)
        simp only [Value.slice.injEq] at hv1 hv2
        obtain ⟨rfl, _, rfl⟩ := hv1
        obtain ⟨rfl, _, rfl⟩ := hv2
        have hck1 := hc1 k hlt
        have hck2 := hc2 k hlt
        have himp := HHI.out k hk
        clear hc1 hc2
        unfold maxLen at hm1 hm2
        generalize ehit n l k = p1 at *
        generalize hitAt n l k = p2 at *
        cases p1
        · go_wp2
          go_round
          case rel => exact ⟨k + 1, by omega, by go_num⟩
          case measure => simp [intOf]; omega
        · obtain rfl := himp rfl
          go_wp2
          go_round
          case rel => exact ⟨k + 1, by omega, by go_num⟩
          case measure => simp [intOf]; omega
      · go_wp2
        go_loop [13] (fun i => ∃ j : Nat, j ≤ held.length ∧ i = .int .i64 j) (fun i => held.length - (intOf i).toNat)
        case atStart => exact ⟨0, by omega, rfl⟩
        case round =>
          obtain ⟨j, hj, rfl⟩ := hrel
          by_cases hjl : j < held.length
          · rcases HOb.out with ⟨h, _⟩ | ⟨b, off, cap, hv, hp, hlc, hcap, hc⟩
            · subst h; simp at hjl
            simp only [Value.slice.injEq] at hv
            obtain ⟨rfl, _, rfl⟩ := hv
            have hck := hc j hjl
            have HH : Hid (lru.contains (held[j]?.getD 0) = true) := HIN.out j hjl
            clear hc
            unfold maxLen at hcap
            generalize held[j]?.getD 0 = p at *
            go_wp2_with (go_at_call 7; go_must (refine (has_is HOc.out HH.out).mono ?_; rintro e w' ⟨rfl, hw⟩; have hw := hw.symm; subst hw))
            go_round
            case rel => exact ⟨j + 1, by omega, by go_num⟩
            case measure => simp [intOf]; omega
          · go_wp2
            go_ret
            exact ⟨rfl, HB3.out⟩
  · have HE : Hid (errV (chk l s) = .iface 36 (.int .i64 (chk l s))) := errV_pos h0
    clear h0
    go_enter Try.func3, Try.ntmps3
    go_wp2_with (first | (go_at_call 4; go_must (refine (empty_any _).mono ?_; rintro e w1 ⟨rfl, hb1⟩)) | (go_at_call 5; fail))
    refine (flush_any _ l s _ (HV.out.below hb1)).mono ?_
    rintro e w2 ⟨vb, vh, rfl, _, _, hb2⟩
    rw [HE.out]
    have HB2 : Hid (Below w.heap.size w w2) := hb1.trans (hb2.mono hb1.size)
    clear hb1 hb2
    go_wp2_with (go_at_call 6; fail)
    refine (lru_any _ l s _ (HV.out.below HB2.out)).mono ?_
    rintro e w3 ⟨vb', vh', rfl, _, _, hb3⟩
    rw [HE.out]
    have HB3 : Hid (Below w.heap.size w w3) := HB2.out.trans (hb3.mono HB2.out.size)
    clear hb3
    go_wp2
    go_ret
    exact ⟨rfl, HB3.out⟩


theorem flushLru_own : ownKnob Try.prog.godebug = none := by kernel_rfl
theorem flushLru_laidOut : laidOutB Try.prog = true := by kernel_rfl

set_option maxRecDepth 100000 in
theorem flushLru_lifted (os : Os) (started : os.Started) (H : Type) (enc : TypeId × Value → H) :
    ReturnsInHanded {} Try.checked os 3 .any (Rows.flushLruSpec.pre6 enc Try.prog Try.f3 Rows.flushLruRow.domain false) (Rows.flushLruSpec.post enc Try.prog Try.f3 false true false false) := by
  refine returnsInHanded_of_change (C := Try.checked) flushLru_own started (by kernel_rfl) Try.func3
    (ChangeSpec.witness6 (enc := enc) (C := Try.checked) false ⟨#[], #[.slice none 0 0, .int .i64 0], []⟩ 8 (by kernel_rfl) (by kernel_rfl) (by kernel_rfl) (by kernel_rfl)) ?_
  intro W base args ds gs before hval0 hW _ _
  have hval : ∀ (j : Nat) t v, Try.f3.params[j]? = some t → args[j]? = some v → Value.okWide Try.prog W .any base t v := hval0
  have hW' : DataW.Whole enc Try.prog Try.f3.params.toList Rows.flushLruSpec.vars false W args.toList ds gs before := hW
  obtain ⟨p, q, hA0, hV, rfl, hfz, hnd⟩ := hW
  have hA : DataW.TrodAll enc Try.prog W 0 (fun _ => true) true Try.f3.params.toList args.toList ds p := hA0
  rw [Try.params3] at hA hval
  obtain ⟨v0, vs0, d0, ds0, p0, q0, hargs, rfl, rfl, h0, r0⟩ := trodAll_cons hA
  obtain ⟨v1, vs1, d1, ds1, p1, q1, rfl, rfl, rfl, h1, r1⟩ := trodAll_cons r0
  obtain ⟨rfl, rfl, rfl⟩ := trodAll_nil r1
  obtain rfl : args = #[v0, v1] := by cases args; simp_all
  obtain ⟨rfl, rfl⟩ := trodVars_none hV
  obtain ⟨n1, rfl, rfl, rfl, wn1⟩ := open_int Try.underlying3 (hval 1 3 v1 rfl rfl) h1
  obtain ⟨l0, ao0, cap0, hv0, hl0⟩ := arg_ints Try.underlying22 Try.underlying3 (by kernel_rfl) (hval 0 22 v0 rfl rfl) h0
  clear hA0 hval0
  refine (flushLru_any v0 l0 n1 W hl0 ⟨ao0, cap0, hv0⟩).mono fun e W' ⟨he, hb⟩ => ?_
  subst he
  exact ⟨_, rfl, law_post hW' hb flushLru_laidOut rfl (by kernel_rfl) (by kernel_rfl) Try.underlying4 rfl rfl rfl⟩

theorem flushLru_holds : Rows.FlushLruSaid :=
  OpenClaim.holds_of_wide 3 Try.f3 rfl rfl rfl rfl rfl rfl rfl ⟨rfl, rfl, rfl, rfl, rfl⟩ rfl rfl rfl rfl rfl (by kernel_rfl) Try.func3 (by kernel_rfl)
    (of_decide_eq_true (by kernel_rfl)) (by unfold Func.isWrapper; first | (rw [if_pos (by decide +kernel)]; kernel_rfl) | (rw [if_neg (by decide +kernel)]; exact ⟨rfl, rfl⟩))
    (fun os started H enc _ => flushLru_lifted os started H enc)
end Go.Proofs.Ytggigaokllahoaa
