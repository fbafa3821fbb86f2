/- LruNested is proved: for every list of requests and every number of slots, in whatever memory and on every schedule, it returns true and leaves its argument as it was: what few slots have more slots have, too. No condition. -/
import Derived.Test.YtmjmdggpchfnbaaLruFact
import Derived.Test.YtmjmdggpchfnbaaLawkit
namespace Go.Proofs.Ytmjmdggpchfnbaa
open Go.ChangeShapes Go.WideShapes Go.ChangeAt Go.RowKit Go.Sort

theorem nested_hit {s : Nat} {l : List Int} {k : Nat} (h : hitAt s l k = true) : hitAt (s+1) l k = true := by
  unfold hitAt at h ⊢
  simp only [List.contains_iff_mem] at h ⊢
  have : (full (l.take k)).take s = ((full (l.take k)).take (s+1)).take s := by rw [List.take_take, Nat.min_eq_left (by omega)]
  rw [this] at h
  exact List.mem_of_mem_take h

theorem isInts_prefix {w : World} {ao : Option Addr} {n cap a : Nat} {l : List Int} (h : IsInts w (.slice ao n cap) l) (hn : l.length = n) (ha : a ≤ n) : IsInts w (.slice ao a cap) (l.take a) := by
  rcases h with ⟨rfl, ao2, cap2, hv, hm⟩ | ⟨b, off, cap2, hv, hp, hlc, hm, hc⟩
  · simp at hv hn
    obtain ⟨rfl, rfl, rfl⟩ := hv
    exact .inl ⟨by simp, ao, cap, by rw [show a = 0 by omega], hm⟩
  · simp at hv
    obtain ⟨rfl, rfl, rfl⟩ := hv
    have hlen : (l.take a).length = a := by rw [List.length_take]; omega
    by_cases h0 : a = 0
    · exact .inl ⟨by simp [h0], _, cap, by rw [h0], hm⟩
    · refine .inr ⟨b, off, cap, by rw [hlen], by omega, by omega, hm, fun j hj => ?_⟩
      have hj' : j < a := by omega
      rw [List.getElem?_take_of_lt hj']
      exact hc j (by omega)

theorem own_cases {w : World} {base : Nat} {v : Value} {l : List Int} (h : OwnI w base v l) : (v = .slice none 0 0 ∧ l = []) ∨ ∃ g cap, v = .slice (some ⟨g, 0, none⟩) l.length cap ∧ l.length ≤ cap ∧ cap ≤ maxLen := by
  rcases h.2 with ⟨rfl, h0⟩ | ⟨g, cap, cur, rfl, hb, hg, hn, hm, hs, ht⟩
  · exact .inl ⟨rfl, List.eq_nil_of_length_eq_zero h0⟩
  · exact .inr ⟨g, cap, rfl, hn, hm⟩

theorem hits_cells {w : World} {v : Value} {s n : Nat} {l : List Int} (h : IsBools w v (hits s l n)) (hn : 0 < n) : ∃ b off cap, v = .slice (some ⟨b, off, none⟩) n cap ∧ n ≤ cap ∧ cap ≤ maxLen ∧ ∀ j, j < n → w.cell? ⟨b, off + j, none⟩ = some (.bool (hitAt s l j)) := by
  rcases h with ⟨h0, _⟩ | ⟨b, off, cap, hv, hp, hlc, hm, hc⟩
  · have := hits_length s l n
    rw [h0] at this; simp at this; omega
  · rw [hits_length] at hv hlc hc
    exact ⟨b, off, cap, hv, hlc, hm, fun j hj => by rw [hc j hj, hits_get hj]⟩

set_option maxHeartbeats 1000000 in
theorem nested_any (v : Value) (l : List Int) (s : Int) (w : World) (hv : IsInts w v l) (_hform : ∃ ao cap, v = .slice ao l.length cap) :
    Calls Try.prog 3 #[v, .int .i64 s] w fun e w' => e = .returned (.bool true) ∧ Below w.heap.size w w' := by
  have HV : Hid (IsInts w v l) := hv
  clear hv
  by_cases h0 : chk l s = 0
  · obtain ⟨h40, h1, h8⟩ := chk_zero h0
    have HC : Hid (chk l s = 0) := h0
    obtain ⟨n, rfl⟩ : ∃ n : Nat, s = n := ⟨s.toNat, by omega⟩
    have hwr : IntKind.i64.wrap ((n : Int) + 1) = (n : Int) + 1 := by rw [IntKind.wrap_i64]; omega
    clear h0
    go_enter Try.func3, Try.ntmps3
    go_wp2_with (first | (go_at_call 6; go_must (refine (fact_any _).mono ?_; rintro e w1 ⟨rfl, hb1⟩)) | (go_at_call 7; fail))
    refine (run_any _ l n _ (HV.out.below hb1)).mono ?_
    rintro e w2 ⟨vb, vh, rfl, hB, hO, hb2⟩
    rw [HC.out, show errV 0 = .nilIface from rfl]
    have HB2 : Hid (Below w.heap.size w w2) := hb1.trans (hb2.mono hb1.size)
    rw [lruB_ok HC.out, Int.toNat_natCast] at hB
    rw [lruL_ok HC.out, Int.toNat_natCast] at hO
    have HBa : Hid (OwnB w2 w1.heap.size vb (hits n l l.length)) := hB
    have HOa : Hid (OwnI w2 w1.heap.size vh ((full l).take n)) := hO
    clear hb1 hb2 hB hO
    go_wp2_with (go_at_call 7; fail)
    refine (run_any _ l (n + 1) _ (HV.out.below HB2.out)).mono ?_
    rintro e w3 ⟨vb', vh', rfl, hB, hO, hb3⟩
    have HB3 : Hid (Below w.heap.size w w3) := HB2.out.trans (hb3.mono HB2.out.size)
    by_cases h1 : chk l ((n : Int) + 1) = 0
    · have HC1 : Hid (chk l ((n : Int) + 1) = 0) := h1
      clear h1
      rw [HC1.out, show errV 0 = .nilIface from rfl]
      have hnn : ((n : Int) + 1).toNat = n + 1 := by omega
      rw [lruB_ok HC1.out, hnn] at hB
      rw [lruL_ok HC1.out, hnn] at hO
      have HBb : Hid (IsBools w3 vb (hits n l l.length)) := HBa.out.isBools.below hb3
      have HBc : Hid (IsBools w3 vb' (hits (n+1) l l.length)) := hB.isBools
      have HOb : Hid (IsInts w3 vh ((full l).take n)) := HOa.out.isInts.below hb3
      have HOc : Hid (IsInts w3 vh' ((full l).take (n+1))) := hO.isInts
      obtain ⟨ah, ch, rfl⟩ := HOa.out.form
      obtain ⟨ab, cb, hvb⟩ := HBa.out.form
      obtain ⟨ab', cb', hvb'⟩ := hB.form
      rw [hits_length] at hvb hvb'
      subst hvb hvb'
      have hle : ((full l).take n).length ≤ ((full l).take (n+1)).length := by simp only [List.length_take]; omega
      have HPR : Hid (((full l).take (n+1)).take ((full l).take n).length = (full l).take n) := by
        unfold Hid; rw [List.length_take, List.take_take, Nat.min_eq_left (by omega)]
        by_cases h : n ≤ (full l).length
        · rw [Nat.min_eq_left h]
        · rw [List.take_of_length_le (by omega : (full l).length ≤ n), List.take_of_length_le (by omega)]
      have HNE : Hid (l = [] ↔ (full l).take (n+1) = []) := by
        unfold Hid
        constructor
        · rintro rfl; rfl
        · intro h
          cases l with
          | nil => rfl
          | cons x r =>
            have hx : x ∈ full (x :: r) := full_mem.2 (by simp)
            rcases List.take_eq_nil_iff.1 h with h | h
            · omega
            · rw [h] at hx; simp at hx
      have hcs := own_cases hO
      clear HBa HOa HC HC1 hnn hb3 hB hO
      generalize (full l).take n = held at *
      generalize (full l).take (n+1) = held' at *
      have HIP : Hid (∀ ao cap, vh' = .slice ao held'.length cap → IsInts w3 (.slice ao held.length cap) held) := by
        rintro ao cap rfl
        have := isInts_prefix HOc.out rfl hle
        rwa [HPR.out] at this
      clear HPR HOc
      have hh8 : held'.length ≤ 2 ^ 63 - 1 := by
        rcases hcs with ⟨_, rfl⟩ | ⟨g, cap, _, h1, h2⟩
        · simp
        · unfold maxLen at h2; omega
      by_cases hl : l.length = 0
      · obtain rfl : l = [] := List.eq_nil_of_length_eq_zero hl
        obtain rfl : held' = [] := HNE.out.1 rfl
        obtain rfl : held = [] := List.eq_nil_of_length_eq_zero (by simpa using hle)
        clear HNE hl hle hh8
        simp only [List.length_nil] at *
        rcases hcs with ⟨rfl, _⟩ | ⟨g, cap, rfl, hgc, hgm⟩
        · have HI2 : Hid (IsInts w3 (.slice none 0 0) []) := HIP.out _ _ rfl
          clear HIP
          go_wp2_with (go_at_call 8; go_must (refine (ints_same _ _ [] _ HOb.out HI2.out).mono ?_; rintro e w4 ⟨rfl, q, rfl⟩))
          go_loop [12] (fun i => i = .int .i64 0) (fun _ => 0)
          case atStart => rfl
          case round =>
            obtain rfl := hrel
            go_wp2
            go_ret
            exact ⟨rfl, below_drewN HB3.out q⟩
        · have HI2 : Hid (IsInts w3 (.slice (some ⟨g, 0, none⟩) 0 cap) []) := HIP.out _ _ rfl
          unfold maxLen at hgm
          clear HIP
          go_wp2_with (go_at_call 8; go_must (refine (ints_same _ _ [] _ HOb.out HI2.out).mono ?_; rintro e w4 ⟨rfl, q, rfl⟩))
          go_loop [12] (fun i => i = .int .i64 0) (fun _ => 0)
          case atStart => rfl
          case round =>
            obtain rfl := hrel
            go_wp2
            go_ret
            exact ⟨rfl, below_drewN HB3.out q⟩
      · have hpos : 0 < l.length := by omega
        obtain ⟨b1, o1, c1, hv1, hn1, hm1, hc1⟩ := hits_cells HBb.out hpos
        obtain ⟨b2, o2, c2, hv2, hn2, hm2, hc2⟩ := hits_cells HBc.out hpos
        simp only [Value.slice.injEq] at hv1 hv2
        obtain ⟨rfl, _, rfl⟩ := hv1
        obtain ⟨rfl, _, rfl⟩ := hv2
        have HC1 : Hid (∀ j, j < l.length → w3.cell? ⟨b1, o1 + j, none⟩ = some (.bool (hitAt n l j))) := hc1
        have HC2 : Hid (∀ j, j < l.length → w3.cell? ⟨b2, o2 + j, none⟩ = some (.bool (hitAt (n+1) l j))) := hc2
        clear hc1 hc2 hl HBb HBc
        unfold maxLen at hm1 hm2
        rcases hcs with ⟨rfl, rfl⟩ | ⟨g, cap, rfl, hgc, hgm⟩
        · have := HNE.out.2 rfl
          subst this
          simp at hpos
        · clear HNE
          have HI2 := HIP.out _ _ rfl
          have HI2 : Hid (IsInts w3 (.slice (some ⟨g, 0, none⟩) held.length cap) held) := HI2
          unfold maxLen at hgm
          clear HIP
          go_wp2_with (go_at_call 8; go_must (refine (ints_same _ _ held _ HOb.out HI2.out).mono ?_; rintro e w4 ⟨rfl, q, rfl⟩))
          go_loop [12] (fun i => ∃ k : Nat, k ≤ l.length ∧ i = .int .i64 k) (fun i => l.length - (intOf i).toNat)
          case atStart => exact ⟨0, by omega, rfl⟩
          case round =>
            obtain ⟨k, hk, rfl⟩ := hrel
            by_cases hlt : k < l.length
            · have hck1 := HC1.out k hlt
              have hck2 := HC2.out k hlt
              have himp := nested_hit (s := n) (l := l) (k := k)
              generalize hitAt n l k = p1 at *
              generalize hitAt (n+1) l k = p2 at *
              cases p1
              · go_wp2
                go_round
                case rel => exact ⟨k + 1, by omega, by go_num⟩
                case measure => simp [intOf]; omega
              · obtain rfl := himp rfl
                go_wp2
                go_round
                case rel => exact ⟨k + 1, by omega, by go_num⟩
                case measure => simp [intOf]; omega
            · go_wp2
              go_ret
              exact ⟨rfl, below_drewN HB3.out q⟩
    · have HE : Hid (errV (chk l ((n : Int) + 1)) = .iface 37 (.int .i64 (chk l ((n : Int) + 1)))) := errV_pos h1
      clear h1 hB hO hb3
      rw [HE.out]
      go_wp2
      go_ret
      exact ⟨rfl, HB3.out⟩
  · have HE : Hid (errV (chk l s) = .iface 37 (.int .i64 (chk l s))) := errV_pos h0
    clear h0
    go_enter Try.func3, Try.ntmps3
    go_wp2_with (first | (go_at_call 6; go_must (refine (fact_any _).mono ?_; rintro e w1 ⟨rfl, hb1⟩)) | (go_at_call 7; fail))
    refine (run_any _ l s _ (HV.out.below hb1)).mono ?_
    rintro e w2 ⟨vb, vh, rfl, _, _, hb2⟩
    rw [HE.out]
    have HB2 : Hid (Below w.heap.size w w2) := hb1.trans (hb2.mono hb1.size)
    clear hb1 hb2
    go_wp2_with (go_at_call 7; fail)
    refine (run_any _ l _ _ (HV.out.below HB2.out)).mono ?_
    rintro e w3 ⟨vb', vh', rfl, _, _, hb3⟩
    go_wp2
    go_ret
    exact ⟨rfl, HB2.out.trans (hb3.mono HB2.out.size)⟩

theorem lruNested_own : ownKnob Try.prog.godebug = none := by kernel_rfl
theorem lruNested_laidOut : laidOutB Try.prog = true := by kernel_rfl

set_option maxRecDepth 100000 in
theorem lruNested_lifted (os : Os) (started : os.Started) (H : Type) (enc : TypeId × Value → H) :
    ReturnsInHanded {} Try.checked os 3 .any (Rows.lruNestedSpec.pre6 enc Try.prog Try.f3 Rows.lruNestedRow.domain false) (Rows.lruNestedSpec.post enc Try.prog Try.f3 false true false false) := by
  refine returnsInHanded_of_change (C := Try.checked) lruNested_own started (by kernel_rfl) Try.func3
    (ChangeSpec.witness6 (enc := enc) (C := Try.checked) false ⟨#[], #[.slice none 0 0, .int .i64 0], []⟩ 8 (by kernel_rfl) (by kernel_rfl) (by kernel_rfl) (by kernel_rfl)) ?_
  intro W base args ds gs before hval0 hW _ _
  have hval : ∀ (j : Nat) t v, Try.f3.params[j]? = some t → args[j]? = some v → Value.okWide Try.prog W .any base t v := hval0
  have hW' : DataW.Whole enc Try.prog Try.f3.params.toList Rows.lruNestedSpec.vars false W args.toList ds gs before := hW
  obtain ⟨p, q, hA0, hV, rfl, hfz, hnd⟩ := hW
  have hA : DataW.TrodAll enc Try.prog W 0 (fun _ => true) true Try.f3.params.toList args.toList ds p := hA0
  rw [Try.params3] at hA hval
  obtain ⟨v0, vs0, d0, ds0, p0, q0, hargs, rfl, rfl, h0, r0⟩ := trodAll_cons hA
  obtain ⟨v1, vs1, d1, ds1, p1, q1, rfl, rfl, rfl, h1, r1⟩ := trodAll_cons r0
  obtain ⟨rfl, rfl, rfl⟩ := trodAll_nil r1
  obtain rfl : args = #[v0, v1] := by cases args; simp_all
  obtain ⟨rfl, rfl⟩ := trodVars_none hV
  obtain ⟨n1, rfl, rfl, rfl, wn1⟩ := open_int Try.underlying3 (hval 1 3 v1 rfl rfl) h1
  obtain ⟨l0, ao0, cap0, hv0, hl0⟩ := arg_ints Try.underlying22 Try.underlying3 (by kernel_rfl) (hval 0 22 v0 rfl rfl) h0
  clear hA0 hval0
  refine (nested_any v0 l0 n1 W hl0 ⟨ao0, cap0, hv0⟩).mono fun e W' ⟨he, hb⟩ => ?_
  subst he
  exact ⟨_, rfl, law_post hW' hb lruNested_laidOut rfl (by kernel_rfl) (by kernel_rfl) Try.underlying4 rfl rfl rfl⟩

theorem lruNested_holds : Rows.LruNestedSaid :=
  OpenClaim.holds_of_wide 3 Try.f3 rfl rfl rfl rfl rfl rfl rfl ⟨rfl, rfl, rfl, rfl, rfl⟩ rfl rfl rfl rfl rfl (by kernel_rfl) Try.func3 (by kernel_rfl)
    (of_decide_eq_true (by kernel_rfl)) (by unfold Func.isWrapper; first | (rw [if_pos (by decide +kernel)]; kernel_rfl) | (rw [if_neg (by decide +kernel)]; exact ⟨rfl, rfl⟩))
    (fun os started H enc _ => lruNested_lifted os started H enc)
end Go.Proofs.Ytmjmdggpchfnbaa
