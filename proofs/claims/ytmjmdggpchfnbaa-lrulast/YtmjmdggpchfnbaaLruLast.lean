/- LruLast is proved: for every list of requests and every number of slots, in whatever memory and on every schedule, it returns true and leaves its argument as it was: what is there at the end was asked for of late. No condition. -/
import Derived.Test.YtmjmdggpchfnbaaLruFact
import Derived.Test.YtmjmdggpchfnbaaLate
import Derived.Test.YtmjmdggpchfnbaaHas
import Derived.Test.YtmjmdggpchfnbaaSome
import Derived.Test.YtmjmdggpchfnbaaLawkit
namespace Go.Proofs.Ytmjmdggpchfnbaa
open Go.ChangeShapes Go.WideShapes Go.ChangeAt Go.RowKit Go.Sort

theorem isInts_prefix {w : World} {ao : Option Addr} {n cap a : Nat} {l : List Int} (h : IsInts w (.slice ao n cap) l) (hn : l.length = n) (ha : a ≤ n) : IsInts w (.slice ao a cap) (l.take a) := by
  rcases h with ⟨rfl, ao2, cap2, hv, hm⟩ | ⟨b, off, cap2, hv, hp, hlc, hm, hc⟩
  · simp at hv hn
    obtain ⟨rfl, rfl, rfl⟩ := hv
    exact .inl ⟨by simp, ao, cap, by rw [show a = 0 by omega], hm⟩
  · simp at hv
    obtain ⟨rfl, rfl, rfl⟩ := hv
    have hlen : (l.take a).length = a := by rw [List.length_take]; omega
    by_cases h0 : a = 0
    · exact .inl ⟨by simp [h0], _, cap, by rw [h0], hm⟩
    · refine .inr ⟨b, off, cap, by rw [hlen], by omega, by omega, hm, fun j hj => ?_⟩
      have hj' : j < a := by omega
      rw [List.getElem?_take_of_lt hj']
      exact hc j (by omega)

theorem IsInts.heap {w0 w : World} {v : Value} {l : List Int} (h : IsInts w0 v l) (hh : w.heap = w0.heap) : IsInts w v l := by
  unfold IsInts World.cell? at h ⊢
  rw [hh]; exact h

theorem has_is {v : Value} {l : List Int} {x : Int} {r : Bool} {w0 : World} (hv : IsInts w0 v l) (hr : l.contains x = r) (w : World) (hh : w.heap = w0.heap) :
    Calls Try.prog 10 #[v, .int .i64 x] w fun e w' => e = .returned (.bool r) ∧ w' = w := by
  have := has_any v l x w (hv.heap hh)
  rwa [hr] at this

theorem some_is {v : Value} {l : List Int} {n : Nat} {w0 : World} (hv : IsInts w0 v l) (hr : firsts l l.length = n) (w : World) (hh : w.heap = w0.heap) :
    Calls Try.prog 9 #[v] w fun e w' => e = .returned (.int .i64 n) ∧ ∃ q, w' = w.drewN q := by
  have := some_any v l w (hv.heap hh)
  rwa [hr] at this

theorem drewN_two (w : World) (a b : Nat) : (w.drewN a).drewN b = w.drewN (a + b) := by simp [World.drewN, Nat.add_assoc]
theorem drewN_three (w : World) (a b c : Nat) : ((w.drewN a).drewN b).drewN c = w.drewN (a + b + c) := by simp [World.drewN, Nat.add_assoc]

set_option maxHeartbeats 2000000 in
theorem last_any (v : Value) (l : List Int) (s : Int) (w : World) (hv : IsInts w v l) (hform : ∃ ao cap, v = .slice ao l.length cap) :
    Calls Try.prog 5 #[v, .int .i64 s] w fun e w' => e = .returned (.bool true) ∧ Below w.heap.size w w' := by
  have HV : Hid (IsInts w v l) := hv
  clear hv
  by_cases h0 : chk l s = 0
  · obtain ⟨h40, h1, h8⟩ := chk_zero h0
    have HC : Hid (chk l s = 0) := h0
    obtain ⟨n, rfl⟩ : ∃ n : Nat, s = n := ⟨s.toNat, by omega⟩
    obtain ⟨av, cv, rfl⟩ := hform
    clear h0
    go_enter Try.func5, Try.ntmps5
    go_wp2_with (first | (go_at_call 6; go_must (refine (fact_any _).mono ?_; rintro e w1 ⟨rfl, hb1⟩)) | (go_at_call 7; fail))
    refine (run_any _ l n _ (HV.out.below hb1)).mono ?_
    rintro e w2 ⟨vb, vh, rfl, hB, hO, hb2⟩
    rw [HC.out, show errV 0 = .nilIface from rfl]
    have HB2 : Hid (Below w.heap.size w w2) := hb1.trans (hb2.mono hb1.size)
    rw [lruL_ok HC.out, Int.toNat_natCast] at hO
    have HVa : Hid (IsInts w2 (.slice av l.length cv) l) := HV.out.below HB2.out
    have HOa : Hid (IsInts w2 vh ((full l).take n)) := hO.isInts
    have HND : Hid (firsts ((full l).take n) ((full l).take n).length = ((full l).take n).length) := firsts_nodup (take_nodup (full_nodup l) n) _ (Nat.le_refl _)
    have HFL : Hid (firsts l l.length = (full l).length) := (full_length l).symm
    have HHL : ((full l).take n).length = min n (full l).length := List.length_take
    obtain ⟨ah, ch, rfl⟩ := hO.form
    have HSI : Hid (∀ u k : Nat, u < l.length → full (l.drop (u+1)) = (full l).take k → k < ((full l).take n).length → (((full l).take n).take k).contains (l[u]?.getD 0) = true → 1 ≤ u ∧ full (l.drop u) = (full l).take k) := fun u k => step_in
    have HSO : Hid (∀ u k : Nat, u < l.length → full (l.drop (u+1)) = (full l).take k → k < ((full l).take n).length → (((full l).take n).take k).contains (l[u]?.getD 0) = false → ((full l).take n)[k]?.getD 0 = l[u]?.getD 0 ∧ full (l.drop u) = (full l).take (k+1)) := fun u k => step_out
    have HSP : Hid (∀ t k : Nat, full (l.drop t) = (full l).take k → k < ((full l).take n).length → 1 ≤ t) := fun t k => last_pos
    have HS0 : Hid (full (l.drop l.length) = (full l).take 0) := by unfold Hid; simp [full, mru]
    have HMT : Hid (l = [] ∨ (0 < l.length ∧ 0 < ((full l).take n).length)) := by
      unfold Hid
      cases l with
      | nil => exact .inl rfl
      | cons x r =>
        have hx : x ∈ full (x :: r) := full_mem.2 (by simp)
        have := List.length_pos_of_mem hx
        exact .inr ⟨by simp, by rw [List.length_take]; omega⟩
    have hcs := hO.2
    clear hB hO hb2 hb1 HC HV
    generalize hF : (full l).length = F at *
    clear hF
    generalize hheld : (full l).take n = held at *
    clear hheld
    rcases (by omega : F < n ∨ n ≤ F) with hFn | hFn
    · have hl1 : held.length = F := by omega
      have hi1 : (F : Int) < (n : Int) := by omega
      subst hl1
      clear HHL
      go_wp2_with (first | (go_at_call_of 9 (Value.slice av l.length cv); go_must (refine (some_is HVa.out HFL.out _ (by rfl)).mono ?_; rintro e w3 ⟨rfl, q, rfl⟩)) | (go_at_call_of 9 (Value.slice ah held.length ch); go_must (refine (some_is HOa.out HND.out _ (by rfl)).mono ?_; rintro e w4 ⟨rfl, q2, rfl⟩)))
      go_loopw [10, 11] (fun a i wr => ∃ k t q : Nat, k ≤ held.length ∧ t ≤ l.length ∧ a = .int .i64 t ∧ i = .int .i64 k ∧ Hid (full (l.drop t) = (full l).take k) ∧ wr = w2.drewN q) (fun _ i _ => held.length - (intOf i).toNat)
      case atStart => exact ⟨0, l.length, _, by omega, by omega, rfl, rfl, HS0.out, by first | rfl | exact drewN_two _ _ _ | exact drewN_three _ _ _ _⟩
      case round =>
        obtain ⟨k, t, q, hk, ht, rfl, rfl, HFU, rfl⟩ := hrel
        by_cases hlt : k < held.length
        · have ht1 := HSP.out t k HFU.out hlt
          obtain ⟨u, rfl⟩ : ∃ u, t = u + 1 := ⟨t - 1, by omega⟩
          have HVb := HVa.out
          have HOb := HOa.out
          rcases HVb with ⟨h, _⟩ | ⟨b, off, cv', hv, hp, hlc, hcap, hc⟩
          · subst h; simp at ht
          simp only [Value.slice.injEq] at hv
          obtain ⟨rfl, _, rfl⟩ := hv
          rcases HOb with ⟨h, _⟩ | ⟨b2, off2, ch', hv, hp2, hlc2, hcap2, hc2⟩
          · subst h; simp at hlt
          simp only [Value.slice.injEq] at hv
          obtain ⟨rfl, _, rfl⟩ := hv
          have HC1 : Hid (∀ j, j < l.length → w2.cell? ⟨b, off + j, none⟩ = some (.int .i64 (l[j]?.getD 0))) := hc
          have HC2 : Hid (∀ j, j < held.length → w2.cell? ⟨b2, off2 + j, none⟩ = some (.int .i64 (held[j]?.getD 0))) := hc2
          have HPR : Hid (IsInts w2 (.slice (some ⟨b2, off2, none⟩) k ch) (held.take k)) := isInts_prefix HOa.out rfl (by omega)
          clear hc hc2
          unfold maxLen at hcap hcap2
          have hck2 := HC2.out k hlt
          have hkb : (k : Int) ≤ (ch : Int) := by omega
          have hkh : (k : Int) < (held.length : Int) := by omega
          go_wp2
          go_loopw [10] (fun a wr => ∃ u q : Nat, u < l.length ∧ a = .int .i64 u ∧ Hid (full (l.drop (u+1)) = (full l).take k) ∧ wr = w2.drewN q) (fun a _ => (intOf a).toNat)
          case atStart => exact ⟨u, q, by omega, by go_num, HFU, rfl⟩
          case round =>
            obtain ⟨u, q, hu, rfl, HFU, rfl⟩ := hrel
            have hck := HC1.out u hu
            have hub : (u : Int) < (l.length : Int) := by omega
            have hu0 : (0 : Int) ≤ (u : Int) := by omega
            have HSI' : Hid ((held.take k).contains (l[u]?.getD 0) = true → 1 ≤ u ∧ full (l.drop u) = (full l).take k) := HSI.out u k hu HFU.out hlt
            have HSO' : Hid ((held.take k).contains (l[u]?.getD 0) = false → held[k]?.getD 0 = l[u]?.getD 0 ∧ full (l.drop u) = (full l).take (k+1)) := HSO.out u k hu HFU.out hlt
            generalize l[u]?.getD 0 = p at *
            cases hcn : (held.take k).contains p
            · have hp := (HSO'.out hcn).1
              have HFN : Hid (full (l.drop u) = (full l).take (k+1)) := (HSO'.out hcn).2
              have HCN : Hid ((held.take k).contains p = false) := hcn
              rw [hp] at hck2
              have hpp : (p != p) = false := by simp
              have hd0 : decide ((u : Int) < 0) = false := by simp
              clear hcn hp HSI' HSO'
              go_wp2
              go_quiet (first | (go_at_call 10; exact (has_is HPR.out HCN.out _ (by rfl)).mono fun _ _ ⟨he, hm⟩ => ⟨he, _, hm⟩))
              go_wp2
              go_quiet (fail)
              go_wp2
              go_roundw
              case rel => exact ⟨k + 1, u, _, by omega, by omega, rfl, by go_num, HFN, rfl⟩
              case measure => simp [intOf]; omega
            · obtain ⟨hu1, hfu⟩ := HSI'.out hcn
              have HFN : Hid (full (l.drop u) = (full l).take k) := hfu
              have HCN : Hid ((held.take k).contains p = true) := hcn
              clear hcn hfu HSI' HSO'
              go_wp2
              go_quiet (first | (go_at_call 10; exact (has_is HPR.out HCN.out _ (by rfl)).mono fun _ _ ⟨he, hm⟩ => ⟨he, _, hm⟩))
              go_wp2
              go_roundw
              case rel => exact ⟨u - 1, _, by omega, by go_num, by rw [Nat.sub_add_cancel hu1]; exact HFN, rfl⟩
              case measure => simp [intOf]; omega
        · go_wp2
          go_ret
          exact ⟨rfl, below_drewN HB2.out q⟩
    · have hl1 : held.length = n := by omega
      have hi1 : ¬ ((F : Int) < (n : Int)) := by omega
      subst hl1
      clear HHL
      go_wp2_with (first | (go_at_call_of 9 (Value.slice av l.length cv); go_must (refine (some_is HVa.out HFL.out _ (by rfl)).mono ?_; rintro e w3 ⟨rfl, q, rfl⟩)) | (go_at_call_of 9 (Value.slice ah held.length ch); go_must (refine (some_is HOa.out HND.out _ (by rfl)).mono ?_; rintro e w4 ⟨rfl, q2, rfl⟩)))
      go_loopw [10, 11] (fun a i wr => ∃ k t q : Nat, k ≤ held.length ∧ t ≤ l.length ∧ a = .int .i64 t ∧ i = .int .i64 k ∧ Hid (full (l.drop t) = (full l).take k) ∧ wr = w2.drewN q) (fun _ i _ => held.length - (intOf i).toNat)
      case atStart => exact ⟨0, l.length, _, by omega, by omega, rfl, rfl, HS0.out, by first | rfl | exact drewN_two _ _ _ | exact drewN_three _ _ _ _⟩
      case round =>
        obtain ⟨k, t, q, hk, ht, rfl, rfl, HFU, rfl⟩ := hrel
        by_cases hlt : k < held.length
        · have ht1 := HSP.out t k HFU.out hlt
          obtain ⟨u, rfl⟩ : ∃ u, t = u + 1 := ⟨t - 1, by omega⟩
          have HVb := HVa.out
          have HOb := HOa.out
          rcases HVb with ⟨h, _⟩ | ⟨b, off, cv', hv, hp, hlc, hcap, hc⟩
          · subst h; simp at ht
          simp only [Value.slice.injEq] at hv
          obtain ⟨rfl, _, rfl⟩ := hv
          rcases HOb with ⟨h, _⟩ | ⟨b2, off2, ch', hv, hp2, hlc2, hcap2, hc2⟩
          · subst h; simp at hlt
          simp only [Value.slice.injEq] at hv
          obtain ⟨rfl, _, rfl⟩ := hv
          have HC1 : Hid (∀ j, j < l.length → w2.cell? ⟨b, off + j, none⟩ = some (.int .i64 (l[j]?.getD 0))) := hc
          have HC2 : Hid (∀ j, j < held.length → w2.cell? ⟨b2, off2 + j, none⟩ = some (.int .i64 (held[j]?.getD 0))) := hc2
          have HPR : Hid (IsInts w2 (.slice (some ⟨b2, off2, none⟩) k ch) (held.take k)) := isInts_prefix HOa.out rfl (by omega)
          clear hc hc2
          unfold maxLen at hcap hcap2
          have hck2 := HC2.out k hlt
          have hkb : (k : Int) ≤ (ch : Int) := by omega
          have hkh : (k : Int) < (held.length : Int) := by omega
          go_wp2
          go_loopw [10] (fun a wr => ∃ u q : Nat, u < l.length ∧ a = .int .i64 u ∧ Hid (full (l.drop (u+1)) = (full l).take k) ∧ wr = w2.drewN q) (fun a _ => (intOf a).toNat)
          case atStart => exact ⟨u, q, by omega, by go_num, HFU, rfl⟩
          case round =>
            obtain ⟨u, q, hu, rfl, HFU, rfl⟩ := hrel
            have hck := HC1.out u hu
            have hub : (u : Int) < (l.length : Int) := by omega
            have hu0 : (0 : Int) ≤ (u : Int) := by omega
            have HSI' : Hid ((held.take k).contains (l[u]?.getD 0) = true → 1 ≤ u ∧ full (l.drop u) = (full l).take k) := HSI.out u k hu HFU.out hlt
            have HSO' : Hid ((held.take k).contains (l[u]?.getD 0) = false → held[k]?.getD 0 = l[u]?.getD 0 ∧ full (l.drop u) = (full l).take (k+1)) := HSO.out u k hu HFU.out hlt
            generalize l[u]?.getD 0 = p at *
            cases hcn : (held.take k).contains p
            · have hp := (HSO'.out hcn).1
              have HFN : Hid (full (l.drop u) = (full l).take (k+1)) := (HSO'.out hcn).2
              have HCN : Hid ((held.take k).contains p = false) := hcn
              rw [hp] at hck2
              have hpp : (p != p) = false := by simp
              have hd0 : decide ((u : Int) < 0) = false := by simp
              clear hcn hp HSI' HSO'
              go_wp2
              go_quiet (first | (go_at_call 10; exact (has_is HPR.out HCN.out _ (by rfl)).mono fun _ _ ⟨he, hm⟩ => ⟨he, _, hm⟩))
              go_wp2
              go_quiet (fail)
              go_wp2
              go_roundw
              case rel => exact ⟨k + 1, u, _, by omega, by omega, rfl, by go_num, HFN, rfl⟩
              case measure => simp [intOf]; omega
            · obtain ⟨hu1, hfu⟩ := HSI'.out hcn
              have HFN : Hid (full (l.drop u) = (full l).take k) := hfu
              have HCN : Hid ((held.take k).contains p = true) := hcn
              clear hcn hfu HSI' HSO'
              go_wp2
              go_quiet (first | (go_at_call 10; exact (has_is HPR.out HCN.out _ (by rfl)).mono fun _ _ ⟨he, hm⟩ => ⟨he, _, hm⟩))
              go_wp2
              go_roundw
              case rel => exact ⟨u - 1, _, by omega, by go_num, by rw [Nat.sub_add_cancel hu1]; exact HFN, rfl⟩
              case measure => simp [intOf]; omega
        · go_wp2
          go_ret
          exact ⟨rfl, below_drewN HB2.out q⟩
  · have HE : Hid (errV (chk l s) = .iface 37 (.int .i64 (chk l s))) := errV_pos h0
    have HL : Hid (lruL l s = []) := lruL_bad h0
    clear h0 hform
    go_enter Try.func5, Try.ntmps5
    go_wp2_with (first | (go_at_call 6; go_must (refine (fact_any _).mono ?_; rintro e w1 ⟨rfl, hb1⟩)) | (go_at_call 7; fail))
    refine (run_any _ l s _ (HV.out.below hb1)).mono ?_
    rintro e w2 ⟨vb, vh, rfl, _, hO, hb2⟩
    rw [HE.out]
    rw [HL.out] at hO
    obtain ⟨ah, ch, rfl⟩ := hO.form
    have HB2 : Hid (Below w.heap.size w w2) := hb1.trans (hb2.mono hb1.size)
    clear hb1 hb2 hO
    go_wp2
    go_ret
    exact ⟨rfl, HB2.out⟩

theorem lruLast_own : ownKnob Try.prog.godebug = none := by kernel_rfl
theorem lruLast_laidOut : laidOutB Try.prog = true := by kernel_rfl

set_option maxRecDepth 100000 in
theorem lruLast_lifted (os : Os) (started : os.Started) (H : Type) (enc : TypeId × Value → H) :
    ReturnsInHanded {} Try.checked os 5 .any (Rows.lruLastSpec.pre6 enc Try.prog Try.f5 Rows.lruLastRow.domain false) (Rows.lruLastSpec.post enc Try.prog Try.f5 false true false false) := by
  refine returnsInHanded_of_change (C := Try.checked) lruLast_own started (by kernel_rfl) Try.func5
    (ChangeSpec.witness6 (enc := enc) (C := Try.checked) false ⟨#[], #[.slice none 0 0, .int .i64 0], []⟩ 8 (by kernel_rfl) (by kernel_rfl) (by kernel_rfl) (by kernel_rfl)) ?_
  intro W base args ds gs before hval0 hW _ _
  have hval : ∀ (j : Nat) t v, Try.f5.params[j]? = some t → args[j]? = some v → Value.okWide Try.prog W .any base t v := hval0
  have hW' : DataW.Whole enc Try.prog Try.f5.params.toList Rows.lruLastSpec.vars false W args.toList ds gs before := hW
  obtain ⟨p, q, hA0, hV, rfl, hfz, hnd⟩ := hW
  have hA : DataW.TrodAll enc Try.prog W 0 (fun _ => true) true Try.f5.params.toList args.toList ds p := hA0
  rw [Try.params5] at hA hval
  obtain ⟨v0, vs0, d0, ds0, p0, q0, hargs, rfl, rfl, h0, r0⟩ := trodAll_cons hA
  obtain ⟨v1, vs1, d1, ds1, p1, q1, rfl, rfl, rfl, h1, r1⟩ := trodAll_cons r0
  obtain ⟨rfl, rfl, rfl⟩ := trodAll_nil r1
  obtain rfl : args = #[v0, v1] := by cases args; simp_all
  obtain ⟨rfl, rfl⟩ := trodVars_none hV
  obtain ⟨n1, rfl, rfl, rfl, wn1⟩ := open_int Try.underlying3 (hval 1 3 v1 rfl rfl) h1
  obtain ⟨l0, ao0, cap0, hv0, hl0⟩ := arg_ints Try.underlying22 Try.underlying3 (by kernel_rfl) (hval 0 22 v0 rfl rfl) h0
  clear hA0 hval0
  refine (last_any v0 l0 n1 W hl0 ⟨ao0, cap0, hv0⟩).mono fun e W' ⟨he, hb⟩ => ?_
  subst he
  exact ⟨_, rfl, law_post hW' hb lruLast_laidOut rfl (by kernel_rfl) (by kernel_rfl) Try.underlying4 rfl rfl rfl⟩

theorem lruLast_holds : Rows.LruLastSaid :=
  OpenClaim.holds_of_wide 5 Try.f5 rfl rfl rfl rfl rfl rfl rfl ⟨rfl, rfl, rfl, rfl, rfl⟩ rfl rfl rfl rfl rfl (by kernel_rfl) Try.func5 (by kernel_rfl)
    (of_decide_eq_true (by kernel_rfl)) (by unfold Func.isWrapper; first | (rw [if_pos (by decide +kernel)]; kernel_rfl) | (rw [if_neg (by decide +kernel)]; exact ⟨rfl, rfl⟩))
    (fun os started H enc _ => lruLast_lifted os started H enc)
end Go.Proofs.Ytmjmdggpchfnbaa
