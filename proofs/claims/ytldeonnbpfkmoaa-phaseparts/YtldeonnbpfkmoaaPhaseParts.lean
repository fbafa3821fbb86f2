/- PhaseParts is proved: for every list of requests and every number of slots, in whatever memory and on every schedule, it returns true and leaves its argument as it was: each phase but the last is full, and the next one begins with another page. No condition. -/
import Derived.Test.YtldeonnbpfkmoaaPhaseFact
import Derived.Test.YtldeonnbpfkmoaaPhaseParts1
import Derived.Test.YtldeonnbpfkmoaaSomeIs
import Derived.Test.YtldeonnbpfkmoaaHasAt
import Derived.Test.YtldeonnbpfkmoaaLawIn
import Derived.Test.YtldeonnbpfkmoaaLawkit
namespace Go.Proofs.Ytldeonnbpfkmoaa
open Go.ChangeShapes Go.WideShapes Go.ChangeAt Go.RowKit Go.Sort

theorem within_is {n lo hi : Int} {r : Bool} (hr : within n lo hi = r) (w : World) : Calls Try.prog 13 #[.int .i64 n, .int .i64 lo, .int .i64 hi] w fun e w' => e = .returned (.bool r) ∧ w' = w := by
  have := within_any n lo hi w
  rwa [hr] at this

set_option maxHeartbeats 2000000 in
set_option maxRecDepth 100000 in
theorem phaseParts_any (v : Value) (l : List Int) (s : Int) (w : World) (hv : IsInts w v l) (hform : ∃ ao cap, v = .slice ao l.length cap) :
    Calls Try.prog 4 #[v, .int .i64 s] w fun e w' => e = .returned (.bool true) ∧ Below w.heap.size w w' := by
  have HV : Hid (IsInts w v l) := hv
  obtain ⟨ao, cap, rfl⟩ := hform
  clear hv
  go_enter Try.func4, Try.ntmps4
  go_wp2_with (first | (go_at_call 12; go_must (refine (cut_any _).mono ?_; rintro e w1 ⟨rfl, hb1⟩)) | (go_at_call 10; fail))
  refine (phase_any _ l s _ (HV.out.below hb1)).mono ?_
  rintro e w2 ⟨vs, rfl, hO, hb2⟩
  have HB2 : Hid (Below w.heap.size w w2) := hb1.trans (hb2.mono hb1.size)
  obtain ⟨av, cv, hvs⟩ := hO.form
  have HVc : Hid (IsInts w2 (.slice ao l.length cap) l) := HV.out.below HB2.out
  clear hb1 hb2 HV
  by_cases hc : chk l s = 0
  · obtain ⟨h40, h1, h8⟩ := chk_zero hc
    obtain ⟨n, rfl⟩ : ∃ n : Nat, s = n := ⟨s.toNat, by omega⟩
    have hs1 : 1 ≤ n := by omega
    rw [phaseL_ok hc, Int.toNat_natCast] at hO hvs
    rw [hc, show errV 0 = .nilIface from rfl]
    have HO : Hid (IsInts w2 vs (starts n l l.length)) := hO.isInts
    have hmn : (starts n l l.length).length = nph n l l.length := rfl
    rw [hmn] at hvs
    subst hvs
    clear hO hc hmn
    by_cases h0 : l.length = 0
    · have hl : l = [] := List.eq_nil_of_length_eq_zero h0
      subst hl
      have hm : nph n [] ([] : List Int).length = 0 := rfl
      rw [hm]
      clear h0 hm
      go_wp2
      go_loop [8] (fun i => i = .int .i64 0) (fun _ => 0)
      case atStart => rfl
      case round =>
        obtain rfl := hrel
        go_wp2
        go_ret
        exact ⟨rfl, HB2.out⟩
    · rcases HVc.out with ⟨h, _⟩ | ⟨b, off, cap, hv, hp, hlc, hcap, hcv⟩
      · subst h; simp at h0
      simp only [Value.slice.injEq] at hv
      obtain ⟨rfl, _, rfl⟩ := hv
      have hm1 : 1 ≤ nph n l l.length := nph_pos (by omega)
      have hm40 : nph n l l.length ≤ l.length := starts_le n l l.length
      rcases HO.out with ⟨h, _⟩ | ⟨g, go, gc, hgv, hgp, hgl, hgm, hgc⟩
      · have : nph n l l.length = 0 := by unfold nph; rw [h]; rfl
        omega
      simp only [Value.slice.injEq] at hgv
      obtain ⟨rfl, hx, rfl⟩ := hgv
      clear hx
      have HG : Hid (∀ j, j < nph n l l.length → w2.cell? ⟨g, go + j, none⟩ = some (.int .i64 (fro n l l.length j : Int))) := fun j hj => by rw [hgc j hj, starts_get hj]
      have HC : Hid (∀ j, j < l.length → w2.cell? ⟨b, off + j, none⟩ = some (.int .i64 (l[j]?.getD 0))) := hcv
      have hg0 : w2.cell? ⟨g, go, none⟩ = some (.int .i64 0) := by
        have := HG.out 0 (by omega)
        rw [fro_zero (by omega)] at this; exact this
      have hgl2 : nph n l l.length ≤ cv := hgl
      clear hgc hcv hgp hgl HO
      unfold maxLen at hcap hgm
      obtain ⟨L, hL⟩ : ∃ L : Nat, l.length = L + 1 := ⟨l.length - 1, by omega⟩
      have hsub : IntKind.i64.wrap ((l.length : Int) - 1) = (L : Int) := by rw [IntKind.wrap_i64]; omega
      have hz1 : ((nph n l l.length : Int) == 0) = false := by rw [beq_eq_false_iff_ne]; omega
      have hz2 : ((l.length : Int) == 0) = false := by rw [beq_eq_false_iff_ne]; omega
      have HPA : Hid (∀ k, k < nph n l l.length → Part n l l.length k) := fun k hk => part_all n l l.length k hk
      have HNX : Hid (∀ k, k + 1 < nph n l l.length → fro n l l.length (k+1) = nxt n l l.length k) := fun k hk => fro_next hk
      have HL : Hid (l.length = L + 1) := hL
      clear hL
      generalize hm : nph n l l.length = m at *
      have HM : Hid (nph n l l.length = m) := hm
      clear hm h0
      go_wp2
      clear hg0
      go_loopw [8, 9, 10] (fun i _ _ wr => ∃ k : Nat, k ≤ m ∧ i = .int .i64 k ∧ wr.heap = w2.heap ∧ Below w.heap.size w wr) (fun i _ _ _ => m - (intOf i).toNat)
      case atStart => exact ⟨0, Nat.zero_le _, rfl, rfl, HB2.out⟩
      case round =>
        obtain ⟨k, hk, rfl, hh, hbw⟩ := hrel
        by_cases hlt : k < m
        · have P := HPA.out k hlt
          have hck : wr.cell? ⟨g, go + k, none⟩ = some (.int .i64 (fro n l l.length k : Int)) := by
            have := HG.out k hlt
            unfold World.cell? at *
            rw [hh]; exact this
          have hft := P.lt
          have hto := P.le
          have HSE : Hid (firsts ((l.take (nxt n l l.length k)).drop (fro n l l.length k)) ((l.take (nxt n l l.length k)).drop (fro n l l.length k)).length = (since n l (nxt n l l.length k)).length) := by
            have := part_some hs1 (l := l) (k := nxt n l l.length k) (by omega) hto
            rwa [P.last] at this
          have hsl := since_le hs1 l (nxt n l l.length k)
          have HPT : Hid (IsInts wr (.slice (some ⟨b, off + fro n l l.length k, none⟩) (nxt n l l.length k - fro n l l.length k) (cap - fro n l l.length k)) ((l.take (nxt n l l.length k)).drop (fro n l l.length k))) := (isInts_part HVc.out (by omega) hto).heap hh
          have HIN : Hid (within (fro n l l.length k : Int) 0 (L : Int) = true) := by have := HL.out; unfold Hid within; simp; omega
          have hcf : ¬ cap = fro n l l.length k := by omega
          by_cases hk1 : k + 1 < m
          · have hbg := (P.new (by rw [HM.out]; exact hk1)).1
            have hton := (P.new (by rw [HM.out]; exact hk1)).2
            have hck1 : wr.cell? ⟨g, go + (k + 1), none⟩ = some (.int .i64 (nxt n l l.length k : Int)) := by
              have := HG.out (k+1) hk1
              rw [HNX.out k hk1] at this
              unfold World.cell? at *
              rw [hh]; exact this
            have hckt : wr.cell? ⟨b, off + nxt n l l.length k, none⟩ = some (.int .i64 (l[nxt n l l.length k]?.getD 0)) := by
              have := HC.out _ hton
              unfold World.cell? at *
              rw [hh]; exact this
            have hfull : (since n l (nxt n l l.length k)).length = n := part_full (by omega) hbg
            have HHA : Hid (((l.take (nxt n l l.length k)).drop (fro n l l.length k)).contains (l[nxt n l l.length k]?.getD 0) = false) := by
              have := part_other (s := n) (k := nxt n l l.length k) (by omega) hton hbg
              rwa [P.last] at this
            rw [hfull] at HSE
            clear P hbg hfull hsl
            generalize fro n l l.length k = f at *
            generalize nxt n l l.length k = t at *
            generalize (l.take t).drop f = seg at *
            generalize l[t]?.getD 0 = p at *
            go_wp2_with (first | (go_at_call 13; go_must (refine (within_is HIN.out _).mono ?_; rintro e w' ⟨rfl, hw⟩; have hw := hw.symm; subst hw)) | (go_at_call 14; fail))
            refine (some_is HPT.out HSE.out _ rfl).mono ?_
            rintro e w' ⟨rfl, q, rfl⟩
            have hckq : (wr.drewN q).cell? ⟨g, go + k, none⟩ = some (.int .i64 (f : Int)) := hck
            have hcktq : (wr.drewN q).cell? ⟨b, off + t, none⟩ = some (.int .i64 p) := hckt
            have HPTq : Hid (IsInts (wr.drewN q) (.slice (some ⟨b, off + f, none⟩) (t - f) (cap - f)) seg) := HPT
            have hhq : (wr.drewN q).heap = w2.heap := hh
            have hbq : Below w.heap.size w (wr.drewN q) := below_drewN hbw q
            clear hck hckt HPT hh hbw hck1
            generalize wr.drewN q = wq at *
            have hnn : ((n : Int) != (n : Int)) = false := by simp
            go_wp2
            go_quiet (first | (go_at_call 11; exact Calls.quiet_of_same (has_at HPTq.out HHA.out _ (by rfl))))
            go_wp2
            go_roundw
            case rel => exact ⟨k + 1, by omega, by go_num, hhq, below_drewN hbq _⟩
            case measure => simp [intOf]; omega
          · have hte := P.old (by rw [HM.out]; omega)
            rw [hte] at HSE HPT hft hsl
            clear P hto hte
            generalize fro n l l.length k = f at *
            generalize hfs : (l.take l.length).drop f = seg at *
            clear hfs
            generalize (since n l l.length).length = c at *
            go_wp2_with (first | (go_at_call 13; go_must (refine (within_is HIN.out _).mono ?_; rintro e w' ⟨rfl, hw⟩; have hw := hw.symm; subst hw)) | (go_at_call 14; fail))
            refine (some_is HPT.out HSE.out _ rfl).mono ?_
            rintro e w' ⟨rfl, q, rfl⟩
            have hckq : (wr.drewN q).cell? ⟨g, go + k, none⟩ = some (.int .i64 (f : Int)) := hck
            have hhq : (wr.drewN q).heap = w2.heap := hh
            have hbq : Below w.heap.size w (wr.drewN q) := below_drewN hbw q
            clear hck HPT hh hbw
            generalize wr.drewN q = wq at *
            have hd1 : decide ((k : Int) + 1 < (m : Int)) = false := by rw [decide_eq_false_iff_not]; omega
            have hd2 : decide (n < c) = false := by rw [decide_eq_false_iff_not]; omega
            have hwk : IntKind.i64.wrap ((k : Int) + 1) = (k : Int) + 1 := by rw [IntKind.wrap_i64]; omega
            go_wp2
            go_quiet (fail)
            go_wp2
            go_roundw
            case rel => exact ⟨k + 1, by omega, by go_num, hhq, below_drewN hbq _⟩
            case measure => simp [intOf]; omega
        · go_wp2
          go_ret
          exact ⟨rfl, hbw⟩
  · rw [phaseL_bad hc] at hvs
    subst hvs
    have HE : Hid (errV (chk l s) = .iface 60 (.int .i64 (chk l s))) := errV_pos hc
    clear hc
    generalize chk l s = c at *
    rw [HE.out]
    go_wp2
    go_ret
    exact ⟨rfl, HB2.out⟩

theorem phaseParts_own : ownKnob Try.prog.godebug = none := by kernel_rfl
theorem phaseParts_laidOut : laidOutB Try.prog = true := by kernel_rfl

set_option maxRecDepth 100000 in
theorem phaseParts_lifted (os : Os) (started : os.Started) (H : Type) (enc : TypeId × Value → H) :
    ReturnsInHanded {} Try.checked os 4 .any (Rows.phasePartsSpec.pre6 enc Try.prog Try.f4 Rows.phasePartsRow.domain false) (Rows.phasePartsSpec.post enc Try.prog Try.f4 false true false false) := by
  refine returnsInHanded_of_change (C := Try.checked) phaseParts_own started (by kernel_rfl) Try.func4
    (ChangeSpec.witness6 (enc := enc) (C := Try.checked) false ⟨#[], #[.slice none 0 0, .int .i64 0], []⟩ 8 (by kernel_rfl) (by kernel_rfl) (by kernel_rfl) (by kernel_rfl)) ?_
  intro W base args ds gs before hval0 hW _ _
  have hval : ∀ (j : Nat) t v, Try.f4.params[j]? = some t → args[j]? = some v → Value.okWide Try.prog W .any base t v := hval0
  have hW' : DataW.Whole enc Try.prog Try.f4.params.toList Rows.phasePartsSpec.vars false W args.toList ds gs before := hW
  obtain ⟨p, q, hA0, hV, rfl, hfz, hnd⟩ := hW
  have hA : DataW.TrodAll enc Try.prog W 0 (fun _ => true) true Try.f4.params.toList args.toList ds p := hA0
  rw [Try.params4] at hA hval
  obtain ⟨v0, vs0, d0, ds0, p0, q0, hargs, rfl, rfl, h0, r0⟩ := trodAll_cons hA
  obtain ⟨v1, vs1, d1, ds1, p1, q1, rfl, rfl, rfl, h1, r1⟩ := trodAll_cons r0
  obtain ⟨rfl, rfl, rfl⟩ := trodAll_nil r1
  obtain rfl : args = #[v0, v1] := by cases args; simp_all
  obtain ⟨rfl, rfl⟩ := trodVars_none hV
  obtain ⟨n1, rfl, rfl, rfl, wn1⟩ := open_int Try.underlying3 (hval 1 3 v1 rfl rfl) h1
  obtain ⟨l0, ao0, cap0, hv0, hl0⟩ := arg_ints Try.underlying22 Try.underlying3 (by kernel_rfl) (hval 0 22 v0 rfl rfl) h0
  clear hA0 hval0
  refine (phaseParts_any v0 l0 n1 W hl0 ⟨ao0, cap0, hv0⟩).mono fun e W' ⟨he, hb⟩ => ?_
  subst he
  exact ⟨_, rfl, law_post hW' hb phaseParts_laidOut rfl (by kernel_rfl) (by kernel_rfl) Try.underlying4 rfl rfl rfl⟩

theorem phaseParts_holds : Rows.PhasePartsSaid :=
  OpenClaim.holds_of_wide 4 Try.f4 rfl rfl rfl rfl rfl rfl rfl ⟨rfl, rfl, rfl, rfl, rfl⟩ rfl rfl rfl rfl rfl (by kernel_rfl) Try.func4 (by kernel_rfl)
    (of_decide_eq_true (by kernel_rfl)) (by unfold Func.isWrapper; first | (rw [if_pos (by decide +kernel)]; kernel_rfl) | (rw [if_neg (by decide +kernel)]; exact ⟨rfl, rfl⟩))
    (fun os started H enc _ => phaseParts_lifted os started H enc)
end Go.Proofs.Ytldeonnbpfkmoaa
