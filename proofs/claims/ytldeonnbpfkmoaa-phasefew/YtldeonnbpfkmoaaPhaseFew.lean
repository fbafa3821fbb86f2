/- PhaseFew is proved: for every list of requests, every number of slots and every way, in whatever memory and on every schedule, it returns true and leaves its argument as it was: in no phase more come than there are slots. No condition. -/
import Derived.Test.YtldeonnbpfkmoaaPhaseFact
import Derived.Test.YtldeonnbpfkmoaaFaults
import Derived.Test.YtldeonnbpfkmoaaLawIn
import Derived.Test.YtldeonnbpfkmoaaLawkit
namespace Go.Proofs.Ytldeonnbpfkmoaa
open Go.ChangeShapes Go.WideShapes Go.ChangeAt Go.RowKit Go.Sort

theorem wayN_take {kind : Int} {l : List Int} {s t : Nat} (h : chk l s = 0) (ht : t ≤ l.length) : wayN kind (l.take t) (s : Int) = mc (wayAt kind s l) t := by
  rw [wayN_ok (chk_take t h), Int.toNat_natCast, List.length_take, Nat.min_eq_left ht]
  exact mc_congr t fun k hk => way_take kind hk

set_option maxHeartbeats 1000000 in
theorem phaseFew_any (v : Value) (l : List Int) (s kind : Int) (w : World) (hv : IsInts w v l) (hform : ∃ ao cap, v = .slice ao l.length cap) :
    Calls Try.prog 5 #[v, .int .i64 s, .int .i64 kind] w fun e w' => e = .returned (.bool true) ∧ Below w.heap.size w w' := by
  have HV : Hid (IsInts w v l) := hv
  obtain ⟨ao, cap, rfl⟩ := hform
  clear hv
  go_enter Try.func5, Try.ntmps5
  go_wp2_with (first | (go_at_call 12; go_must (refine (cut_any _).mono ?_; rintro e w1 ⟨rfl, hb1⟩)) | (go_at_call 10; fail))
  refine (phase_any _ l s _ (HV.out.below hb1)).mono ?_
  rintro e w2 ⟨vs, rfl, hO, hb2⟩
  have HB2 : Hid (Below w.heap.size w w2) := hb1.trans (hb2.mono hb1.size)
  obtain ⟨av, cv, hvs⟩ := hO.form
  have HVc : Hid (IsInts w2 (.slice ao l.length cap) l) := HV.out.below HB2.out
  clear hb1 hb2 HV
  by_cases hc : chk l s = 0
  · obtain ⟨h40, h1, h8⟩ := chk_zero hc
    obtain ⟨n, rfl⟩ : ∃ n : Nat, s = n := ⟨s.toNat, by omega⟩
    have hs1 : 1 ≤ n := by omega
    rw [phaseL_ok hc, Int.toNat_natCast] at hO hvs
    rw [hc, show errV 0 = .nilIface from rfl]
    have HC : Hid (chk l n = 0) := hc
    have HO : Hid (IsInts w2 vs (starts n l l.length)) := hO.isInts
    have hmn : (starts n l l.length).length = nph n l l.length := rfl
    rw [hmn] at hvs
    subst hvs
    clear hO hc hmn
    go_wp2_with (go_at_call 13; fail)
    refine (within_any kind 0 3 _).mono ?_
    rintro e w' ⟨rfl, hw⟩
    have hw := hw.symm
    subst hw
    cases hin : within kind 0 3
    · clear hin
      go_wp2
      go_ret
      exact ⟨rfl, HB2.out⟩
    · clear hin
      by_cases h0 : l.length = 0
      · have hl : l = [] := List.eq_nil_of_length_eq_zero h0
        subst hl
        have hm : nph n [] ([] : List Int).length = 0 := rfl
        rw [hm]
        clear h0 hm
        go_wp2
        go_loop [10, 11] (fun _ i => i = .int .i64 0) (fun _ _ => 0)
        case atStart => rfl
        case round =>
          obtain rfl := hrel
          go_wp2
          go_ret
          exact ⟨rfl, HB2.out⟩
      · rcases HVc.out with ⟨h, _⟩ | ⟨b, off, cap, hv, hp, hlc, hcap, hcv⟩
        · subst h; simp at h0
        simp only [Value.slice.injEq] at hv
        obtain ⟨rfl, _, rfl⟩ := hv
        have hm1 : 1 ≤ nph n l l.length := nph_pos (by omega)
        have hm40 : nph n l l.length ≤ l.length := starts_le n l l.length
        rcases HO.out with ⟨h, _⟩ | ⟨g, go, gc, hgv, hgp, hgl, hgm, hgc⟩
        · have : nph n l l.length = 0 := by unfold nph; rw [h]; rfl
          omega
        simp only [Value.slice.injEq] at hgv
        obtain ⟨rfl, hx, rfl⟩ := hgv
        clear hx
        have HG : Hid (∀ j, j < nph n l l.length → w2.cell? ⟨g, go + j, none⟩ = some (.int .i64 (fro n l l.length j : Int))) := fun j hj => by rw [hgc j hj, starts_get hj]
        have hgB : g < w2.heap.size := World.block_lt_of_cell? w2 _ (hgc 0 hgp)
        have hgl2 : nph n l l.length ≤ cv := hgl
        clear hgc hcv hgp hgl HO
        unfold maxLen at hcap hgm
        have HPA : Hid (∀ k, k < nph n l l.length → Part n l l.length k) := fun k hk => part_all n l l.length k hk
        have HNX : Hid (∀ k, k + 1 < nph n l l.length → fro n l l.length (k+1) = nxt n l l.length k) := fun k hk => fro_next hk
        have HFW : Hid (∀ k, k < nph n l l.length → mc (wayAt kind n l) (fro n l l.length k) ≤ mc (wayAt kind n l) (nxt n l l.length k) ∧ mc (wayAt kind n l) (nxt n l l.length k) ≤ mc (wayAt kind n l) (fro n l l.length k) + n) := fun k hk => part_few hs1 (way_few hs1 kind l) hk
        have HF0 : Hid (fro n l l.length 0 = 0) := fro_zero (by omega)
        generalize hm : nph n l l.length = m at *
        have HM : Hid (nph n l l.length = m) := hm
        clear hm h0
        go_wp2
        go_loopw [10, 11, 12, 13, 14] (fun was i _ _ _ wr => ∃ k x : Nat, k ≤ m ∧ i = .int .i64 k ∧ was = .int .i64 x ∧ (k < m → x = mc (wayAt kind n l) (fro n l l.length k)) ∧ Below w2.heap.size w2 wr ∧ Below w.heap.size w wr) (fun _ i _ _ _ _ => m - (intOf i).toNat)
        case atStart => exact ⟨0, 0, Nat.zero_le _, rfl, rfl, fun _ => by rw [HF0.out]; rfl, Below.refl _ _, HB2.out⟩
        case round =>
          obtain ⟨k, x, hk, rfl, rfl, hx, hbel, hbw⟩ := hrel
          by_cases hlt : k < m
          · have P := HPA.out k hlt
            have hto := P.le
            have hfw := HFW.out k hlt
            rw [← hx hlt] at hfw
            have hPT := (isInts_prefix HVc.out rfl hto).below hbel
            have hWN := wayN_take (kind := kind) HC.out hto
            have hCD : decide (chk (l.take (nxt n l l.length k)) (n : Int) = 0) = true := decide_eq_true (chk_take _ HC.out)
            have hmcl := mc_le (wayAt kind n l) (nxt n l l.length k)
            have HPT : Hid (IsInts wr (.slice (some ⟨b, off, none⟩) (nxt n l l.length k) cap) (l.take (nxt n l l.length k))) := hPT
            have HWN : Hid (wayN kind (l.take (nxt n l l.length k)) (n : Int) = mc (wayAt kind n l) (nxt n l l.length k)) := hWN
            have HCD : Hid (decide (chk (l.take (nxt n l l.length k)) (n : Int) = 0) = true) := hCD
            clear hx hPT hWN hCD
            by_cases hk1 : k + 1 < m
            · have hton := (P.new (by rw [HM.out]; exact hk1)).2
              have hck1 : wr.cell? ⟨g, go + (k + 1), none⟩ = some (.int .i64 (nxt n l l.length k : Int)) := by
                have := HG.out (k+1) hk1
                rw [HNX.out k hk1] at this
                exact (hbel.cell (by exact hgB)).trans this
              have HNE : Hid (k + 1 < m → mc (wayAt kind n l) (nxt n l l.length k) = mc (wayAt kind n l) (fro n l l.length (k+1))) := fun h => by rw [HNX.out k h]
              clear P
              generalize mc (wayAt kind n l) (nxt n l l.length k) = y at *
              generalize nxt n l l.length k = t at *
              generalize l.take t = seg at *
              have hwr : IntKind.i64.wrap ((y : Int) - (x : Int)) = (y : Int) - (x : Int) := by rw [IntKind.wrap_i64]; omega
              go_wp2_with (go_at_call 15; fail)
              refine (faults_any kind _ seg n _ HPT.out).mono ?_
              rintro e w3 ⟨rfl, hb3⟩
              have hBa : Below w2.heap.size w2 w3 := hbel.trans (hb3.mono hbel.size)
              have hBb : Below w.heap.size w w3 := hbw.trans (hb3.mono hbw.size)
              rw [HWN.out, HCD.out]
              clear hb3 hck1 hbel hbw HPT
              go_wp2
              go_roundw
              case rel => exact ⟨k + 1, y, by omega, by go_num, rfl, HNE.out, hBa, hBb⟩
              case measure => simp [intOf]; omega
            · have hte := P.old (by rw [HM.out]; omega)
              have HNE : Hid (k + 1 < m → mc (wayAt kind n l) (nxt n l l.length k) = mc (wayAt kind n l) (fro n l l.length (k+1))) := fun h => absurd h hk1
              rw [hte] at HPT HWN HCD HNE hfw hmcl
              clear P hto hte
              generalize mc (wayAt kind n l) l.length = y at *
              generalize l.take l.length = seg at *
              have hwr : IntKind.i64.wrap ((y : Int) - (x : Int)) = (y : Int) - (x : Int) := by rw [IntKind.wrap_i64]; omega
              go_wp2_with (go_at_call 15; fail)
              refine (faults_any kind _ seg n _ HPT.out).mono ?_
              rintro e w3 ⟨rfl, hb3⟩
              have hBa : Below w2.heap.size w2 w3 := hbel.trans (hb3.mono hbel.size)
              have hBb : Below w.heap.size w w3 := hbw.trans (hb3.mono hbw.size)
              rw [HWN.out, HCD.out]
              clear hb3 hbel hbw HPT
              go_wp2
              go_roundw
              case rel => exact ⟨k + 1, y, by omega, by go_num, rfl, HNE.out, hBa, hBb⟩
              case measure => simp [intOf]; omega
          · go_wp2
            go_ret
            exact ⟨rfl, hbw⟩
  · rw [phaseL_bad hc] at hvs
    subst hvs
    have HE : Hid (errV (chk l s) = .iface 60 (.int .i64 (chk l s))) := errV_pos hc
    clear hc
    generalize chk l s = c at *
    rw [HE.out]
    go_wp2_with (go_at_call 13; go_must (refine (within_any kind 0 3 _).mono ?_; rintro e w' ⟨rfl, hw⟩; have hw := hw.symm; subst hw))
    go_ret
    exact ⟨rfl, HB2.out⟩

theorem phaseFew_own : ownKnob Try.prog.godebug = none := by kernel_rfl
theorem phaseFew_laidOut : laidOutB Try.prog = true := by kernel_rfl

set_option maxRecDepth 100000 in
theorem phaseFew_lifted (os : Os) (started : os.Started) (H : Type) (enc : TypeId × Value → H) :
    ReturnsInHanded {} Try.checked os 5 .any (Rows.phaseFewSpec.pre6 enc Try.prog Try.f5 Rows.phaseFewRow.domain false) (Rows.phaseFewSpec.post enc Try.prog Try.f5 false true false false) := by
  refine returnsInHanded_of_change (C := Try.checked) phaseFew_own started (by kernel_rfl) Try.func5
    (ChangeSpec.witness6 (enc := enc) (C := Try.checked) false ⟨#[], #[.slice none 0 0, .int .i64 0, .int .i64 0], []⟩ 8 (by kernel_rfl) (by kernel_rfl) (by kernel_rfl) (by kernel_rfl)) ?_
  intro W base args ds gs before hval0 hW _ _
  have hval : ∀ (j : Nat) t v, Try.f5.params[j]? = some t → args[j]? = some v → Value.okWide Try.prog W .any base t v := hval0
  have hW' : DataW.Whole enc Try.prog Try.f5.params.toList Rows.phaseFewSpec.vars false W args.toList ds gs before := hW
  obtain ⟨p, q, hA0, hV, rfl, hfz, hnd⟩ := hW
  have hA : DataW.TrodAll enc Try.prog W 0 (fun _ => true) true Try.f5.params.toList args.toList ds p := hA0
  rw [Try.params5] at hA hval
  obtain ⟨v0, vs0, d0, ds0, p0, q0, hargs, rfl, rfl, h0, r0⟩ := trodAll_cons hA
  obtain ⟨v1, vs1, d1, ds1, p1, q1, rfl, rfl, rfl, h1, r1⟩ := trodAll_cons r0
  obtain ⟨v2, vs2, d2, ds2, p2, q2, rfl, rfl, rfl, h2, r2⟩ := trodAll_cons r1
  obtain ⟨rfl, rfl, rfl⟩ := trodAll_nil r2
  obtain rfl : args = #[v0, v1, v2] := by cases args; simp_all
  obtain ⟨rfl, rfl⟩ := trodVars_none hV
  obtain ⟨n1, rfl, rfl, rfl, wn1⟩ := open_int Try.underlying3 (hval 1 3 v1 rfl rfl) h1
  obtain ⟨n2, rfl, rfl, rfl, wn2⟩ := open_int Try.underlying3 (hval 2 3 v2 rfl rfl) h2
  obtain ⟨l0, ao0, cap0, hv0, hl0⟩ := arg_ints Try.underlying22 Try.underlying3 (by kernel_rfl) (hval 0 22 v0 rfl rfl) h0
  clear hA0 hval0
  refine (phaseFew_any v0 l0 n1 n2 W hl0 ⟨ao0, cap0, hv0⟩).mono fun e W' ⟨he, hb⟩ => ?_
  subst he
  exact ⟨_, rfl, law_post hW' hb phaseFew_laidOut rfl (by kernel_rfl) (by kernel_rfl) Try.underlying4 rfl rfl rfl⟩

theorem phaseFew_holds : Rows.PhaseFewSaid :=
  OpenClaim.holds_of_wide 5 Try.f5 rfl rfl rfl rfl rfl rfl rfl ⟨rfl, rfl, rfl, rfl, rfl⟩ rfl rfl rfl rfl rfl (by kernel_rfl) Try.func5 (by kernel_rfl)
    (of_decide_eq_true (by kernel_rfl)) (by unfold Func.isWrapper; first | (rw [if_pos (by decide +kernel)]; kernel_rfl) | (rw [if_neg (by decide +kernel)]; exact ⟨rfl, rfl⟩))
    (fun os started H enc _ => phaseFew_lifted os started H enc)
end Go.Proofs.Ytldeonnbpfkmoaa
