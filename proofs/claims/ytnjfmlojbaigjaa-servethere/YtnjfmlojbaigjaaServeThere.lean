/- ServeThere is proved: for every list of servers and every list of asks, in whatever memory and on every schedule, it returns true and leaves its arguments as they were: at the end a server is where it was asked for last, in both ways; all stay on the line. No condition. -/
import Derived.Test.YtnjfmlojbaigjaaSFact
import Derived.Test.YtnjfmlojbaigjaaRefIn0
import Derived.Test.YtnjfmlojbaigjaaHas
import Derived.Test.YtnjfmlojbaigjaaLawkit
import Derived.Deep.RegionWith
namespace Go.Proofs.Ytnjfmlojbaigjaa
set_option maxRecDepth 100000
open Go.ChangeShapes Go.WideShapes Go.ChangeAt Go.RowKit Go.Sort

theorem all_line {l : List Int} (h : onLine l) : (l.all fun x => inB x 0 12) = true := by
  rw [List.all_eq_true]
  intro x hx
  have := h x hx
  unfold inB
  rw [decide_eq_true this.1, decide_eq_true this.2]; rfl

set_option maxHeartbeats 4000000 in
theorem there_any (v : Value) (s : List Int) (va : Value) (asks : List Int) (w : World) (hv : IsInts w v s) (_ : ∃ ao cap, v = .slice ao s.length cap) (ha : IsInts w va asks) (_ : ∃ ao cap, va = .slice ao asks.length cap) :
    Calls Try.prog 5 #[v, va] w fun e w' => e = .returned (.bool true) ∧ Below w.heap.size w w' := by
  have HV : Hid (IsInts w v s) := hv
  have HA : Hid (IsInts w va asks) := ha
  obtain ⟨ao, cap, rfl, hcap, _⟩ := hv.opened
  obtain ⟨aa, capa, rfl, hcapa, ho⟩ := ha.opened
  have HO : Hid (∀ k, k < asks.length → ∃ b off, aa = some ⟨b, off, none⟩ ∧ asks.length ≤ capa ∧ b < w.heap.size ∧ ∀ j, j < asks.length → w.cell? ⟨b, off + j, none⟩ = some (.int .i64 (asks[j]?.getD 0))) := ho
  unfold maxLen at hcap hcapa
  clear hv ha ho
  go_enter Try.func5, Try.ntmps5
  go_wp2_with (first | (go_at_call 8; go_must (refine (sfact_any _).mono ?_; rintro e w1 ⟨rfl, hb1⟩; have HB1 : Hid (Below w.heap.size w w1) := hb1; clear hb1)) | (go_at_call 9; fail))
  refine (sdouble_any _ _ s asks _ (HV.out.below HB1.out) (HA.out.below HB1.out)).mono ?_
  rintro e w2 ⟨vd, rfl, hOd, hb2⟩
  have HB2 : Hid (Below w.heap.size w w2) := HB1.out.trans (hb2.mono HB1.out.size)
  have HD2 : Hid (OwnI w2 w1.heap.size vd (goL true s asks)) := hOd
  clear hb2 HB1 hOd
  generalize goN true s asks = N1 at *
  go_wp2_with (go_at_call 12; fail)
  refine (snear_any _ _ s asks _ (HV.out.below HB2.out) (HA.out.below HB2.out)).mono ?_
  rintro e w3 ⟨vn, rfl, hOn, hb3⟩
  have HB3 : Hid (Below w.heap.size w w3) := HB2.out.trans (hb3.mono HB2.out.size)
  have HD3 : Hid (IsInts w3 vd (goL true s asks)) := HD2.out.isInts.below hb3
  have HN3 : Hid (IsInts w3 vn (goL false s asks)) := hOn.isInts
  obtain ⟨ad, cd, rfl⟩ := HD2.out.form
  obtain ⟨an, cn_, rfl⟩ := hOn.form
  clear hb3 HB2 hOn HD2
  generalize goN false s asks = N2 at *
  by_cases hc : chkS s asks = 0
  case neg =>
    have hn : chkS s asks = 1 ∨ chkS s asks = 4 ∨ chkS s asks = 5 := by have := chkS_cases s asks; omega
    have e1 : goL true s asks = [] := by unfold goL; rw [if_neg hc]
    have e2 : goL false s asks = [] := by unfold goL; rw [if_neg hc]
    rw [e1, e2]
    clear HD3 HN3
    rcases hn with hn | hn | hn
    all_goals
      rw [hn]
      clear hn hc e1 e2
      simp only [errV, List.length_nil]
      go_wp2
      go_ret
      exact ⟨rfl, HB3.out⟩
  have F := chkS_zero hc
  have e1 : goL true s asks = goRow true s asks asks.length := by unfold goL; rw [if_pos hc]
  have e2 : goL false s asks = goRow false s asks asks.length := by unfold goL; rw [if_pos hc]
  have HAL : Hid (∀ d : Bool, ((goRow d s asks asks.length).all fun x => inB x 0 12) = true) := fun d => all_line (rowOk d F.some F.line F.asked _ (Nat.le_refl _)).line
  have HTH : Hid (∀ d : Bool, 0 < asks.length → (goRow d s asks asks.length).contains (asks[asks.length - 1]?.getD 0) = true) := fun d h => by
    rw [List.contains_iff_mem]
    have := row_there d F.some F.line F.asked (n := asks.length - 1) (by omega) (by cases d <;> simp)
    rwa [show asks.length - 1 + 1 = asks.length by omega] at this
  rw [e1] at HD3 ⊢
  rw [e2] at HN3 ⊢
  have l1 := goRow_length true s asks asks.length
  have l2 := goRow_length false s asks asks.length
  rw [l1] at HD3 ⊢
  rw [l2] at HN3 ⊢
  rw [hc]
  have ha20 := F.many
  have HAD : Hid (Calls Try.prog 14 #[.slice ad s.length cd, .int .i64 0, .int .i64 12] w3 fun e w' => e = .returned (.bool true) ∧ w' = w3) := by
    have := all_any _ _ 0 12 w3 HD3.out
    rwa [HAL.out true] at this
  have HAN : Hid (Calls Try.prog 14 #[.slice an s.length cn_, .int .i64 0, .int .i64 12] w3 fun e w' => e = .returned (.bool true) ∧ w' = w3) := by
    have := all_any _ _ 0 12 w3 HN3.out
    rwa [HAL.out false] at this
  clear hc e1 e2 l1 l2 F HAL
  simp only [errV]
  by_cases h0 : asks.length = 0
  · have h0b : ((asks.length : Int) == 0) = true := by rw [beq_iff_eq]; omega
    clear HTH HD3 HN3
    go_wp2_with (first | (go_at_call_of 14 (Value.slice ad s.length cd); go_must (refine HAD.out.mono ?_; rintro e w' ⟨rfl, hw⟩; have hw := hw.symm; subst hw)) | (go_at_call_of 14 (Value.slice an s.length cn_); go_must (refine HAN.out.mono ?_; rintro e w' ⟨rfl, hw⟩; have hw := hw.symm; subst hw)))
    go_ret
    exact ⟨rfl, HB3.out⟩
  · have h0b : ((asks.length : Int) == 0) = false := by rw [beq_eq_false_iff_ne]; omega
    obtain ⟨m, hm⟩ : ∃ m, asks.length = m + 1 := ⟨asks.length - 1, by omega⟩
    obtain ⟨ba, offa, rfl, hlca, hbaw, hcell⟩ := HO.out m (by omega)
    have hcm : w3.cell? ⟨ba, offa + m, none⟩ = some (.int .i64 (asks[m]?.getD 0)) := (HB3.out.cell (by exact hbaw)).trans (hcell m (by omega))
    have hsub : IntKind.i64.wrap ((asks.length : Int) - 1) = (m : Int) := by rw [IntKind.wrap_i64]; omega
    have hmn : m < asks.length := by omega
    have HHD : Hid (∀ q, Calls Try.prog 15 #[.slice ad s.length cd, .int .i64 (asks[m]?.getD 0)] (w3.drewN q) fun e w' => e = .returned (.bool true) ∧ w' = w3.drewN q) := fun q => by
      have := has_any _ _ (asks[m]?.getD 0) (w3.drewN q) (HD3.out.heap rfl)
      have e := HTH.out true (by omega)
      rw [show asks.length - 1 = m by omega] at e
      rwa [e] at this
    have HHN : Hid (∀ q, Calls Try.prog 15 #[.slice an s.length cn_, .int .i64 (asks[m]?.getD 0)] (w3.drewN q) fun e w' => e = .returned (.bool true) ∧ w' = w3.drewN q) := fun q => by
      have := has_any _ _ (asks[m]?.getD 0) (w3.drewN q) (HN3.out.heap rfl)
      have e := HTH.out false (by omega)
      rw [show asks.length - 1 = m by omega] at e
      rwa [e] at this
    clear HTH HD3 HN3 hcell hm h0
    generalize asks[m]?.getD 0 = t at *
    go_wp2_with (first | (go_at_call_of 14 (Value.slice ad s.length cd); go_must (refine HAD.out.mono ?_; rintro e w' ⟨rfl, hw⟩; have hw := hw.symm; subst hw)) | (go_at_call_of 14 (Value.slice an s.length cn_); go_must (refine HAN.out.mono ?_; rintro e w' ⟨rfl, hw⟩; have hw := hw.symm; subst hw)) | (go_at_call_of 15 (Value.slice ad s.length cd); go_must (refine (HHD.out 0).mono ?_; rintro e w' ⟨rfl, hw⟩; have hw := hw.symm; subst hw)) | (go_at_call_of 15 (Value.slice an s.length cn_); go_must (refine (HHN.out 0).mono ?_; rintro e w' ⟨rfl, hw⟩; have hw := hw.symm; subst hw)))
    go_ret
    exact ⟨rfl, HB3.out⟩

theorem serveThere_own : ownKnob Try.prog.godebug = none := by kernel_rfl
theorem serveThere_laidOut : laidOutB Try.prog = true := by kernel_rfl

set_option maxRecDepth 100000 in
theorem serveThere_lifted (os : Os) (started : os.Started) (H : Type) (enc : TypeId × Value → H) :
    ReturnsInHanded {} Try.checked os 5 .any (Rows.serveThereSpec.pre6 enc Try.prog Try.f5 Rows.serveThereRow.domain false) (Rows.serveThereSpec.post enc Try.prog Try.f5 false true false false) := by
  refine returnsInHanded_of_change (C := Try.checked) serveThere_own started (by kernel_rfl) Try.func5
    (ChangeSpec.witness6 (enc := enc) (C := Try.checked) false ⟨#[], #[.slice none 0 0, .slice none 0 0], []⟩ 8 (by kernel_rfl) (by kernel_rfl) (by kernel_rfl) (by kernel_rfl)) ?_
  intro W base args ds gs before hval0 hW _ _
  have hval : ∀ (j : Nat) t v, Try.f5.params[j]? = some t → args[j]? = some v → Value.okWide Try.prog W .any base t v := hval0
  have hW' : DataW.Whole enc Try.prog Try.f5.params.toList Rows.serveThereSpec.vars false W args.toList ds gs before := hW
  obtain ⟨p, q, hA0, hV, rfl, hfz, hnd⟩ := hW
  have hA : DataW.TrodAll enc Try.prog W 0 (fun _ => true) true Try.f5.params.toList args.toList ds p := hA0
  rw [Try.params5] at hA hval
  obtain ⟨v0, vs0, d0, ds0, p0, q0, hargs, rfl, rfl, h0, r0⟩ := trodAll_cons hA
  obtain ⟨v1, vs1, d1, ds1, p1, q1, rfl, rfl, rfl, h1, r1⟩ := trodAll_cons r0
  obtain ⟨rfl, rfl, rfl⟩ := trodAll_nil r1
  obtain rfl : args = #[v0, v1] := by cases args; simp_all
  obtain ⟨rfl, rfl⟩ := trodVars_none hV
  obtain ⟨l0, ao0, cap0, hv0, hl0⟩ := arg_ints Try.underlying22 Try.underlying3 (by kernel_rfl) (hval 0 22 v0 rfl rfl) h0
  obtain ⟨l1, ao1, cap1, hv1, hl1⟩ := arg_ints Try.underlying22 Try.underlying3 (by kernel_rfl) (hval 1 22 v1 rfl rfl) h1
  clear hA0 hval0
  refine (there_any v0 l0 v1 l1 W hl0 ⟨ao0, cap0, hv0⟩ hl1 ⟨ao1, cap1, hv1⟩).mono fun e W' ⟨he, hb⟩ => ?_
  subst he
  exact ⟨_, rfl, law_post hW' hb serveThere_laidOut rfl (by kernel_rfl) (by kernel_rfl) Try.underlying4 rfl rfl rfl⟩

theorem serveThere_holds : Rows.ServeThereSaid :=
  OpenClaim.holds_of_wide 5 Try.f5 rfl rfl rfl rfl rfl rfl rfl ⟨rfl, rfl, rfl, rfl, rfl⟩ rfl rfl rfl rfl rfl (by kernel_rfl) Try.func5 (by kernel_rfl)
    (of_decide_eq_true (by kernel_rfl)) (by unfold Func.isWrapper; first | (rw [if_pos (by decide +kernel)]; kernel_rfl) | (rw [if_neg (by decide +kernel)]; exact ⟨rfl, rfl⟩))
    (fun os started H enc _ => serveThere_lifted os started H enc)
end Go.Proofs.Ytnjfmlojbaigjaa
