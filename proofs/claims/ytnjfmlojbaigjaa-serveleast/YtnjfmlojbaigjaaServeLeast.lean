/- ServeLeast is proved: for every list of servers, every list of asks and every list of who is sent, in whatever memory and on every schedule, it returns true and leaves its arguments as they were: nobody goes less far than the least, in neither way, nor by whoever is sent. No condition. -/
import Derived.Test.YtnjfmlojbaigjaaSFact
import Derived.Test.YtnjfmlojbaigjaaRefAbs
import Derived.Test.YtnjfmlojbaigjaaCame
import Derived.Test.YtnjfmlojbaigjaaLawIn2
import Derived.Test.YtnjfmlojbaigjaaLawkit
import Derived.Deep.QuietTactic
namespace Go.Proofs.Ytnjfmlojbaigjaa
set_option maxRecDepth 100000
open Go.ChangeShapes Go.WideShapes Go.ChangeAt Go.RowKit Go.Sort

theorem came_of {w : World} {b off cap : Nat} {l : List Int} (hc : ∀ j, j < l.length → w.cell? ⟨b, off + j, none⟩ = some (.int .i64 (l[j]?.getD 0))) : Came w (.slice (some ⟨b, off, none⟩) l.length cap) l := by
  refine .inr ⟨⟨b, off, none⟩, cap, rfl, fun j u hj => ?_⟩
  have hjl : j < l.length := by have := (List.getElem?_eq_some_iff.1 hj).1; rwa [List.length_map] at this
  have ea : Addr.add ⟨b, off, none⟩ j = ⟨b, off + j, none⟩ := by unfold Addr.add; cases j <;> rfl
  rw [ea, hc j hjl]
  rw [List.getElem?_map, List.getElem?_eq_getElem hjl] at hj
  rw [List.getElem?_eq_getElem hjl]
  exact hj
/-- Who is sent. -/
def whoAt (n : Nat) (who : List Int) (k : Nat) : Nat := if k < who.length ∧ within (who[k]?.getD 0) 0 ((n : Int) - 1) = true then (who[k]?.getD 0).toNat else 0

set_option maxHeartbeats 4000000 in
theorem sle_any (v : Value) (s : List Int) (va : Value) (asks : List Int) (vw : Value) (who : List Int) (w : World) (hv : IsInts w v s) (_ : ∃ ao cap, v = .slice ao s.length cap) (ha : IsInts w va asks) (_ : ∃ ao cap, va = .slice ao asks.length cap) (hw : IsInts w vw who) (_ : ∃ ao cap, vw = .slice ao who.length cap) :
    Calls Try.prog 4 #[v, va, vw] w fun e w' => e = .returned (.bool true) ∧ Below w.heap.size w w' := by
  have HV : Hid (IsInts w v s) := hv
  have HA : Hid (IsInts w va asks) := ha
  obtain ⟨ao, cap, rfl, hcap, hos⟩ := hv.opened
  have HOS : Hid (∀ k, k < s.length → ∃ b off, ao = some ⟨b, off, none⟩ ∧ s.length ≤ cap ∧ b < w.heap.size ∧ ∀ j, j < s.length → w.cell? ⟨b, off + j, none⟩ = some (.int .i64 (s[j]?.getD 0))) := hos
  obtain ⟨aa, capa, rfl, hcapa, ho⟩ := ha.opened
  have HO : Hid (∀ k, k < asks.length → ∃ b off, aa = some ⟨b, off, none⟩ ∧ asks.length ≤ capa ∧ b < w.heap.size ∧ ∀ j, j < asks.length → w.cell? ⟨b, off + j, none⟩ = some (.int .i64 (asks[j]?.getD 0))) := ho
  obtain ⟨aw, capw, rfl, hcapw, how⟩ := hw.opened
  have HOW : Hid (∀ k, k < who.length → ∃ b off, aw = some ⟨b, off, none⟩ ∧ who.length ≤ capw ∧ b < w.heap.size ∧ ∀ j, j < who.length → w.cell? ⟨b, off + j, none⟩ = some (.int .i64 (who[j]?.getD 0))) := how
  unfold maxLen at hcap hcapa hcapw
  clear hv ha hw hos ho how
  go_enter Try.func4, Try.ntmps4
  go_wp2_with (first | (go_at_call 8; go_must (refine (sfact_any _).mono ?_; rintro e w1 ⟨rfl, hb1⟩; have HB1 : Hid (Below w.heap.size w w1) := hb1; clear hb1)) | (go_at_call 10; fail))
  refine (sleast_any _ _ s asks _ (HV.out.below HB1.out) (HA.out.below HB1.out)).mono ?_
  rintro e w2 ⟨x, rfl, hx, hb2⟩
  have HB2 : Hid (Below w.heap.size w w2) := HB1.out.trans (hb2.mono HB1.out.size)
  clear hb2 HB1
  go_wp2_with (go_at_call 9; fail)
  refine (sdouble_any _ _ s asks _ (HV.out.below HB2.out) (HA.out.below HB2.out)).mono ?_
  rintro e w3 ⟨vd, rfl, hOd, hb3⟩
  have HB3 : Hid (Below w.heap.size w w3) := HB2.out.trans (hb3.mono HB2.out.size)
  obtain ⟨N1, hN1⟩ : ∃ N1, goN true s asks = N1 := ⟨_, rfl⟩
  have HG1 : Hid (goN true s asks = N1) := hN1
  rw [hN1]
  clear hb3 hOd hN1 HB2
  go_wp2_with (go_at_call 12; fail)
  refine (snear_any _ _ s asks _ (HV.out.below HB3.out) (HA.out.below HB3.out)).mono ?_
  rintro e w4 ⟨vn, rfl, hOn, hb4⟩
  have HB4 : Hid (Below w.heap.size w w4) := HB3.out.trans (hb4.mono HB3.out.size)
  obtain ⟨N2, hN2⟩ : ∃ N2, goN false s asks = N2 := ⟨_, rfl⟩
  have HG2 : Hid (goN false s asks = N2) := hN2
  rw [hN2]
  clear hb4 hOn hN2 HB3
  by_cases hc : chkS s asks = 0
  case neg =>
    have hn : chkS s asks = 1 ∨ chkS s asks = 4 ∨ chkS s asks = 5 := by have := chkS_cases s asks; omega
    rcases hn with hn | hn | hn
    all_goals
      rw [hn]
      clear hn hc hx
      simp only [errV]
      go_wp2
      go_ret
      exact ⟨rfl, HB4.out⟩
  have F := chkS_zero hc
  have hX := hx.ok hc
  have e1 : N1 = goCost true s asks asks.length := by rw [← HG1.out]; unfold goN; rw [if_pos hc]
  have e2 : N2 = goCost false s asks asks.length := by rw [← HG2.out]; unfold goN; rw [if_pos hc]
  have hx1 : (x : Int) ≤ N1 := by rw [e1]; exact leastGo_both F.line F.asked hX (row_both F.some F.line F.asked _ (Nat.le_refl asks.length))
  have hx2 : (x : Int) ≤ N2 := by
    obtain ⟨yn, _, hyg⟩ := row_near F.some F.line F.asked _ (Nat.le_refl asks.length)
    rw [e2]; exact hX.all _ _ hyg
  have HF : Hid (FineS s asks) := F
  have HX : Hid (LeastGo s asks x) := hX
  have hn1 : 1 ≤ s.length := List.length_pos_iff.2 F.some
  have hn3 := F.few
  have ha20 := F.many
  obtain ⟨b, off, rfl, hlc, hbw, hcs⟩ := HOS.out 0 (by omega)
  have HCM : Hid (Came w4 (.slice (some ⟨b, off, none⟩) s.length cap) s) := came_of fun j hj => (HB4.out.cell (by exact hbw)).trans (hcs j hj)
  rw [hc]
  clear hc hx hX e1 e2 F HG1 HG2 hcs HV HA HOS
  simp only [errV]
  have hB4 := HB4.out.size
  have hne := HF.out.some
  go_wp2_with (first | (at_builtin; go_must (refine append_came rfl _ _ rfl w.heap.size (.slice none 0 0) _ [] s rfl rfl (OwnI.nil _ _) HCM.out hB4 (by simp; omega) ?_; intro v5 w5 hO5 hg5; have HO5 : Hid (OwnI w5 w.heap.size v5 s) := hO5; have HB5 : Hid (Below w.heap.size w w5) := HB4.out.grown hg5 hB4 (fun k e => by cases e); obtain ⟨g, cp, _, rfl, hgb, hgs, _, hgn, hgm, _, _⟩ := HO5.out.block hne; clear hO5 hg5)))
  unfold maxLen at hgm
  go_loopw [17, 18] (fun sm i wr => ∃ (k : Nat) (u : List Int) (z : Int), k ≤ asks.length ∧ i = .int .i64 k ∧ sm = .int .i64 z ∧ Sent s asks k u z ∧ OwnI wr w.heap.size (.slice (some ⟨g, 0, none⟩) s.length cp) u ∧ Below w.heap.size w wr) (fun _ i _ => asks.length - (intOf i).toNat)
  case atStart => exact ⟨0, s, 0, by omega, rfl, rfl, .start, HO5.out, HB5.out⟩
  case round =>
    obtain ⟨k, u, z, hk, rfl, rfl, hS, hO, hB⟩ := hrel
    by_cases hlt : k < asks.length
    · have hu := hS.length
      have hz0 := (hS.goes.facts HF.out.line HF.out.asked).2.2
      have hz1 := Pl.sent_most HF.out.line HF.out.asked hS
      have hul := Pl.sent_line HF.out.line HF.out.asked hS
      have hr := ask_in HF.out.asked hlt
      obtain ⟨ba, offa, rfl, hlca, hbaw, hcell⟩ := HO.out k hlt
      have cA : wr.cell? ⟨ba, offa + k, none⟩ = some (.int .i64 (asks[k]?.getD 0)) := (hB.cell (by exact hbaw)).trans (hcell k hlt)
      have hcase : ∃ wi, wi < s.length ∧ ((k < who.length ∧ who[k]?.getD 0 = ((wi : Nat) : Int) ∧ within (wi : Nat) 0 ((s.length : Int) - 1) = true) ∨ ((k < who.length ∧ within (who[k]?.getD 0) 0 ((s.length : Int) - 1) = false) ∧ wi = 0) ∨ (who.length ≤ k ∧ wi = 0)) := by
        by_cases hkw : k < who.length
        · cases hwt : within (who[k]?.getD 0) 0 ((s.length : Int) - 1) with
          | true =>
            have h2 := hwt
            simp [within] at h2
            refine ⟨(who[k]?.getD 0).toNat, by omega, .inl ⟨hkw, by omega, ?_⟩⟩
            rw [show (((who[k]?.getD 0).toNat : Nat) : Int) = who[k]?.getD 0 by omega]; exact hwt
          | false => exact ⟨0, by omega, .inr (.inl ⟨⟨hkw, rfl⟩, rfl⟩)⟩
        · exact ⟨0, by omega, .inr (.inr ⟨by omega, rfl⟩)⟩
      obtain ⟨wi, hwi, hcs⟩ := hcase
      have c0 := hO.cellN hu hwi
      have f0 := hO.softN hu wi
      have ha := hul _ (get_mem (show wi < u.length by omega))
      have HNX : Hid (Sent s asks (k+1) (u.set wi (asks[k]?.getD 0)) (z + zabs (u[wi]?.getD 0 - asks[k]?.getD 0))) := .go hS hlt (by omega)
      have HOX : Hid (∀ q, OwnI ((wr.drewN q).setCell ⟨g, wi, none⟩ (.int .i64 (asks[k]?.getD 0))) w.heap.size (.slice (some ⟨g, 0, none⟩) s.length cp) (u.set wi (asks[k]?.getD 0)) ∧ Below w.heap.size w ((wr.drewN q).setCell ⟨g, wi, none⟩ (.int .i64 (asks[k]?.getD 0)))) := fun q => ⟨(own_set (hO.drewN q) hu wi _).1, (below_drewN hB q).setCell (p := ⟨g, wi, none⟩) hgb _⟩
      have HAB : Hid (∀ w, Calls Try.prog 11 #[.int .i64 (u[wi]?.getD 0), .int .i64 (asks[k]?.getD 0)] w fun e w' => e = .returned (.int .i64 (zabs (u[wi]?.getD 0 - asks[k]?.getD 0))) ∧ w' = w) := fun w => abs_any _ _ (by omega) (by omega) w
      have hww : IntKind.i64.wrap (z + zabs (u[wi]?.getD 0 - asks[k]?.getD 0)) = z + zabs (u[wi]?.getD 0 - asks[k]?.getD 0) := by
        have : 0 ≤ zabs (u[wi]?.getD 0 - asks[k]?.getD 0) ∧ zabs (u[wi]?.getD 0 - asks[k]?.getD 0) ≤ 12 := by unfold zabs; omega
        rw [IntKind.wrap_i64]; omega
      have hsub : IntKind.i64.wrap ((s.length : Int) - 1) = (s.length : Int) - 1 := by rw [IntKind.wrap_i64]; omega
      have HCW : Hid (k < who.length → ∃ bw offw, aw = some ⟨bw, offw, none⟩ ∧ who.length ≤ capw ∧ wr.cell? ⟨bw, offw + k, none⟩ = some (.int .i64 (who[k]?.getD 0))) := fun h => by
        obtain ⟨bw, offw, e, h1, h2, h3⟩ := HOW.out k h
        exact ⟨bw, offw, e, h1, (hB.cell (by exact h2)).trans (h3 k h)⟩
      clear hS hz0 hz1 hul hO hB hcell hbaw ha hr
      generalize zabs (u[wi]?.getD 0 - asks[k]?.getD 0) = d at *
      generalize u[wi]?.getD 0 = a1 at *
      generalize asks[k]?.getD 0 = a2 at *
      rcases hcs with ⟨hkw, hwe, hwt⟩ | ⟨⟨hkw, hwt⟩, rfl⟩ | ⟨hkw, rfl⟩
      · obtain ⟨bw, offw, rfl, hlcw, cW⟩ := HCW.out hkw
        rw [hwe] at cW
        have HWI : Hid (∀ w, Calls Try.prog 13 #[.int .i64 (wi : Nat), .int .i64 0, .int .i64 ((s.length : Int) - 1)] w fun e w' => e = .returned (.bool true) ∧ w' = w) := fun w => by
          have := within_any (wi : Nat) 0 ((s.length : Int) - 1) w
          rwa [hwt] at this
        clear hwe hwt HCW HOW
        go_wp2_with (go_at_call 13; go_must (refine (HWI.out _).mono ?_; rintro e w' ⟨rfl, hw⟩; have hw := hw.symm; subst hw))
        go_quiet (first | (go_at_call 11; exact Calls.quiet_of_same (HAB.out _)))
        go_wp2
        go_roundw
        case rel => exact ⟨k + 1, _, _, by omega, by go_num, rfl, HNX.out, (HOX.out _).1, (HOX.out _).2⟩
        case measure => simp [intOf]; omega
      · obtain ⟨bw, offw, rfl, hlcw, cW⟩ := HCW.out hkw
        have HWI : Hid (∀ w, Calls Try.prog 13 #[.int .i64 (who[k]?.getD 0), .int .i64 0, .int .i64 ((s.length : Int) - 1)] w fun e w' => e = .returned (.bool false) ∧ w' = w) := fun w => by
          have := within_any (who[k]?.getD 0) 0 ((s.length : Int) - 1) w
          rwa [hwt] at this
        clear hwt HCW HOW
        generalize who[k]?.getD 0 = t at *
        go_wp2_with (go_at_call 13; go_must (refine (HWI.out _).mono ?_; rintro e w' ⟨rfl, hw⟩; have hw := hw.symm; subst hw))
        go_quiet (first | (go_at_call 11; exact Calls.quiet_of_same (HAB.out _)))
        go_wp2
        go_roundw
        case rel => exact ⟨k + 1, _, _, by omega, by go_num, rfl, HNX.out, (HOX.out _).1, (HOX.out _).2⟩
        case measure => simp [intOf]; omega
      · clear HCW HOW
        go_wp2
        go_quiet (first | (go_at_call 11; exact Calls.quiet_of_same (HAB.out _)))
        go_wp2
        go_roundw
        case rel => exact ⟨k + 1, _, _, by omega, by go_num, rfl, HNX.out, (HOX.out _).1, (HOX.out _).2⟩
        case measure => simp [intOf]; omega
    · have hkl : k = asks.length := by omega
      subst hkl
      have hfin : (x : Int) ≤ z := HX.out.all _ _ hS.goes
      have hd : decide ((x : Int) ≤ z) = true := decide_eq_true hfin
      go_wp2
      go_ret
      exact ⟨rfl, hB⟩

theorem serveLeast_own : ownKnob Try.prog.godebug = none := by kernel_rfl
theorem serveLeast_laidOut : laidOutB Try.prog = true := by kernel_rfl

set_option maxRecDepth 100000 in
theorem serveLeast_lifted (os : Os) (started : os.Started) (H : Type) (enc : TypeId × Value → H) :
    ReturnsInHanded {} Try.checked os 4 .any (Rows.serveLeastSpec.pre6 enc Try.prog Try.f4 Rows.serveLeastRow.domain false) (Rows.serveLeastSpec.post enc Try.prog Try.f4 false true false false) := by
  refine returnsInHanded_of_change (C := Try.checked) serveLeast_own started (by kernel_rfl) Try.func4
    (ChangeSpec.witness6 (enc := enc) (C := Try.checked) false ⟨#[], #[.slice none 0 0, .slice none 0 0, .slice none 0 0], []⟩ 8 (by kernel_rfl) (by kernel_rfl) (by kernel_rfl) (by kernel_rfl)) ?_
  intro W base args ds gs before hval0 hW _ _
  have hval : ∀ (j : Nat) t v, Try.f4.params[j]? = some t → args[j]? = some v → Value.okWide Try.prog W .any base t v := hval0
  have hW' : DataW.Whole enc Try.prog Try.f4.params.toList Rows.serveLeastSpec.vars false W args.toList ds gs before := hW
  obtain ⟨p, q, hA0, hV, rfl, hfz, hnd⟩ := hW
  have hA : DataW.TrodAll enc Try.prog W 0 (fun _ => true) true Try.f4.params.toList args.toList ds p := hA0
  rw [Try.params4] at hA hval
  obtain ⟨v0, vs0, d0, ds0, p0, q0, hargs, rfl, rfl, h0, r0⟩ := trodAll_cons hA
  obtain ⟨v1, vs1, d1, ds1, p1, q1, rfl, rfl, rfl, h1, r1⟩ := trodAll_cons r0
  obtain ⟨v2, vs2, d2, ds2, p2, q2, rfl, rfl, rfl, h2, r2⟩ := trodAll_cons r1
  obtain ⟨rfl, rfl, rfl⟩ := trodAll_nil r2
  obtain rfl : args = #[v0, v1, v2] := by cases args; simp_all
  obtain ⟨rfl, rfl⟩ := trodVars_none hV
  obtain ⟨l0, ao0, cap0, hv0, hl0⟩ := arg_ints Try.underlying22 Try.underlying3 (by kernel_rfl) (hval 0 22 v0 rfl rfl) h0
  obtain ⟨l1, ao1, cap1, hv1, hl1⟩ := arg_ints Try.underlying22 Try.underlying3 (by kernel_rfl) (hval 1 22 v1 rfl rfl) h1
  obtain ⟨l2, ao2, cap2, hv2, hl2⟩ := arg_ints Try.underlying22 Try.underlying3 (by kernel_rfl) (hval 2 22 v2 rfl rfl) h2
  clear hA0 hval0
  refine (sle_any v0 l0 v1 l1 v2 l2 W hl0 ⟨ao0, cap0, hv0⟩ hl1 ⟨ao1, cap1, hv1⟩ hl2 ⟨ao2, cap2, hv2⟩).mono fun e W' ⟨he, hb⟩ => ?_
  subst he
  exact ⟨_, rfl, law_post hW' hb serveLeast_laidOut rfl (by kernel_rfl) (by kernel_rfl) Try.underlying4 rfl rfl rfl⟩

theorem serveLeast_holds : Rows.ServeLeastSaid :=
  OpenClaim.holds_of_wide 4 Try.f4 rfl rfl rfl rfl rfl rfl rfl ⟨rfl, rfl, rfl, rfl, rfl⟩ rfl rfl rfl rfl rfl (by kernel_rfl) Try.func4 (by kernel_rfl)
    (of_decide_eq_true (by kernel_rfl)) (by unfold Func.isWrapper; first | (rw [if_pos (by decide +kernel)]; kernel_rfl) | (rw [if_neg (by decide +kernel)]; exact ⟨rfl, rfl⟩))
    (fun os started H enc _ => serveLeast_lifted os started H enc)
end Go.Proofs.Ytnjfmlojbaigjaa
