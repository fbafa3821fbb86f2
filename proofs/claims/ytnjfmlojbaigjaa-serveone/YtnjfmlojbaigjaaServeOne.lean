/- ServeOne is proved: for every place of one server and every list of asks, in whatever memory and on every schedule, it returns true and leaves its arguments as they were: of one server all ways are as far, and it is where it was asked for last. No condition. -/
import Derived.Test.YtnjfmlojbaigjaaSFact
import Derived.Test.YtnjfmlojbaigjaaRefAbs
import Derived.Test.YtnjfmlojbaigjaaLawkit
import Derived.Deep.QuietTactic
namespace Go.Proofs.Ytnjfmlojbaigjaa
set_option maxRecDepth 100000
open Go.ChangeShapes Go.WideShapes Go.ChangeAt Go.RowKit Go.Sort

theorem so_new (w : World) (a : Int) : IsInts (w.alloc (.cells #[.int .i64 a] 3)) (.slice (some ⟨w.heap.size, 0, none⟩) 1 1) [a] ∧ Below w.heap.size w (w.alloc (.cells #[.int .i64 a] 3)) :=
  ⟨isInts_new (l := [a]) (t := 3) (cur := #[.int .i64 a]) rfl (by simp) (heap_alloc_new _ _), (Below.refl w.heap.size w).alloc (Nat.le_refl _) _⟩
theorem alone_ask {a : Int} {asks : List Int} (hs : onLine [a]) (ha : onLine asks) : ∀ n, n ≤ asks.length → (0 ≤ aloneAt a asks n ∧ aloneAt a asks n ≤ 12) ∧ 0 ≤ aloneSum a asks n ∧ aloneSum a asks n ≤ 12 * n
  | 0, _ => ⟨hs a (by simp), by unfold aloneSum; omega⟩
  | n + 1, hn => by
    obtain ⟨h1, h2⟩ := alone_ask hs ha n (by omega)
    have h3 := ask_in ha (show n < asks.length by omega)
    refine ⟨h3, ?_⟩
    have hz : 0 ≤ zabs (aloneAt a asks n - asks[n]?.getD 0) ∧ zabs (aloneAt a asks n - asks[n]?.getD 0) ≤ 12 := by unfold zabs; omega
    show 0 ≤ _ + _ ∧ _ + _ ≤ _
    omega

set_option maxHeartbeats 4000000 in
theorem sone_any (a : Int) (va : Value) (asks : List Int) (w : World) (ha : IsInts w va asks) (_ : ∃ ao cap, va = .slice ao asks.length cap) :
    Calls Try.prog 7 #[.int .i64 a, va] w fun e w' => e = .returned (.bool true) ∧ Below w.heap.size w w' := by
  have HA : Hid (IsInts w va asks) := ha
  have HSN : Hid (∀ w : World, IsInts (w.alloc (.cells #[.int .i64 a] 3)) (.slice (some ⟨w.heap.size, 0, none⟩) 1 1) [a] ∧ Below w.heap.size w (w.alloc (.cells #[.int .i64 a] 3))) := fun w => so_new w a
  obtain ⟨aa, capa, rfl, hcapa, ho⟩ := ha.opened
  have HO : Hid (∀ k, k < asks.length → ∃ b off, aa = some ⟨b, off, none⟩ ∧ asks.length ≤ capa ∧ b < w.heap.size ∧ ∀ j, j < asks.length → w.cell? ⟨b, off + j, none⟩ = some (.int .i64 (asks[j]?.getD 0))) := ho
  unfold maxLen at hcapa
  clear ha ho
  go_enter Try.func7, Try.ntmps7
  go_wp2_with (first | (go_at_call 8; go_must (refine (sfact_any _).mono ?_; rintro e w1 ⟨rfl, hb1⟩; have HB1 : Hid (Below w.heap.size w w1) := hb1; clear hb1)) | (go_at_call 9; fail))
  have HN1 := HSN.out w1
  refine (sdouble_any _ _ [a] asks _ HN1.1 ((HA.out.below HB1.out).below HN1.2)).mono ?_
  rintro e w2 ⟨vd, rfl, hOd, hb2⟩
  have hb12 : Below w1.heap.size w1 w2 := HN1.2.trans (hb2.mono HN1.2.size)
  have HB2 : Hid (Below w.heap.size w w2) := HB1.out.trans (hb12.mono HB1.out.size)
  have HD2 : Hid (IsInts w2 vd (goL true [a] asks)) := hOd.isInts
  obtain ⟨N1, hN1⟩ : ∃ N1, goN true [a] asks = N1 := ⟨_, rfl⟩
  have HG1 : Hid (goN true [a] asks = N1) := hN1
  rw [hN1]
  clear hN1 hb2 hb12 HB1 hOd HN1
  go_wp2_with (go_at_call 12; fail)
  have HN2 := HSN.out w2
  refine (snear_any _ _ [a] asks _ HN2.1 ((HA.out.below HB2.out).below HN2.2)).mono ?_
  rintro e w3 ⟨vn, rfl, hOn, hb3⟩
  have hb23 : Below w2.heap.size w2 w3 := HN2.2.trans (hb3.mono HN2.2.size)
  have HB3 : Hid (Below w.heap.size w w3) := HB2.out.trans (hb23.mono HB2.out.size)
  have HD3 : Hid (IsInts w3 vd (goL true [a] asks)) := HD2.out.below hb23
  have HE3 : Hid (IsInts w3 vn (goL false [a] asks)) := hOn.isInts
  obtain ⟨N2, hN2⟩ : ∃ N2, goN false [a] asks = N2 := ⟨_, rfl⟩
  have HG2 : Hid (goN false [a] asks = N2) := hN2
  rw [hN2]
  clear hN2 hb3 hb23 HB2 hOn HN2 HD2
  go_wp2_with (go_at_call 10; fail)
  have HN3 := HSN.out w3
  refine (sleast_any _ _ [a] asks _ HN3.1 ((HA.out.below HB3.out).below HN3.2)).mono ?_
  rintro e w4 ⟨x, rfl, hx, hb4⟩
  have hb34 : Below w3.heap.size w3 w4 := HN3.2.trans (hb4.mono HN3.2.size)
  have HB4 : Hid (Below w.heap.size w w4) := HB3.out.trans (hb34.mono HB3.out.size)
  have HD4 : Hid (IsInts w4 vd (goL true [a] asks)) := HD3.out.below hb34
  have HE4 : Hid (IsInts w4 vn (goL false [a] asks)) := HE3.out.below hb34
  clear hb4 hb34 HB3 HN3 HD3 HE3
  by_cases hc : chkS [a] asks = 0
  case neg =>
    have hn : chkS [a] asks = 1 ∨ chkS [a] asks = 4 ∨ chkS [a] asks = 5 := by have := chkS_cases [a] asks; omega
    clear HD4 HE4
    rcases hn with hn | hn | hn
    all_goals
      rw [hn]
      clear hn hc hx
      simp only [errV]
      go_wp2
      go_ret
      exact ⟨rfl, HB4.out⟩
  have F := chkS_zero hc
  have hX := hx.ok hc
  have hb := both_alone (row_both F.some F.line F.asked _ (Nat.le_refl asks.length))
  obtain ⟨yn, hyp, hyg⟩ := row_near F.some F.line F.asked _ (Nat.le_refl asks.length)
  have hg := goes_alone hyg
  obtain ⟨yx, hyx⟩ := hX.some
  have hgx := goes_alone hyx
  have e1 : N1 = aloneSum a asks asks.length := by rw [← HG1.out]; unfold goN; rw [if_pos hc]; exact hb.2
  have e2 : N2 = aloneSum a asks asks.length := by rw [← HG2.out]; unfold goN; rw [if_pos hc]; exact hg.2
  have l1 : goL true [a] asks = [aloneAt a asks asks.length] := by unfold goL; rw [if_pos hc]; exact hb.1
  have l2 : goL false [a] asks = [aloneAt a asks asks.length] := by
    unfold goL
    rw [if_pos hc]
    rw [hg.1] at hyp
    exact List.perm_singleton.1 hyp.symm
  rw [l1] at HD4
  rw [l2] at HE4
  have HX : Hid ((x : Int) = aloneSum a asks asks.length) := hgx.2
  have HE1 : Hid (N1 = aloneSum a asks asks.length) := e1
  have HE2 : Hid (N2 = aloneSum a asks asks.length) := e2
  have HAL : Hid (∀ n, n ≤ asks.length → (0 ≤ aloneAt a asks n ∧ aloneAt a asks n ≤ 12) ∧ 0 ≤ aloneSum a asks n ∧ aloneSum a asks n ≤ 240) := fun n hn => by have := alone_ask F.line F.asked n hn; have := F.many; omega
  have HAS : Hid (∀ n, n < asks.length → 0 ≤ asks[n]?.getD 0 ∧ asks[n]?.getD 0 ≤ 12) := fun n hn => ask_in F.asked hn
  rw [hc]
  clear hc hx hX hb hyp hyg hg hyx hgx e1 e2 l1 l2 F HG1 HG2
  simp only [errV]
  go_wp2
  go_loopw [0, 14, 15] (fun t sm i wr => ∃ (k q : Nat), k ≤ asks.length ∧ i = .int .i64 k ∧ t = .int .i64 (aloneAt a asks k) ∧ sm = .int .i64 (aloneSum a asks k) ∧ wr = w4.drewN q) (fun _ _ i _ => asks.length - (intOf i).toNat)
  case atStart => exact ⟨0, 0, by omega, rfl, rfl, rfl, rfl⟩
  case round =>
    obtain ⟨k, q, hk, rfl, rfl, rfl, rfl⟩ := hrel
    obtain ⟨ht, hs⟩ := HAL.out k hk
    by_cases hlt : k < asks.length
    · obtain ⟨b, off, rfl, hlc, hbw, hcell⟩ := HO.out k hlt
      have hck : (w4.drewN q).cell? ⟨b, off + k, none⟩ = some (.int .i64 (asks[k]?.getD 0)) := (HB4.out.cell (by exact hbw)).trans (hcell k hlt)
      have hr := HAS.out k hlt
      have hs2 := (HAL.out (k+1) hlt).2
      have HSS : Hid (aloneSum a asks (k+1) = aloneSum a asks k + zabs (aloneAt a asks k - asks[k]?.getD 0)) := rfl
      have HAA : Hid (aloneAt a asks (k+1) = asks[k]?.getD 0) := rfl
      rw [HSS.out] at hs2
      have HAB : Hid (∀ w, Calls Try.prog 11 #[.int .i64 (aloneAt a asks k), .int .i64 (asks[k]?.getD 0)] w fun e w' => e = .returned (.int .i64 (zabs (aloneAt a asks k - asks[k]?.getD 0))) ∧ w' = w) := fun w => abs_any _ _ (by omega) (by omega) w
      have HW0 : Hid (∀ n, ∃ q', (w4.drewN q).drewN n = w4.drewN q') := fun n => ⟨q + n, by rw [World.drewN_drewN]⟩
      have hww : IntKind.i64.wrap (aloneSum a asks k + zabs (aloneAt a asks k - asks[k]?.getD 0)) = aloneSum a asks k + zabs (aloneAt a asks k - asks[k]?.getD 0) := by rw [IntKind.wrap_i64]; omega
      have hw0 : (w4.drewN q).drewN 0 = w4.drewN q := rfl
      clear hcell hbw hs hs2 ht hr
      generalize zabs (aloneAt a asks k - asks[k]?.getD 0) = z at *
      generalize asks[k]?.getD 0 = a1 at *
      generalize aloneAt a asks k = a2 at *
      generalize aloneSum a asks k = S at *
      generalize w4.drewN q = wq at *
      clear hw0
      go_wp2_with (go_at_call 11; go_must (refine (HAB.out _).mono ?_; rintro e w' ⟨rfl, hw⟩; have hw := hw.symm; subst hw))
      go_roundw
      case rel => exact ⟨k + 1, (HW0.out 0).choose, by omega, by go_num, by rw [HAA.out], by rw [HSS.out], (HW0.out 0).choose_spec⟩
      case measure => simp [intOf]; omega
    · have hkl : k = asks.length := by omega
      subst hkl
      have hx := HX.out
      rw [HE1.out, HE2.out, hx]
      have HI : Hid (∀ (W : World) (u : Value), IsInts w4 u [aloneAt a asks asks.length] → Below w4.heap.size w4 W → Calls Try.prog 16 #[u, .slice (some ⟨W.heap.size, 0, none⟩) 1 1] (W.alloc (.cells #[.int .i64 (aloneAt a asks asks.length)] 3)) fun e w' => e = .returned (.bool true) ∧ ∃ n, w' = (W.alloc (.cells #[.int .i64 (aloneAt a asks asks.length)] 3)).drewN n) := fun W u hu hb =>
        ints_same _ _ _ _ ((hu.below hb).below (so_new W (aloneAt a asks asks.length)).2) (so_new W (aloneAt a asks asks.length)).1
      have hb4q := below_drewN (Below.refl w4.heap.size w4) q
      have hsz := HB4.out.size
      clear HAL HE1 HE2 HX hx ht hs
      generalize aloneSum a asks asks.length = S at *
      generalize aloneAt a asks asks.length = T at *
      generalize hwq : w4.drewN q = wq at *
      clear hwq
      go_wp2_with (go_at_call 16; fail)
      refine (HI.out _ _ HD4.out hb4q).mono ?_
      rintro e w5 ⟨rfl, n5, hw5⟩
      have hb45 : Below w4.heap.size w4 w5 := by rw [hw5]; exact below_drewN (hb4q.alloc hb4q.size _) _
      clear hw5
      go_wp2_with (go_at_call 16; fail)
      refine (HI.out _ _ HE4.out hb45).mono ?_
      rintro e w6 ⟨rfl, n6, hw6⟩
      have hb46 : Below w4.heap.size w4 w6 := by rw [hw6]; exact below_drewN (hb45.alloc hb45.size _) _
      clear hw6
      go_wp2
      go_ret
      exact ⟨rfl, HB4.out.trans (hb46.mono hsz)⟩

theorem serveOne_own : ownKnob Try.prog.godebug = none := by kernel_rfl
theorem serveOne_laidOut : laidOutB Try.prog = true := by kernel_rfl

set_option maxRecDepth 100000 in
theorem serveOne_lifted (os : Os) (started : os.Started) (H : Type) (enc : TypeId × Value → H) :
    ReturnsInHanded {} Try.checked os 7 .any (Rows.serveOneSpec.pre6 enc Try.prog Try.f7 Rows.serveOneRow.domain false) (Rows.serveOneSpec.post enc Try.prog Try.f7 false true false false) := by
  refine returnsInHanded_of_change (C := Try.checked) serveOne_own started (by kernel_rfl) Try.func7
    (ChangeSpec.witness6 (enc := enc) (C := Try.checked) false ⟨#[], #[.int .i64 0, .slice none 0 0], []⟩ 8 (by kernel_rfl) (by kernel_rfl) (by kernel_rfl) (by kernel_rfl)) ?_
  intro W base args ds gs before hval0 hW _ _
  have hval : ∀ (j : Nat) t v, Try.f7.params[j]? = some t → args[j]? = some v → Value.okWide Try.prog W .any base t v := hval0
  have hW' : DataW.Whole enc Try.prog Try.f7.params.toList Rows.serveOneSpec.vars false W args.toList ds gs before := hW
  obtain ⟨p, q, hA0, hV, rfl, hfz, hnd⟩ := hW
  have hA : DataW.TrodAll enc Try.prog W 0 (fun _ => true) true Try.f7.params.toList args.toList ds p := hA0
  rw [Try.params7] at hA hval
  obtain ⟨v0, vs0, d0, ds0, p0, q0, hargs, rfl, rfl, h0, r0⟩ := trodAll_cons hA
  obtain ⟨v1, vs1, d1, ds1, p1, q1, rfl, rfl, rfl, h1, r1⟩ := trodAll_cons r0
  obtain ⟨rfl, rfl, rfl⟩ := trodAll_nil r1
  obtain rfl : args = #[v0, v1] := by cases args; simp_all
  obtain ⟨rfl, rfl⟩ := trodVars_none hV
  obtain ⟨n0, rfl, rfl, rfl, wn0⟩ := open_int Try.underlying3 (hval 0 3 v0 rfl rfl) h0
  obtain ⟨l1, ao1, cap1, hv1, hl1⟩ := arg_ints Try.underlying22 Try.underlying3 (by kernel_rfl) (hval 1 22 v1 rfl rfl) h1
  clear hA0 hval0
  refine (sone_any n0 v1 l1 W hl1 ⟨ao1, cap1, hv1⟩).mono fun e W' ⟨he, hb⟩ => ?_
  subst he
  exact ⟨_, rfl, law_post hW' hb serveOne_laidOut rfl (by kernel_rfl) (by kernel_rfl) Try.underlying4 rfl rfl rfl⟩

theorem serveOne_holds : Rows.ServeOneSaid :=
  OpenClaim.holds_of_wide 7 Try.f7 rfl rfl rfl rfl rfl rfl rfl ⟨rfl, rfl, rfl, rfl, rfl⟩ rfl rfl rfl rfl rfl (by kernel_rfl) Try.func7 (by kernel_rfl)
    (of_decide_eq_true (by kernel_rfl)) (by unfold Func.isWrapper; first | (rw [if_pos (by decide +kernel)]; kernel_rfl) | (rw [if_neg (by decide +kernel)]; exact ⟨rfl, rfl⟩))
    (fun os started H enc _ => serveOne_lifted os started H enc)
end Go.Proofs.Ytnjfmlojbaigjaa
