/- The walk of BuddyPlays: any lending and giving back is as the document says it. -/
import Derived.Test.YtmmeapaakdaemaaDoorRArB
import Derived.Test.YtmmeapaakdaemaaDoorBFact
import Derived.Test.YtmmeapaakdaemaaDoorTold
namespace Go.Proofs.YtmmeapaakdaemaaDoor
open Go.RowKit Go.Maps Go.Sort

theorem ar_form {w : World} {B : Nat} {va vo : Value} {L : List (Nat × Nat)} (h : IsAr w B (.agg #[va, vo]) L) : ∃ a1 c1 a2 c2, va = .slice a1 L.length c1 ∧ vo = .slice a2 L.length c2 := by
  obtain ⟨v1, v2, e, k1, k2⟩ := h
  simp only [Value.agg.injEq, Array.mk.injEq, List.cons.injEq, and_true] at e
  obtain ⟨rfl, rfl⟩ := e
  obtain ⟨a1, c1, hv1⟩ := k1.form
  obtain ⟨a2, c2, hv2⟩ := k2.form
  rw [atsI_length] at hv1
  rw [ordsI_length] at hv2
  exact ⟨a1, c1, a2, c2, hv1, hv2⟩
theorem ar_forms {w : World} {B : Nat} {v : Value} {L : List (Nat × Nat)} (h : IsAr w B v L) : ∃ a1 c1 a2 c2, v = .agg #[.slice a1 L.length c1, .slice a2 L.length c2] := by
  obtain ⟨v1, v2, rfl, _⟩ := id h
  obtain ⟨a1, c1, a2, c2, rfl, rfl⟩ := ar_form h
  exact ⟨a1, c1, a2, c2, rfl⟩

theorem Arena.far {w : World} {base a b X : Nat} {L : List (Nat × Nat)} (h : Arena Unit w base a b L) (ha : a ≠ X) (hb : b ≠ X) (v1 v2 : Value) : Arena Unit ((w.setCell ⟨X, 0, none⟩ v1).setCell ⟨X, 1, none⟩ v2) base a b L := by
  have ht : Turn X X w ((w.setCell ⟨X, 0, none⟩ v1).setCell ⟨X, 1, none⟩ v2) := (Turn.setCell w ⟨X, 0, none⟩ v1 rfl).trans (Turn.setCell _ ⟨X, 1, none⟩ v2 rfl)
  exact h.same (ht.block a h.lt.1 ha ha) (ht.block b h.lt.2 hb hb)
theorem Arena.ar {w w1 : World} {base a b B : Nat} {L M : List (Nat × Nat)} {v : Value} (h : Arena Unit w base a b L) (hi : IsAr w B v M) (ht : Turn a b w w1) : IsAr w1 B v M := by
  obtain ⟨va, vo, e, h1, h2⟩ := hi
  exact ⟨va, vo, e, h.own h1 ht, h.own h2 ht⟩

set_option maxRecDepth 100000 in
set_option maxHeartbeats 4000000 in
theorem buddyPlays_any (v : Value) (l : List Int) (w : World) (hv : IsInts w v l) (hform : ∃ ao cap, v = .slice ao l.length cap) (hT : Tabbed w) (hg : Handle w) :
    Calls Tryd.prog 6 #[v] w fun e w' => e = .returned (.bool true) ∧ Below w.heap.size w w' := by
  have HT : Hid (Tabbed w) := hT
  have HTL : Hid (0 < w.heap.size) := hT.lt
  have HV : Hid (IsInts w v l) := hv
  have HG : Hid (Handle w) := hg
  obtain ⟨ao, cap, rfl⟩ := hform
  clear hT hv hg
  go_enter Tryd.func6, Tryd.ntmps6
  go_wp2_with (go_at_call 17; go_must (refine (new_any Unit _).mono ?_; rintro e w1 ⟨a, b, rfl, hA, hb⟩; have HA1 : Hid (Arena Unit w1 w.heap.size a b []) := hA; have HB1 : Hid (Below w.heap.size w w1) := hb; clear hA hb))
  have HX : Hid (w.heap.size ≤ w1.heap.size ∧ a ≠ w1.heap.size ∧ b ≠ w1.heap.size) := by
    have h1 := HA1.out.lt
    exact ⟨HB1.out.size, by omega, by omega⟩
  have HA2 : Hid (Arena Unit (w1.alloc (.cells #[.slice none 0 0, .slice none 0 0] 44)) w.heap.size a b []) := HA1.out.later ((Below.refl _ w1).alloc (Nat.le_refl _) _)
  have HB2 : Hid (Below w.heap.size w (w1.alloc (.cells #[.slice none 0 0, .slice none 0 0] 44))) := HB1.out.alloc HB1.out.size _
  have HC2 : Hid ((w1.alloc (.cells #[.slice none 0 0, .slice none 0 0] 44)).heap[w1.heap.size]? = some (.cells #[.slice none 0 0, .slice none 0 0] 44 (0, 0))) := heap_alloc_new w1 _
  clear HA1 HB1
  generalize w1.heap.size = X at *
  generalize w1.alloc (.cells #[.slice none 0 0, .slice none 0 0] 44) = w2 at *
  go_loopw [5] (fun i wr => ∃ (k : Nat) (L : List (Nat × Nat)) (va vo : Value), i = .int .i64 (k : Nat) ∧ k ≤ l.length ∧ k ≤ 100 ∧ Arena Unit wr w.heap.size a b L ∧ Below w.heap.size w wr ∧ wr.heap[X]? = some (.cells #[va, vo] 44 (0, 0)) ∧ IsAr wr w.heap.size (.agg #[va, vo]) L) (fun i _ => 100 - (RowKit.intOf i).toNat)
  case atStart => exact ⟨0, [], _, _, rfl, Nat.zero_le _, Nat.zero_le _, HA2.out, HB2.out, HC2.out, _, _, rfl, OwnI.nil _ _, OwnI.nil _ _⟩
  case round =>
    obtain ⟨k, L, va, vo, rfl, hkl, hk1, hA, hb, hC, hI⟩ := hrel
    have HA3 : Hid (Arena Unit wr w.heap.size a b L) := hA
    have HB3 : Hid (Below w.heap.size w wr) := hb
    have HC3 : Hid (wr.heap[X]? = some (.cells #[va, vo] 44 (0, 0))) := hC
    have HI3 : Hid (IsAr wr w.heap.size (.agg #[va, vo]) L) := hI
    obtain ⟨av, cv, bv, dv, rfl, rfl⟩ := ar_form hI
    clear hA hb hC hI HA2 HB2 HC2
    by_cases hlt : k < l.length ∧ k < 100
    · obtain ⟨h1, h2⟩ := hlt
      have h1' : (k : Int) < (l.length : Int) := by omega
      have h2' : (k : Int) < 100 := by omega
      rcases HV.out with ⟨rfl, _⟩ | ⟨g, off, cap', hv, hp, hlc, hm, hc⟩
      · simp at h1
      · simp only [Value.slice.injEq, true_and] at hv
        obtain ⟨rfl, rfl⟩ := hv
        have hck := hc k h1
        have hgl : g < w.heap.size := World.block_lt_of_cell? w _ hck
        have HCW : Hid (∀ W, Below w.heap.size w W → W.cell? ⟨g, off + k, none⟩ = some (.int .i64 (l[k]?.getD 0))) := fun W hW => (hW.cell (p := ⟨g, off + k, none⟩) hgl).trans hck
        have hcw := HCW.out _ HB3.out
        clear hc hck hgl HV
        generalize l[k]?.getD 0 = s at *
        obtain ⟨hx0, hx1, hxf0, hxf1⟩ := box_cells HC3.out
        by_cases hs : 0 ≤ s
        case' pos =>
          have hpp : ∀ x : Nat, ((x : Int) != (x : Int)) = false := fun x => by simp
          obtain ⟨p, n, M, hq⟩ : ∃ p n M, lendF L s = (p, n, M) := ⟨_, _, _, rfl⟩
          have hpn := hpp p
          clear hpp
          have HLD : Hid (∀ W, Hid (Below wr.heap.size wr W) → Calls Tryd.prog 18 #[.agg #[.slice av L.length cv, .slice bv L.length dv], .int .i64 s] W fun e w' => ∃ a1 c1 a2 c2, e = .returned (.tuple #[.agg #[.slice a1 M.length c1, .slice a2 M.length c2], .int .i64 (p : Nat), .int .i64 (n : Nat)]) ∧ Hid (IsAr w' w.heap.size (.agg #[.slice a1 M.length c1, .slice a2 M.length c2]) M) ∧ Hid (Below wr.heap.size wr w') ∧ Hid (Below W.heap.size W w')) := fun W hW => by
            have h := rlend_any L HA3.out.up HA3.out.okay _ _ s W (Nat.le_trans HB3.out.size hW.out.size) (HI3.out.later hW.out)
            rw [hq] at h
            refine h.mono ?_
            rintro e w' ⟨u, rfl, hu, hb⟩
            obtain ⟨a1, c1, a2, c2, rfl⟩ := ar_forms hu
            exact ⟨a1, c1, a2, c2, rfl, hu, hW.out.trans (hb.mono hW.out.size), hb⟩
          have HLE : Hid (∀ W, Arena Unit W w.heap.size a b L → Tabbed W → Calls Tryd.prog 15 #[.pointer (some ⟨a, 0, none⟩), .int .i64 s] W fun e w' => e = .returned (.tuple #[.int .i64 (p : Nat), errV n]) ∧ Arena Unit w' w.heap.size a b M ∧ Turn a b W w') := fun W hA hT => by
            have h := lend_any Unit _ _ _ _ s _ hA hT HTL.out
            rw [hq] at h
            exact h
          have HER : Hid (∀ W, Below w.heap.size w W → Calls Tryd.prog 16 #[errV n, .int .i64 (n : Nat)] W fun e w' => e = .returned (.bool true) ∧ Below W.heap.size W w') := fun W hW => error_same n W (HG.out.below hW)
          generalize errV n = ve at *
          have hdr : Hid (Below wr.heap.size wr wr.drew) := (Below.refl _ _).drew
          have hdra : Hid (Below wr.heap.size wr (wr.drew.alloc (.cells #[.slice none 0 0, .slice none 0 0] 44))) := hdr.out.alloc (Nat.le_refl _) _
          have hcwa : (wr.alloc (.cells #[.slice none 0 0, .slice none 0 0] 44)).cell? ⟨g, off + k, none⟩ = some (.int .i64 s) := Lib.cell?_alloc_some _ hcw
          have hx0a : (wr.alloc (.cells #[.slice none 0 0, .slice none 0 0] 44)).cell? ⟨X, 0, none⟩ = some (.slice av L.length cv) := Lib.cell?_alloc_some _ hx0
          have hx1a : (wr.alloc (.cells #[.slice none 0 0, .slice none 0 0] 44)).cell? ⟨X, 1, none⟩ = some (.slice bv L.length dv) := Lib.cell?_alloc_some _ hx1
          have HQ : Hid (lendF L s = (p, n, M)) := hq
          clear hq
          go_wp2
          rename_i K2 hK2 K1 hK1 K0 hK0
          have HK : ∀ (t6 t7 t8 t9 t10 t11 t12 t13 t14 t15 t17 t18 t19 t20 t21 t22 t23 t24 t25 t26 t27 t28 t29 t30 t31 t32 t33 t34 t35 t36 t37 t38 t39 t40 t41 t42 t43 t44 t45 t46 t47 t48 t49 t50 t51 t52 t53 t54 t55 t56 t57 t58 t59 t60 t61 t62 t63 t64 t65 t66 t67 t68 t69 t70 t71 t72 t73 t74 t75 t76 t77 t78 t79 t80 t81 t82 t83 t84 t85 t86 t87 t88 t89 t90 t91 t92 t93 t94 t95 t96 t97 t98 t99 t100 t101 t102 t103 t104 t105 t106 t107 t108 t109 t110 : Value) (W : World) (a1 : Option Addr) (c1 : Nat) (a2 : Option Addr) (c2 : Nat), Hid (Arena Unit W w.heap.size a b M) → Hid (Below w.heap.size w W) → Hid (W.heap[X]? = some (.cells #[.slice a1 M.length c1, .slice a2 M.length c2] 44 (0, 0))) → Hid (IsAr W w.heap.size (.agg #[.slice a1 M.length c1, .slice a2 M.length c2]) M) → K1 { tmps := #[.slice (some ⟨g, off, none⟩) l.length cap, undef, u2, .pointer (some ⟨a, 0, none⟩), .pointer (some ⟨X, 0, none⟩), .int .i64 (k : Nat), t6, t7, t8, t9, t10, t11, t12, t13, t14, t15, .pointer (some ⟨a, 0, none⟩), t17, t18, t19, t20, t21, t22, t23, t24, t25, t26, t27, t28, t29, t30, t31, t32, t33, t34, t35, t36, t37, t38, t39, t40, t41, t42, t43, t44, t45, t46, t47, t48, t49, t50, t51, t52, t53, t54, t55, t56, t57, t58, t59, t60, t61, t62, t63, t64, t65, t66, t67, t68, t69, t70, t71, t72, t73, t74, t75, t76, t77, t78, t79, t80, t81, t82, t83, t84, t85, t86, t87, t88, t89, t90, t91, t92, t93, t94, t95, t96, t97, t98, t99, t100, t101, t102, t103, t104, t105, t106, t107, t108, t109, t110, undef, undef, undef, undef, undef, undef, undef, undef, undef, undef], defers := [] } W := by
            intro t6 t7 t8 t9 t10 t11 t12 t13 t14 t15 t17 t18 t19 t20 t21 t22 t23 t24 t25 t26 t27 t28 t29 t30 t31 t32 t33 t34 t35 t36 t37 t38 t39 t40 t41 t42 t43 t44 t45 t46 t47 t48 t49 t50 t51 t52 t53 t54 t55 t56 t57 t58 t59 t60 t61 t62 t63 t64 t65 t66 t67 t68 t69 t70 t71 t72 t73 t74 t75 t76 t77 t78 t79 t80 t81 t82 t83 t84 t85 t86 t87 t88 t89 t90 t91 t92 t93 t94 t95 t96 t97 t98 t99 t100 t101 t102 t103 t104 t105 t106 t107 t108 t109 t110 w4 a1 c1 a2 c2 HA4 HB4 HC4 HI4
            clear hcw hx0 hx1 hxf0 hxf1 HLD HLE HER hcwa hx0a hx1a hdr hdra hK0 HQ HA3 HB3 HC3 HI3
            refine hK1 _ _ ?_
            go_wp2_with (go_at_call 9; fail)
            refine (lent_any Unit _ _ _ _ _ HA4.out).mono ?_
            rintro e w5 ⟨v1, v2, rfl, B, hB, ho1, ho2, _, hb⟩
            have HA5 : Hid (Arena Unit w5 w.heap.size a b M) := HA4.out.later hb
            have HB5 : Hid (Below w.heap.size w w5) := HB4.out.trans (hb.mono HB4.out.size)
            have HC5 : Hid (w5.heap[X]? = some (.cells #[.slice a1 M.length c1, .slice a2 M.length c2] 44 (0, 0))) := (hb.block X (Array.getElem?_eq_some_iff.1 HC4.out).1).trans HC4.out
            have HI5 : Hid (IsAr w5 w.heap.size (.agg #[.slice a1 M.length c1, .slice a2 M.length c2]) M) := HI4.out.later hb
            have HAT : Hid (IsInts w5 v1 (atsI M)) := ho1.isInts
            have HOR : Hid (IsInts w5 v2 (ordsI M)) := ho2.isInts
            clear ho1 ho2 hb hB HA4 HB4 HC4 HI4
            obtain ⟨hx0, hx1, _, _⟩ := box_cells HC5.out
            obtain ⟨u1, u2', e12, k1, k2⟩ := id HI5.out
            simp only [Value.agg.injEq, Array.mk.injEq, List.cons.injEq, and_true] at e12
            obtain ⟨rfl, rfl⟩ := e12
            have HE1 : Hid (IsInts w5 (.slice a1 M.length c1) (atsI M)) := k1.isInts
            have HE2 : Hid (IsInts w5 (.slice a2 M.length c2) (ordsI M)) := k2.isInts
            clear k1 k2
            go_wp2_with (go_at_call 14; fail)
            refine (ints_same _ _ (atsI M) _ HAT.out HE1.out).mono ?_
            rintro e w6 ⟨rfl, q6, hw6⟩
            have hb6 : Below w5.heap.size w5 w6 := by rw [hw6]; exact below_drewN (Below.refl _ w5) q6
            have HA6 : Hid (Arena Unit w6 w.heap.size a b M) := HA5.out.later hb6
            have HB6 : Hid (Below w.heap.size w w6) := HB5.out.trans (hb6.mono HB5.out.size)
            have HC6 : Hid (w6.heap[X]? = some (.cells #[.slice a1 M.length c1, .slice a2 M.length c2] 44 (0, 0))) := (hb6.block X (Array.getElem?_eq_some_iff.1 HC5.out).1).trans HC5.out
            have HI6 : Hid (IsAr w6 w.heap.size (.agg #[.slice a1 M.length c1, .slice a2 M.length c2]) M) := HI5.out.later hb6
            have HOR6 : Hid (IsInts w6 v2 (ordsI M)) := HOR.out.below hb6
            have HE6 : Hid (IsInts w6 (.slice a2 M.length c2) (ordsI M)) := HE2.out.below hb6
            clear hw6 hb6 HA5 HB5 HC5 HI5 HAT HOR HE1 HE2 hx0 hx1
            obtain ⟨hx0, hx1, _, _⟩ := box_cells HC6.out
            go_wp2_with (go_at_call 14; fail)
            refine (ints_same _ _ (ordsI M) _ HOR6.out HE6.out).mono ?_
            rintro e w7 ⟨rfl, q7, hw7⟩
            have hb7 : Below w6.heap.size w6 w7 := by rw [hw7]; exact below_drewN (Below.refl _ w6) q7
            have HA7 : Hid (Arena Unit w7 w.heap.size a b M) := HA6.out.later hb7
            have HB7 : Hid (Below w.heap.size w w7) := HB6.out.trans (hb7.mono HB6.out.size)
            have HC7 : Hid (w7.heap[X]? = some (.cells #[.slice a1 M.length c1, .slice a2 M.length c2] 44 (0, 0))) := (hb7.block X (Array.getElem?_eq_some_iff.1 HC6.out).1).trans HC6.out
            have HI7 : Hid (IsAr w7 w.heap.size (.agg #[.slice a1 M.length c1, .slice a2 M.length c2]) M) := HI6.out.later hb7
            have HT7 : Hid (Tabbed w7) := HT.out.below HB7.out HTL.out
            have HOK : Hid (Okay M) := HA7.out.okay
            clear hw7 hb7 HA6 HB6 HC6 HI6 HOR6 HE6 hx0 hx1
            have HFP : Hid (∀ (j : Nat) (w0 : World), Below w7.heap.size w7 w0 → Calls Tryd.prog 10 #[.pointer (some ⟨a, 0, none⟩), .int .i64 (j : Nat)] w0 fun e w' => ∃ u, e = .returned u ∧ Hid (IsInts w' u (freeI M (j : Nat))) ∧ Hid (Below w7.heap.size w7 w')) := by
              intro j w0 h0
              refine (free_any Unit _ _ _ _ (j : Nat) _ (HA7.out.later h0) (HT7.out.below h0 HT7.out.lt)).mono ?_
              rintro e w' ⟨u, rfl, ho, hb⟩
              exact ⟨u, rfl, ho.isInts, h0.trans (hb.mono h0.size)⟩
            have HFD : Hid (∀ (j : Nat) (w0 : World) (u : Value), Hid (IsInts w0 u (freeI M (j : Nat))) → Hid (Below w7.heap.size w7 w0) → Calls Tryd.prog 20 #[.agg #[.slice a1 M.length c1, .slice a2 M.length c2], .int .i64 (j : Nat)] w0 fun e w' => ∃ u2, e = .returned u2 ∧ Hid (IsInts w' u (freeI M (j : Nat))) ∧ Hid (IsInts w' u2 (freeI M (j : Nat))) ∧ Hid (Below w7.heap.size w7 w')) := by
              intro j w0 u hu h0
              refine (rfreeL_any M HOK.out _ _ (j : Nat) w0 (HI7.out.later h0.out)).mono ?_
              rintro e w' ⟨u2, rfl, ho, hb⟩
              exact ⟨u2, rfl, hu.out.below hb, ho.isInts, h0.out.trans (hb.mono h0.out.size)⟩
            go_wp2
            go_loopw [15] (fun v15 wq => ∃ j : Nat, j ≤ 7 ∧ v15 = .int .i64 (j : Nat) ∧ Below w7.heap.size w7 wq) (fun v15 _ => 7 - (RowKit.intOf v15).toNat)
            case atStart => exact ⟨0, by omega, rfl, Below.refl _ _⟩
            case round =>
              obtain ⟨j, hj, rfl, hb⟩ := hrel
              have HBQ : Hid (Below w7.heap.size w7 wr) := hb
              clear hb
              by_cases hj7 : j = 7
              · have hj6 : ¬ (j : Int) ≤ 6 := by omega
                have HAQ : Hid (Arena Unit wr w.heap.size a b M) := HA7.out.later HBQ.out
                have HBW : Hid (Below w.heap.size w wr) := HB7.out.trans (HBQ.out.mono HB7.out.size)
                have HCQ : Hid (wr.heap[X]? = some (.cells #[.slice a1 M.length c1, .slice a2 M.length c2] 44 (0, 0))) := (HBQ.out.block X (Array.getElem?_eq_some_iff.1 HC7.out).1).trans HC7.out
                have HIQ : Hid (IsAr wr w.heap.size (.agg #[.slice a1 M.length c1, .slice a2 M.length c2]) M) := HI7.out.later HBQ.out
                clear hj7 HFP HFD
                go_wp2
                go_roundw
                case rel => exact ⟨k + 1, M, _, _, by go_num, by omega, by omega, HAQ.out, HBW.out, HCQ.out, HIQ.out⟩
                case measure => simp [RowKit.intOf]; omega
              · have hj6 : (j : Int) ≤ 6 := by omega
                have hcx : Hid (∀ W, Hid (Below w7.heap.size w7 W) → W.heap[X]? = some (.cells #[.slice a1 M.length c1, .slice a2 M.length c2] 44 (0, 0))) := fun W hW => (hW.out.block X (Array.getElem?_eq_some_iff.1 HC7.out).1).trans HC7.out
                obtain ⟨hx0, hx1, _, _⟩ := box_cells (hcx.out _ HBQ)
                have HPW : Hid (Below w7.heap.size w7 wr.drew) := HBQ.out.drew
                obtain ⟨hxd0, hxd1, _, _⟩ := box_cells (hcx.out _ HPW)
                go_wp2
                go_region_law (first
                  | (refine step_call rfl 10 _ _ rfl #[.pointer (some ⟨a, 0, none⟩), .int .i64 (j : Nat)] (by first | rfl | simp [Act.eval, Act.put]) (enters_of Tryd.func10 (by kernel_rfl) rfl _) (HFP.out j _ HPW.out) ?_; rintro e W2 ⟨y1, rfl, HU1, HBW2⟩; refine ⟨_, rfl, ?_⟩; obtain ⟨hy0, hy1, _, _⟩ := box_cells (hcx.out _ HBW2))
                  | (refine step_call rfl 20 _ _ rfl #[.agg #[.slice a1 M.length c1, .slice a2 M.length c2], .int .i64 (j : Nat)] (by first | rfl | simp [Act.eval]) (enters_of Tryd.func20 (by kernel_rfl) rfl _) (HFD.out j _ _ HU1 HBW2) ?_; rintro e W3 ⟨y2, rfl, HU2, HU3, HBW3⟩; refine ⟨_, rfl, ?_⟩)
                  | (refine step_call rfl 14 _ _ rfl #[y1, y2] (by first | rfl | simp [Act.eval]) (enters_of Tryd.func14 (by kernel_rfl) rfl _) (ints_same _ _ (freeI M (j : Nat)) _ HU2.out HU3.out) ?_; rintro e W4 ⟨rfl, q4, hw4⟩; refine ⟨_, rfl, ?_⟩; have HB4 : Hid (Below w7.heap.size w7 W4) := (by rw [hw4]; exact below_drewN HBW3.out q4); clear hw4))
                all_goals
                  go_wp2
                  go_roundw
                  case rel => exact ⟨j + 1, by omega, by go_num, HB4.out⟩
                  case measure => simp [RowKit.intOf]; omega
          clear hK1
          go_region_law (refine step_call rfl 18 _ _ rfl #[.agg #[.slice av L.length cv, .slice bv L.length dv], .int .i64 s] (by simp [Act.eval]) (enters_of Tryd.func18 (by kernel_rfl) rfl _) (HLD.out _ (by first | exact hdr | exact hdra)) ?_; rintro e W5 ⟨a1, c1, a2, c2, rfl, HR, HBW, HBN⟩; refine ⟨_, rfl, ?_⟩; (try (have hN := (HBN.out.block wr.heap.size (by simp)).trans (heap_alloc_new wr.drew _); have HN : Hid _ := hN; obtain ⟨hn0, hn1, hnf0, hnf1⟩ := box_cells HN.out)))
          all_goals
            first
              | (have HY := ar_end (w := wr) (g := wr.heap.size) (Nat.le_refl _) HN.out (by decide) HR.out HBW.out
                 have HZ := two_set (.slice a1 M.length c1) (.slice a2 M.length c2) HN.out
                 generalize (W5.setCell ⟨wr.heap.size, 0, none⟩ (.slice a1 M.length c1)).setCell ⟨wr.heap.size, 1, none⟩ (.slice a2 M.length c2) = w6 at *
                 clear hn0 hn1 hnf0 hnf1
                 have HY : Hid _ := HY
                 have HZ : Hid _ := HZ)
              | (have hy : IsAr (W5.alloc (.cells #[.slice a1 M.length c1, .slice a2 M.length c2] 44)) w.heap.size (.agg #[.slice a1 M.length c1, .slice a2 M.length c2]) M ∧ Below wr.heap.size wr (W5.alloc (.cells #[.slice a1 M.length c1, .slice a2 M.length c2] 44)) := ⟨HR.out.later ((Below.refl _ W5).alloc (Nat.le_refl _) _), HBW.out.alloc HBW.out.size _⟩
                 have hz := heap_alloc_new W5 (.cells #[.slice a1 M.length c1, .slice a2 M.length c2] 44)
                 generalize W5.alloc (.cells #[.slice a1 M.length c1, .slice a2 M.length c2] 44) = w6 at *
                 have HY : Hid _ := hy
                 have HZ : Hid _ := hz
                 clear hy hz)
            obtain ⟨hy0, hy1, _, _⟩ := box_cells HZ.out
            have HXC : Hid (w6.heap[X]? = some (.cells #[.slice av L.length cv, .slice bv L.length dv] 44 (0, 0))) := (HY.out.2.block X (Array.getElem?_eq_some_iff.1 HC3.out).1).trans HC3.out
            clear hx0 hx1 hxf0 hxf1 hcwa hx0a hx1a
            obtain ⟨hx0, hx1, hxf0, hxf1⟩ := box_cells HXC.out
            have HB6 : Below w.heap.size w w6 := HB3.out.trans (HY.out.2.mono HB3.out.size)
            have HE := ar_end (w := w) (g := X) HX.out.1 HXC.out (by decide) HY.out.1 HB6
            have HC4 := two_set (.slice a1 M.length c1) (.slice a2 M.length c2) HXC.out
            have HA4 := (HA3.out.later HY.out.2).far HX.out.2.1 HX.out.2.2 (.slice a1 M.length c1) (.slice a2 M.length c2)
            have HE : Hid _ := HE
            have HC4 : Hid _ := HC4
            have HA4 : Hid _ := HA4
            have hcw7 := HCW.out _ HE.out.2
            go_wp2_with (go_at_call 15; fail)
            generalize (w6.setCell ⟨X, 0, none⟩ (.slice a1 M.length c1)).setCell ⟨X, 1, none⟩ (.slice a2 M.length c2) = w7 at *
            clear HY HZ HXC HB6 HR HBW HBN hy0 hy1 hx0 hx1 hxf0 hxf1 HLD hdr hdra
            refine (HLE.out _ HA4.out (HT.out.below HE.out.2 HTL.out)).mono ?_
            rintro e w8 ⟨rfl, hA, ht⟩
            have HA8 : Hid (Arena Unit w8 w.heap.size a b M) := hA
            have HB8 : Hid (Below w.heap.size w w8) := ht.below HE.out.2 HE.out.2.size hA.fromA hA.fromB
            have HC8 : Hid (w8.heap[X]? = some (.cells #[.slice a1 M.length c1, .slice a2 M.length c2] 44 (0, 0))) := (ht.block X (Array.getElem?_eq_some_iff.1 HC4.out).1 (Ne.symm HX.out.2.1) (Ne.symm HX.out.2.2)).trans HC4.out
            have HI8 : Hid (IsAr w8 w.heap.size (.agg #[.slice a1 M.length c1, .slice a2 M.length c2]) M) := HA4.out.ar HE.out.1 ht
            clear hA ht HA4 HC4 HE HLE hcw7
            go_wp2_with (go_at_call 16; fail)
            refine (HER.out _ HB8.out).mono ?_
            rintro e w9 ⟨rfl, hb⟩
            have HA9 : Hid (Arena Unit w9 w.heap.size a b M) := HA8.out.later hb
            have HB9 : Hid (Below w.heap.size w w9) := HB8.out.trans (hb.mono HB8.out.size)
            have HC9 : Hid (w9.heap[X]? = some (.cells #[.slice a1 M.length c1, .slice a2 M.length c2] 44 (0, 0))) := (hb.block X (Array.getElem?_eq_some_iff.1 HC8.out).1).trans HC8.out
            have HI9 : Hid (IsAr w9 w.heap.size (.agg #[.slice a1 M.length c1, .slice a2 M.length c2]) M) := HI8.out.later hb
            clear hb HA8 HB8 HC8 HI8 HER
            go_wp2
            exact HK _ _ _ _ _ _ _ _ _ _ _ _ _ _ _ _ _ _ _ _ _ _ _ _ _ _ _ _ _ _ _ _ _ _ _ _ _ _ _ _ _ _ _ _ _ _ _ _ _ _ _ _ _ _ _ _ _ _ _ _ _ _ _ _ _ _ _ _ _ _ _ _ _ _ _ _ _ _ _ _ _ _ _ _ _ _ _ _ _ _ _ _ _ _ _ _ _ _ _ _ _ _ _ _ w9 a1 c1 a2 c2 HA9 HB9 HC9 HI9
        case' neg =>
          have hz1 : -9223372036854775808 ≤ wrap64 (-1 - s) := by unfold wrap64; omega
          have hz2 : wrap64 (-1 - s) < 9223372036854775808 := by unfold wrap64; omega
          have hwz : IntKind.i64.wrap (-1 - s) = wrap64 (-1 - s) := by rw [IntKind.wrap_i64]; unfold wrap64; omega
          generalize wrap64 (-1 - s) = z at *
          obtain ⟨n, M, hq⟩ : ∃ n M, backF L z = (n, M) := ⟨_, _, rfl⟩
          have HLD : Hid (∀ W, Hid (Below wr.heap.size wr W) → Calls Tryd.prog 19 #[.agg #[.slice av L.length cv, .slice bv L.length dv], .int .i64 z] W fun e w' => ∃ a1 c1 a2 c2, e = .returned (.tuple #[.agg #[.slice a1 M.length c1, .slice a2 M.length c2], .int .i64 (n : Nat)]) ∧ Hid (IsAr w' w.heap.size (.agg #[.slice a1 M.length c1, .slice a2 M.length c2]) M) ∧ Hid (Below wr.heap.size wr w') ∧ Hid (Below W.heap.size W w')) := fun W hW => by
            have h := rback_any L HA3.out.up HA3.out.okay _ _ z W (Nat.le_trans HB3.out.size hW.out.size) (HI3.out.later hW.out)
            rw [hq] at h
            refine h.mono ?_
            rintro e w' ⟨u, rfl, hu, hb⟩
            obtain ⟨a1, c1, a2, c2, rfl⟩ := ar_forms hu
            exact ⟨a1, c1, a2, c2, rfl, hu, hW.out.trans (hb.mono hW.out.size), hb⟩
          have HLE : Hid (∀ W, Arena Unit W w.heap.size a b L → Tabbed W → Calls Tryd.prog 13 #[.pointer (some ⟨a, 0, none⟩), .int .i64 z] W fun e w' => e = .returned (errV n) ∧ Arena Unit w' w.heap.size a b M ∧ Turn a b W w') := fun W hA hT => by
            have h := back_any Unit _ _ _ _ z hz1 hz2 _ hA
            rw [hq] at h
            exact h
          have HER : Hid (∀ W, Below w.heap.size w W → Calls Tryd.prog 16 #[errV n, .int .i64 (n : Nat)] W fun e w' => e = .returned (.bool true) ∧ Below W.heap.size W w') := fun W hW => error_same n W (HG.out.below hW)
          generalize errV n = ve at *
          have hdr : Hid (Below wr.heap.size wr wr.drew) := (Below.refl _ _).drew
          have hdra : Hid (Below wr.heap.size wr (wr.drew.alloc (.cells #[.slice none 0 0, .slice none 0 0] 44))) := hdr.out.alloc (Nat.le_refl _) _
          have hcwa : (wr.alloc (.cells #[.slice none 0 0, .slice none 0 0] 44)).cell? ⟨g, off + k, none⟩ = some (.int .i64 s) := Lib.cell?_alloc_some _ hcw
          have hx0a : (wr.alloc (.cells #[.slice none 0 0, .slice none 0 0] 44)).cell? ⟨X, 0, none⟩ = some (.slice av L.length cv) := Lib.cell?_alloc_some _ hx0
          have hx1a : (wr.alloc (.cells #[.slice none 0 0, .slice none 0 0] 44)).cell? ⟨X, 1, none⟩ = some (.slice bv L.length dv) := Lib.cell?_alloc_some _ hx1
          have HQ : Hid (backF L z = (n, M)) := hq
          clear hq
          go_wp2
          rename_i K2 hK2 K1 hK1 K0 hK0
          have HK : ∀ (t6 t7 t8 t9 t10 t11 t12 t13 t14 t15 t17 t18 t19 t20 t21 t22 t23 t24 t25 t26 t27 t28 t29 t30 t31 t32 t33 t34 t35 t36 t37 t38 t39 t40 t41 t42 t43 t44 t45 t46 t47 t48 t49 t50 t51 t52 t53 t54 t55 t56 t57 t58 t59 t60 t61 t62 t63 t64 t65 t66 t67 t68 t69 t70 t71 t72 t73 t74 t75 t76 t77 t78 t79 t80 t81 t82 t83 t84 t85 t86 t87 t88 t89 t90 t91 t92 t93 t94 t95 t96 t97 t98 t99 t100 t101 t102 t103 t104 t105 t106 t107 t108 t109 t110 : Value) (W : World) (a1 : Option Addr) (c1 : Nat) (a2 : Option Addr) (c2 : Nat), Hid (Arena Unit W w.heap.size a b M) → Hid (Below w.heap.size w W) → Hid (W.heap[X]? = some (.cells #[.slice a1 M.length c1, .slice a2 M.length c2] 44 (0, 0))) → Hid (IsAr W w.heap.size (.agg #[.slice a1 M.length c1, .slice a2 M.length c2]) M) → K1 { tmps := #[.slice (some ⟨g, off, none⟩) l.length cap, undef, u2, .pointer (some ⟨a, 0, none⟩), .pointer (some ⟨X, 0, none⟩), .int .i64 (k : Nat), t6, t7, t8, t9, t10, t11, t12, t13, t14, t15, .pointer (some ⟨a, 0, none⟩), t17, t18, t19, t20, t21, t22, t23, t24, t25, t26, t27, t28, t29, t30, t31, t32, t33, t34, t35, t36, t37, t38, t39, t40, t41, t42, t43, t44, t45, t46, t47, t48, t49, t50, t51, t52, t53, t54, t55, t56, t57, t58, t59, t60, t61, t62, t63, t64, t65, t66, t67, t68, t69, t70, t71, t72, t73, t74, t75, t76, t77, t78, t79, t80, t81, t82, t83, t84, t85, t86, t87, t88, t89, t90, t91, t92, t93, t94, t95, t96, t97, t98, t99, t100, t101, t102, t103, t104, t105, t106, t107, t108, t109, t110, undef, undef, undef, undef, undef, undef, undef, undef, undef, undef], defers := [] } W := by
            intro t6 t7 t8 t9 t10 t11 t12 t13 t14 t15 t17 t18 t19 t20 t21 t22 t23 t24 t25 t26 t27 t28 t29 t30 t31 t32 t33 t34 t35 t36 t37 t38 t39 t40 t41 t42 t43 t44 t45 t46 t47 t48 t49 t50 t51 t52 t53 t54 t55 t56 t57 t58 t59 t60 t61 t62 t63 t64 t65 t66 t67 t68 t69 t70 t71 t72 t73 t74 t75 t76 t77 t78 t79 t80 t81 t82 t83 t84 t85 t86 t87 t88 t89 t90 t91 t92 t93 t94 t95 t96 t97 t98 t99 t100 t101 t102 t103 t104 t105 t106 t107 t108 t109 t110 w4 a1 c1 a2 c2 HA4 HB4 HC4 HI4
            clear hcw hx0 hx1 hxf0 hxf1 HLD HLE HER hcwa hx0a hx1a hdr hdra hK0 HQ HA3 HB3 HC3 HI3
            refine hK1 _ _ ?_
            go_wp2_with (go_at_call 9; fail)
            refine (lent_any Unit _ _ _ _ _ HA4.out).mono ?_
            rintro e w5 ⟨v1, v2, rfl, B, hB, ho1, ho2, _, hb⟩
            have HA5 : Hid (Arena Unit w5 w.heap.size a b M) := HA4.out.later hb
            have HB5 : Hid (Below w.heap.size w w5) := HB4.out.trans (hb.mono HB4.out.size)
            have HC5 : Hid (w5.heap[X]? = some (.cells #[.slice a1 M.length c1, .slice a2 M.length c2] 44 (0, 0))) := (hb.block X (Array.getElem?_eq_some_iff.1 HC4.out).1).trans HC4.out
            have HI5 : Hid (IsAr w5 w.heap.size (.agg #[.slice a1 M.length c1, .slice a2 M.length c2]) M) := HI4.out.later hb
            have HAT : Hid (IsInts w5 v1 (atsI M)) := ho1.isInts
            have HOR : Hid (IsInts w5 v2 (ordsI M)) := ho2.isInts
            clear ho1 ho2 hb hB HA4 HB4 HC4 HI4
            obtain ⟨hx0, hx1, _, _⟩ := box_cells HC5.out
            obtain ⟨u1, u2', e12, k1, k2⟩ := id HI5.out
            simp only [Value.agg.injEq, Array.mk.injEq, List.cons.injEq, and_true] at e12
            obtain ⟨rfl, rfl⟩ := e12
            have HE1 : Hid (IsInts w5 (.slice a1 M.length c1) (atsI M)) := k1.isInts
            have HE2 : Hid (IsInts w5 (.slice a2 M.length c2) (ordsI M)) := k2.isInts
            clear k1 k2
            go_wp2_with (go_at_call 14; fail)
            refine (ints_same _ _ (atsI M) _ HAT.out HE1.out).mono ?_
            rintro e w6 ⟨rfl, q6, hw6⟩
            have hb6 : Below w5.heap.size w5 w6 := by rw [hw6]; exact below_drewN (Below.refl _ w5) q6
            have HA6 : Hid (Arena Unit w6 w.heap.size a b M) := HA5.out.later hb6
            have HB6 : Hid (Below w.heap.size w w6) := HB5.out.trans (hb6.mono HB5.out.size)
            have HC6 : Hid (w6.heap[X]? = some (.cells #[.slice a1 M.length c1, .slice a2 M.length c2] 44 (0, 0))) := (hb6.block X (Array.getElem?_eq_some_iff.1 HC5.out).1).trans HC5.out
            have HI6 : Hid (IsAr w6 w.heap.size (.agg #[.slice a1 M.length c1, .slice a2 M.length c2]) M) := HI5.out.later hb6
            have HOR6 : Hid (IsInts w6 v2 (ordsI M)) := HOR.out.below hb6
            have HE6 : Hid (IsInts w6 (.slice a2 M.length c2) (ordsI M)) := HE2.out.below hb6
            clear hw6 hb6 HA5 HB5 HC5 HI5 HAT HOR HE1 HE2 hx0 hx1
            obtain ⟨hx0, hx1, _, _⟩ := box_cells HC6.out
            go_wp2_with (go_at_call 14; fail)
            refine (ints_same _ _ (ordsI M) _ HOR6.out HE6.out).mono ?_
            rintro e w7 ⟨rfl, q7, hw7⟩
            have hb7 : Below w6.heap.size w6 w7 := by rw [hw7]; exact below_drewN (Below.refl _ w6) q7
            have HA7 : Hid (Arena Unit w7 w.heap.size a b M) := HA6.out.later hb7
            have HB7 : Hid (Below w.heap.size w w7) := HB6.out.trans (hb7.mono HB6.out.size)
            have HC7 : Hid (w7.heap[X]? = some (.cells #[.slice a1 M.length c1, .slice a2 M.length c2] 44 (0, 0))) := (hb7.block X (Array.getElem?_eq_some_iff.1 HC6.out).1).trans HC6.out
            have HI7 : Hid (IsAr w7 w.heap.size (.agg #[.slice a1 M.length c1, .slice a2 M.length c2]) M) := HI6.out.later hb7
            have HT7 : Hid (Tabbed w7) := HT.out.below HB7.out HTL.out
            have HOK : Hid (Okay M) := HA7.out.okay
            clear hw7 hb7 HA6 HB6 HC6 HI6 HOR6 HE6 hx0 hx1
            have HFP : Hid (∀ (j : Nat) (w0 : World), Below w7.heap.size w7 w0 → Calls Tryd.prog 10 #[.pointer (some ⟨a, 0, none⟩), .int .i64 (j : Nat)] w0 fun e w' => ∃ u, e = .returned u ∧ Hid (IsInts w' u (freeI M (j : Nat))) ∧ Hid (Below w7.heap.size w7 w')) := by
              intro j w0 h0
              refine (free_any Unit _ _ _ _ (j : Nat) _ (HA7.out.later h0) (HT7.out.below h0 HT7.out.lt)).mono ?_
              rintro e w' ⟨u, rfl, ho, hb⟩
              exact ⟨u, rfl, ho.isInts, h0.trans (hb.mono h0.size)⟩
            have HFD : Hid (∀ (j : Nat) (w0 : World) (u : Value), Hid (IsInts w0 u (freeI M (j : Nat))) → Hid (Below w7.heap.size w7 w0) → Calls Tryd.prog 20 #[.agg #[.slice a1 M.length c1, .slice a2 M.length c2], .int .i64 (j : Nat)] w0 fun e w' => ∃ u2, e = .returned u2 ∧ Hid (IsInts w' u (freeI M (j : Nat))) ∧ Hid (IsInts w' u2 (freeI M (j : Nat))) ∧ Hid (Below w7.heap.size w7 w')) := by
              intro j w0 u hu h0
              refine (rfreeL_any M HOK.out _ _ (j : Nat) w0 (HI7.out.later h0.out)).mono ?_
              rintro e w' ⟨u2, rfl, ho, hb⟩
              exact ⟨u2, rfl, hu.out.below hb, ho.isInts, h0.out.trans (hb.mono h0.out.size)⟩
            go_wp2
            go_loopw [15] (fun v15 wq => ∃ j : Nat, j ≤ 7 ∧ v15 = .int .i64 (j : Nat) ∧ Below w7.heap.size w7 wq) (fun v15 _ => 7 - (RowKit.intOf v15).toNat)
            case atStart => exact ⟨0, by omega, rfl, Below.refl _ _⟩
            case round =>
              obtain ⟨j, hj, rfl, hb⟩ := hrel
              have HBQ : Hid (Below w7.heap.size w7 wr) := hb
              clear hb
              by_cases hj7 : j = 7
              · have hj6 : ¬ (j : Int) ≤ 6 := by omega
                have HAQ : Hid (Arena Unit wr w.heap.size a b M) := HA7.out.later HBQ.out
                have HBW : Hid (Below w.heap.size w wr) := HB7.out.trans (HBQ.out.mono HB7.out.size)
                have HCQ : Hid (wr.heap[X]? = some (.cells #[.slice a1 M.length c1, .slice a2 M.length c2] 44 (0, 0))) := (HBQ.out.block X (Array.getElem?_eq_some_iff.1 HC7.out).1).trans HC7.out
                have HIQ : Hid (IsAr wr w.heap.size (.agg #[.slice a1 M.length c1, .slice a2 M.length c2]) M) := HI7.out.later HBQ.out
                clear hj7 HFP HFD
                go_wp2
                go_roundw
                case rel => exact ⟨k + 1, M, _, _, by go_num, by omega, by omega, HAQ.out, HBW.out, HCQ.out, HIQ.out⟩
                case measure => simp [RowKit.intOf]; omega
              · have hj6 : (j : Int) ≤ 6 := by omega
                have hcx : Hid (∀ W, Hid (Below w7.heap.size w7 W) → W.heap[X]? = some (.cells #[.slice a1 M.length c1, .slice a2 M.length c2] 44 (0, 0))) := fun W hW => (hW.out.block X (Array.getElem?_eq_some_iff.1 HC7.out).1).trans HC7.out
                obtain ⟨hx0, hx1, _, _⟩ := box_cells (hcx.out _ HBQ)
                have HPW : Hid (Below w7.heap.size w7 wr.drew) := HBQ.out.drew
                obtain ⟨hxd0, hxd1, _, _⟩ := box_cells (hcx.out _ HPW)
                go_wp2
                go_region_law (first
                  | (refine step_call rfl 10 _ _ rfl #[.pointer (some ⟨a, 0, none⟩), .int .i64 (j : Nat)] (by first | rfl | simp [Act.eval, Act.put]) (enters_of Tryd.func10 (by kernel_rfl) rfl _) (HFP.out j _ HPW.out) ?_; rintro e W2 ⟨y1, rfl, HU1, HBW2⟩; refine ⟨_, rfl, ?_⟩; obtain ⟨hy0, hy1, _, _⟩ := box_cells (hcx.out _ HBW2))
                  | (refine step_call rfl 20 _ _ rfl #[.agg #[.slice a1 M.length c1, .slice a2 M.length c2], .int .i64 (j : Nat)] (by first | rfl | simp [Act.eval]) (enters_of Tryd.func20 (by kernel_rfl) rfl _) (HFD.out j _ _ HU1 HBW2) ?_; rintro e W3 ⟨y2, rfl, HU2, HU3, HBW3⟩; refine ⟨_, rfl, ?_⟩)
                  | (refine step_call rfl 14 _ _ rfl #[y1, y2] (by first | rfl | simp [Act.eval]) (enters_of Tryd.func14 (by kernel_rfl) rfl _) (ints_same _ _ (freeI M (j : Nat)) _ HU2.out HU3.out) ?_; rintro e W4 ⟨rfl, q4, hw4⟩; refine ⟨_, rfl, ?_⟩; have HB4 : Hid (Below w7.heap.size w7 W4) := (by rw [hw4]; exact below_drewN HBW3.out q4); clear hw4))
                all_goals
                  go_wp2
                  go_roundw
                  case rel => exact ⟨j + 1, by omega, by go_num, HB4.out⟩
                  case measure => simp [RowKit.intOf]; omega
          clear hK1
          go_region_law (refine step_call rfl 19 _ _ rfl #[.agg #[.slice av L.length cv, .slice bv L.length dv], .int .i64 z] (by first | rfl | simp [Act.eval, Act.put]) (enters_of Tryd.func19 (by kernel_rfl) rfl _) (HLD.out _ (by first | exact hdr | exact hdra)) ?_; rintro e W5 ⟨a1, c1, a2, c2, rfl, HR, HBW, HBN⟩; refine ⟨_, rfl, ?_⟩; (try (have hN := (HBN.out.block wr.heap.size (by simp)).trans (heap_alloc_new wr.drew _); have HN : Hid _ := hN; obtain ⟨hn0, hn1, hnf0, hnf1⟩ := box_cells HN.out)))
          all_goals
            first
              | (have HY := ar_end (w := wr) (g := wr.heap.size) (Nat.le_refl _) HN.out (by decide) HR.out HBW.out
                 have HZ := two_set (.slice a1 M.length c1) (.slice a2 M.length c2) HN.out
                 generalize (W5.setCell ⟨wr.heap.size, 0, none⟩ (.slice a1 M.length c1)).setCell ⟨wr.heap.size, 1, none⟩ (.slice a2 M.length c2) = w6 at *
                 clear hn0 hn1 hnf0 hnf1
                 have HY : Hid _ := HY
                 have HZ : Hid _ := HZ)
              | (have hy : IsAr (W5.alloc (.cells #[.slice a1 M.length c1, .slice a2 M.length c2] 44)) w.heap.size (.agg #[.slice a1 M.length c1, .slice a2 M.length c2]) M ∧ Below wr.heap.size wr (W5.alloc (.cells #[.slice a1 M.length c1, .slice a2 M.length c2] 44)) := ⟨HR.out.later ((Below.refl _ W5).alloc (Nat.le_refl _) _), HBW.out.alloc HBW.out.size _⟩
                 have hz := heap_alloc_new W5 (.cells #[.slice a1 M.length c1, .slice a2 M.length c2] 44)
                 generalize W5.alloc (.cells #[.slice a1 M.length c1, .slice a2 M.length c2] 44) = w6 at *
                 have HY : Hid _ := hy
                 have HZ : Hid _ := hz
                 clear hy hz)
            obtain ⟨hy0, hy1, _, _⟩ := box_cells HZ.out
            have HXC : Hid (w6.heap[X]? = some (.cells #[.slice av L.length cv, .slice bv L.length dv] 44 (0, 0))) := (HY.out.2.block X (Array.getElem?_eq_some_iff.1 HC3.out).1).trans HC3.out
            clear hx0 hx1 hxf0 hxf1 hcwa hx0a hx1a
            obtain ⟨hx0, hx1, hxf0, hxf1⟩ := box_cells HXC.out
            have HB6 : Below w.heap.size w w6 := HB3.out.trans (HY.out.2.mono HB3.out.size)
            have HE := ar_end (w := w) (g := X) HX.out.1 HXC.out (by decide) HY.out.1 HB6
            have HC4 := two_set (.slice a1 M.length c1) (.slice a2 M.length c2) HXC.out
            have HA4 := (HA3.out.later HY.out.2).far HX.out.2.1 HX.out.2.2 (.slice a1 M.length c1) (.slice a2 M.length c2)
            have HE : Hid _ := HE
            have HC4 : Hid _ := HC4
            have HA4 : Hid _ := HA4
            have hcw7 := HCW.out _ HE.out.2
            go_wp2_with (go_at_call 13; fail)
            generalize (w6.setCell ⟨X, 0, none⟩ (.slice a1 M.length c1)).setCell ⟨X, 1, none⟩ (.slice a2 M.length c2) = w7 at *
            clear HY HZ HXC HB6 HR HBW HBN hy0 hy1 hx0 hx1 hxf0 hxf1 HLD hdr hdra
            refine (HLE.out _ HA4.out (HT.out.below HE.out.2 HTL.out)).mono ?_
            rintro e w8 ⟨rfl, hA, ht⟩
            have HA8 : Hid (Arena Unit w8 w.heap.size a b M) := hA
            have HB8 : Hid (Below w.heap.size w w8) := ht.below HE.out.2 HE.out.2.size hA.fromA hA.fromB
            have HC8 : Hid (w8.heap[X]? = some (.cells #[.slice a1 M.length c1, .slice a2 M.length c2] 44 (0, 0))) := (ht.block X (Array.getElem?_eq_some_iff.1 HC4.out).1 (Ne.symm HX.out.2.1) (Ne.symm HX.out.2.2)).trans HC4.out
            have HI8 : Hid (IsAr w8 w.heap.size (.agg #[.slice a1 M.length c1, .slice a2 M.length c2]) M) := HA4.out.ar HE.out.1 ht
            clear hA ht HA4 HC4 HE HLE hcw7
            go_wp2_with (go_at_call 16; fail)
            refine (HER.out _ HB8.out).mono ?_
            rintro e w9 ⟨rfl, hb⟩
            have HA9 : Hid (Arena Unit w9 w.heap.size a b M) := HA8.out.later hb
            have HB9 : Hid (Below w.heap.size w w9) := HB8.out.trans (hb.mono HB8.out.size)
            have HC9 : Hid (w9.heap[X]? = some (.cells #[.slice a1 M.length c1, .slice a2 M.length c2] 44 (0, 0))) := (hb.block X (Array.getElem?_eq_some_iff.1 HC8.out).1).trans HC8.out
            have HI9 : Hid (IsAr w9 w.heap.size (.agg #[.slice a1 M.length c1, .slice a2 M.length c2]) M) := HI8.out.later hb
            clear hb HA8 HB8 HC8 HI8 HER
            go_wp2
            exact HK _ _ _ _ _ _ _ _ _ _ _ _ _ _ _ _ _ _ _ _ _ _ _ _ _ _ _ _ _ _ _ _ _ _ _ _ _ _ _ _ _ _ _ _ _ _ _ _ _ _ _ _ _ _ _ _ _ _ _ _ _ _ _ _ _ _ _ _ _ _ _ _ _ _ _ _ _ _ _ _ _ _ _ _ _ _ _ _ _ _ _ _ _ _ _ _ _ _ _ _ _ _ _ _ w9 a1 c1 a2 c2 HA9 HB9 HC9 HI9
    · have hf1 : freeI L (-1) = [] := if_pos (by omega)
      have hf7 : freeI L 7 = [] := if_pos (by omega)
      have HFR : Hid (∀ (z : Int) (w0 : World), freeI L z = [] → Below wr.heap.size wr w0 → Calls Tryd.prog 10 #[.pointer (some ⟨a, 0, none⟩), .int .i64 z] w0 fun e w' => ∃ af cf, e = .returned (.slice af 0 cf) ∧ Hid (Below wr.heap.size wr w')) := by
        intro z w0 hz h0
        refine (free_any Unit _ _ _ _ z _ (HA3.out.later h0) (HT.out.below (HB3.out.trans (h0.mono HB3.out.size)) HTL.out)).mono ?_
        rw [hz]
        rintro e w' ⟨u, rfl, ho, hb⟩
        obtain ⟨af, cf, rfl⟩ := ho.form
        exact ⟨af, cf, rfl, h0.trans (hb.mono h0.size)⟩
      have HF1 : Hid (freeI L (-1) = []) := hf1
      have HF7 : Hid (freeI L 7 = []) := hf7
      clear hf1 hf7
      by_cases h1 : k < l.length
      case' pos =>
        have h1' : (k : Int) < (l.length : Int) := by omega
        have h2' : ¬ (k : Int) < 100 := by omega
      case' neg =>
        have h1' : ¬ (k : Int) < (l.length : Int) := by omega
      all_goals
        go_wp2_with (go_at_call 10; fail)
        refine (HFR.out (-1) _ HF1.out (Below.refl _ _)).mono ?_
        rintro e w8 ⟨af, cf, rfl, HB8⟩
        go_wp2_with (go_at_call 10; fail)
        refine (HFR.out 7 _ HF7.out HB8.out).mono ?_
        rintro e w9 ⟨ag, cg, rfl, HB9⟩
        go_wp2
        go_ret
        exact ⟨rfl, HB3.out.trans (HB9.out.mono HB3.out.size)⟩
end Go.Proofs.YtmmeapaakdaemaaDoor
