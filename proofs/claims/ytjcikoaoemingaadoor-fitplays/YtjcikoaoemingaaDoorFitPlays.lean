/- The walk of FitPlays: any lending, packing and giving back is as the document says it. -/
import Derived.Test.YtjcikoaoemingaaDoorRLend
import Derived.Test.YtjcikoaoemingaaDoorRPack
import Derived.Test.YtjcikoaoemingaaDoorRHoles
import Derived.Test.YtjcikoaoemingaaDoorRArB
import Derived.Test.YtjcikoaoemingaaDoorFitK
import Derived.Test.YtjcikoaoemingaaDoorFFact
import Derived.Test.YtjcikoaoemingaaDoorTold
namespace Go.Proofs.YtjcikoaoemingaaDoor
open Go.RowKit Go.Maps Go.Sort

theorem ar_form {w : World} {B : Nat} {va vo : Value} {L : List (Nat × Nat)} (h : IsAr w B (.agg #[va, vo]) L) : ∃ a1 c1 a2 c2, va = .slice a1 L.length c1 ∧ vo = .slice a2 L.length c2 := by
  obtain ⟨v1, v2, e, k1, k2⟩ := h
  simp only [Value.agg.injEq, Array.mk.injEq, List.cons.injEq, and_true] at e
  obtain ⟨rfl, rfl⟩ := e
  obtain ⟨a1, c1, hv1⟩ := k1.form
  obtain ⟨a2, c2, hv2⟩ := k2.form
  rw [atsI_length] at hv1
  rw [ordsI_length] at hv2
  exact ⟨a1, c1, a2, c2, hv1, hv2⟩
theorem ar_forms {w : World} {B : Nat} {v : Value} {L : List (Nat × Nat)} (h : IsAr w B v L) : ∃ a1 c1 a2 c2, v = .agg #[.slice a1 L.length c1, .slice a2 L.length c2] := by
  obtain ⟨v1, v2, rfl, _⟩ := id h
  obtain ⟨a1, c1, a2, c2, rfl, rfl⟩ := ar_form h
  exact ⟨a1, c1, a2, c2, rfl⟩
theorem FAr.far {w : World} {base a X : Nat} {L : List (Nat × Nat)} (h : FAr w base a L) {cur : Array Value} (hX : w.heap[X]? = some (.cells cur 37 (0, 0))) (v1 v2 : Value) : FAr ((w.setCell ⟨X, 0, none⟩ v1).setCell ⟨X, 1, none⟩ v2) base a L := by
  have ht : Turn X X w ((w.setCell ⟨X, 0, none⟩ v1).setCell ⟨X, 1, none⟩ v2) := (Turn.setCell w ⟨X, 0, none⟩ v1 rfl).trans (Turn.setCell _ ⟨X, 1, none⟩ v2 rfl)
  obtain ⟨v, h1, h2⟩ := h.row
  have hne : a ≠ X := by
    rintro rfl
    rw [h1] at hX
    simp at hX
  refine ⟨⟨v, (ht.block a h.lt hne hne).trans h1, own_turn h2 ht fun k hk => ?_⟩, h.laid, h.fromA⟩
  obtain ⟨_, _, c, hc⟩ := h2.kind hk
  have : k ≠ X := by
    rintro rfl
    rw [hX] at hc
    simp at hc
  exact ⟨this, this⟩
theorem Alt.ar {base a B : Nat} {w w1 : World} {v : Value} {M L : List (Nat × Nat)} (h : Alt base a w w1) (hi : IsAr w B v M) (hA : FAr w base a L) : IsAr w1 B v M := by
  obtain ⟨va, vo, e, h1, h2⟩ := hi
  obtain ⟨v0, hbx, _⟩ := hA.row
  exact ⟨va, vo, e, h.own h1 hbx (by decide), h.own h2 hbx (by decide)⟩

set_option maxRecDepth 100000 in
set_option maxHeartbeats 4000000 in
theorem fitPlays_any (v : Value) (l : List Int) (w : World) (hv : IsInts w v l) (hform : ∃ ao cap, v = .slice ao l.length cap) (hg : Handle w) :
    Calls Tryd.prog 4 #[v] w fun e w' => e = .returned (.bool true) ∧ Below w.heap.size w w' := by
  have HV : Hid (IsInts w v l) := hv
  have HG : Hid (Handle w) := hg
  obtain ⟨ao, cap, rfl⟩ := hform
  clear hv hg
  go_enter Tryd.func4, Tryd.ntmps4
  go_wp2_with (go_at_call 12; go_must (refine (newF_any _).mono ?_; rintro e w1 ⟨a, rfl, hA, hb⟩; have HA1 : Hid (FAr w1 w.heap.size a []) := hA; have HB1 : Hid (Below w.heap.size w w1) := hb; clear hA hb))
  have HX : Hid (w.heap.size ≤ w1.heap.size ∧ a ≠ w1.heap.size) := by
    have h1 := HA1.out.lt
    exact ⟨HB1.out.size, by omega⟩
  have HA2 : Hid (FAr (w1.alloc (.cells #[.slice none 0 0, .slice none 0 0] 37)) w.heap.size a []) := HA1.out.later ((Below.refl _ w1).alloc (Nat.le_refl _) _)
  have HB2 : Hid (Below w.heap.size w (w1.alloc (.cells #[.slice none 0 0, .slice none 0 0] 37))) := HB1.out.alloc HB1.out.size _
  have HC2 : Hid ((w1.alloc (.cells #[.slice none 0 0, .slice none 0 0] 37)).heap[w1.heap.size]? = some (.cells #[.slice none 0 0, .slice none 0 0] 37 (0, 0))) := heap_alloc_new w1 _
  clear HA1 HB1
  generalize w1.heap.size = X at *
  generalize w1.alloc (.cells #[.slice none 0 0, .slice none 0 0] 37) = w2 at *
  go_loopw [5] (fun i wr => ∃ (k : Nat) (L : List (Nat × Nat)) (va vo : Value), i = .int .i64 (k : Nat) ∧ k ≤ l.length ∧ k ≤ 100 ∧ FAr wr w.heap.size a L ∧ Below w.heap.size w wr ∧ wr.heap[X]? = some (.cells #[va, vo] 37 (0, 0)) ∧ IsAr wr w.heap.size (.agg #[va, vo]) L) (fun i _ => 100 - (RowKit.intOf i).toNat)
  case atStart => exact ⟨0, [], _, _, rfl, Nat.zero_le _, Nat.zero_le _, HA2.out, HB2.out, HC2.out, _, _, rfl, OwnI.nil _ _, OwnI.nil _ _⟩
  case round =>
    obtain ⟨k, L, va, vo, rfl, hkl, hk1, hA, hb, hC, hI⟩ := hrel
    have HA3 : Hid (FAr wr w.heap.size a L) := hA
    have HB3 : Hid (Below w.heap.size w wr) := hb
    have HC3 : Hid (wr.heap[X]? = some (.cells #[va, vo] 37 (0, 0))) := hC
    have HI3 : Hid (IsAr wr w.heap.size (.agg #[va, vo]) L) := hI
    obtain ⟨av, cv, bv, dv, rfl, rfl⟩ := ar_form hI
    clear hA hb hC hI HA2 HB2 HC2
    by_cases hlt : k < l.length ∧ k < 100
    · obtain ⟨h1, h2⟩ := hlt
      have h1' : (k : Int) < (l.length : Int) := by omega
      have h2' : (k : Int) < 100 := by omega
      rcases HV.out with ⟨rfl, _⟩ | ⟨g, off, cap', hv, hp, hlc, hm, hc⟩
      · simp at h1
      · simp only [Value.slice.injEq, true_and] at hv
        obtain ⟨rfl, rfl⟩ := hv
        have hck := hc k h1
        have hgl : g < w.heap.size := World.block_lt_of_cell? w _ hck
        have HCW : Hid (∀ W, Below w.heap.size w W → W.cell? ⟨g, off + k, none⟩ = some (.int .i64 (l[k]?.getD 0))) := fun W hW => (hW.cell (p := ⟨g, off + k, none⟩) hgl).trans hck
        have hcw := HCW.out _ HB3.out
        clear hc hck hgl HV
        generalize l[k]?.getD 0 = s at *
        obtain ⟨hx0, hx1, hxf0, hxf1⟩ := box_cells HC3.out
        rcases (by omega : 0 < s ∨ s = 0 ∨ s < 0) with hs | hs | hs
        · have hpp : ∀ x : Nat, ((x : Int) != (x : Int)) = false := fun x => by simp
          obtain ⟨p, n, M, hq⟩ : ∃ p n M, lendG L s = (p, n, M) := ⟨_, _, _, rfl⟩
          have hpn := hpp p
          clear hpp
          have HLD : Hid (∀ W, Hid (Below wr.heap.size wr W) → Calls Tryd.prog 13 #[.agg #[.slice av L.length cv, .slice bv L.length dv], .int .i64 s] W fun e w' => ∃ a1 c1 a2 c2, e = .returned (.tuple #[.agg #[.slice a1 M.length c1, .slice a2 M.length c2], .int .i64 (p : Nat), .int .i64 (n : Nat)]) ∧ Hid (IsAr w' w.heap.size (.agg #[.slice a1 M.length c1, .slice a2 M.length c2]) M) ∧ Hid (Below wr.heap.size wr w') ∧ Hid (Below W.heap.size W w')) := fun W hW => by
            have h := rlendG_any L HA3.out.laid _ _ s W (Nat.le_trans HB3.out.size hW.out.size) (HI3.out.later hW.out)
            rw [hq] at h
            refine h.mono ?_
            rintro e w' ⟨u, rfl, hu, hb⟩
            obtain ⟨a1, c1, a2, c2, rfl⟩ := ar_forms hu
            exact ⟨a1, c1, a2, c2, rfl, hu, hW.out.trans (hb.mono hW.out.size), hb⟩
          have HLE : Hid (∀ W, FAr W w.heap.size a L → Calls Tryd.prog 9 #[.pointer (some ⟨a, 0, none⟩), .int .i64 s] W fun e w' => e = .returned (.tuple #[.int .i64 (p : Nat), errV n]) ∧ FAr w' w.heap.size a M ∧ Alt w.heap.size a W w') := fun W hA => by
            have h := lendF_any w.heap.size a L s W (by have := hA.fromA; have := hA.lt; omega) hA
            rw [hq] at h
            exact h
          have HER : Hid (∀ W, Below w.heap.size w W → Calls Tryd.prog 11 #[errV n, .int .i64 (n : Nat)] W fun e w' => e = .returned (.bool true) ∧ Below W.heap.size W w') := fun W hW => error_same n W (HG.out.below hW)
          generalize errV n = ve at *
          have hdr : Hid (Below wr.heap.size wr wr.drew) := (Below.refl _ _).drew
          have hdra : Hid (Below wr.heap.size wr (wr.drew.alloc (.cells #[.slice none 0 0, .slice none 0 0] 37))) := hdr.out.alloc (Nat.le_refl _) _
          have hcwa : (wr.alloc (.cells #[.slice none 0 0, .slice none 0 0] 37)).cell? ⟨g, off + k, none⟩ = some (.int .i64 s) := Lib.cell?_alloc_some _ hcw
          have hx0a : (wr.alloc (.cells #[.slice none 0 0, .slice none 0 0] 37)).cell? ⟨X, 0, none⟩ = some (.slice av L.length cv) := Lib.cell?_alloc_some _ hx0
          have hx1a : (wr.alloc (.cells #[.slice none 0 0, .slice none 0 0] 37)).cell? ⟨X, 1, none⟩ = some (.slice bv L.length dv) := Lib.cell?_alloc_some _ hx1
          have HQ : Hid (lendG L s = (p, n, M)) := hq
          clear hq
          go_wp2
          rename_i K2 hK2 K1 hK1 K0 hK0
          have HK : ∀ (t6 t7 t8 t9 t10 t11 t12 t13 t14 t15 t16 t17 t18 t22 t23 t24 t25 t26 t27 t28 t29 t30 t31 t32 t33 t34 t35 t36 t37 t38 t39 t40 t41 t42 t43 t44 t45 t46 t47 t48 t49 t50 t51 t52 t53 t54 t55 t56 t57 t58 t59 t60 t61 t62 t63 t64 t65 t66 t67 t68 t69 t70 t71 t72 t73 t74 t75 t76 t77 t78 t79 t80 t81 t82 t83 t84 t85 t86 t87 t88 t89 t90 t91 t92 t93 t94 t95 t96 t97 t98 t99 t100 t101 t102 t103 t104 t105 t106 t107 t108 t109 t110 t111 t112 t113 t114 t115 t116 t117 t118 t119 t120 t121 t122 t123 t124 t125 t126 t127 t128 t129 t130 t131 t132 t133 t134 t135 t136 t137 t138 : Value) (W : World) (a1 : Option Addr) (c1 : Nat) (a2 : Option Addr) (c2 : Nat), Hid (FAr W w.heap.size a M) → Hid (Below w.heap.size w W) → Hid (W.heap[X]? = some (.cells #[.slice a1 M.length c1, .slice a2 M.length c2] 37 (0, 0))) → Hid (IsAr W w.heap.size (.agg #[.slice a1 M.length c1, .slice a2 M.length c2]) M) → K1 { tmps := #[.slice (some ⟨g, off, none⟩) l.length cap, undef, u2, .pointer (some ⟨a, 0, none⟩), .pointer (some ⟨X, 0, none⟩), .int .i64 (k : Nat), t6, t7, t8, t9, t10, t11, t12, t13, t14, t15, t16, t17, t18, undef, undef, .pointer (some ⟨a, 0, none⟩), t22, t23, t24, t25, t26, t27, t28, t29, t30, t31, t32, t33, t34, t35, t36, t37, t38, t39, t40, t41, t42, t43, t44, t45, t46, t47, t48, t49, t50, t51, t52, t53, t54, t55, t56, t57, t58, t59, t60, t61, t62, t63, t64, t65, t66, t67, t68, t69, t70, t71, t72, t73, t74, t75, t76, t77, t78, t79, t80, t81, t82, t83, t84, t85, t86, t87, t88, t89, t90, t91, t92, t93, t94, t95, t96, t97, t98, t99, t100, t101, t102, t103, t104, t105, t106, t107, t108, t109, t110, t111, t112, t113, t114, t115, t116, t117, t118, t119, t120, t121, t122, t123, t124, t125, t126, t127, t128, t129, t130, t131, t132, t133, t134, t135, t136, t137, t138, undef, undef, undef, undef, undef, undef, undef], defers := [] } W := by
            intro t6 t7 t8 t9 t10 t11 t12 t13 t14 t15 t16 t17 t18 t22 t23 t24 t25 t26 t27 t28 t29 t30 t31 t32 t33 t34 t35 t36 t37 t38 t39 t40 t41 t42 t43 t44 t45 t46 t47 t48 t49 t50 t51 t52 t53 t54 t55 t56 t57 t58 t59 t60 t61 t62 t63 t64 t65 t66 t67 t68 t69 t70 t71 t72 t73 t74 t75 t76 t77 t78 t79 t80 t81 t82 t83 t84 t85 t86 t87 t88 t89 t90 t91 t92 t93 t94 t95 t96 t97 t98 t99 t100 t101 t102 t103 t104 t105 t106 t107 t108 t109 t110 t111 t112 t113 t114 t115 t116 t117 t118 t119 t120 t121 t122 t123 t124 t125 t126 t127 t128 t129 t130 t131 t132 t133 t134 t135 t136 t137 t138 w4 a1 c1 a2 c2 HA4 HB4 HC4 HI4
            clear hcw hx0 hx1 hxf0 hxf1 HLD HLE HER hcwa hx0a hx1a hdr hdra hK0 HQ HA3 HB3 HC3 HI3
            refine hK1 _ _ ?_
            have HLM : Hid (LaidF 0 M) := HA4.out.laid
            go_wp2_with (go_at_call 19; fail)
            refine (lentF_any _ _ _ _ HA4.out).mono ?_
            rintro e w5 ⟨v1, v2, rfl, ho1, ho2, hb⟩
            have HAT5 : Hid (IsInts w5 v1 (atsI M)) := ho1.isInts
            have HOR5 : Hid (IsInts w5 v2 (ordsI M)) := ho2.isInts
            have HA5 : Hid (FAr w5 w.heap.size a M) := HA4.out.later hb
            have HB5 : Hid (Below w.heap.size w w5) := HB4.out.trans (hb.mono HB4.out.size)
            have HC5 : Hid (w5.heap[X]? = some (.cells #[.slice a1 M.length c1, .slice a2 M.length c2] 37 (0, 0))) := (hb.block X (Array.getElem?_eq_some_iff.1 HC4.out).1).trans HC4.out
            have HI5 : Hid (IsAr w5 w.heap.size (.agg #[.slice a1 M.length c1, .slice a2 M.length c2]) M) := HI4.out.later hb
            clear HA4 HB4 HC4 HI4
            clear ho1 ho2 hb
            obtain ⟨hx0, hx1, _, _⟩ := box_cells HC5.out
            go_wp2_with (go_at_call 20; fail)
            refine (rholes_any M HLM.out _ _ _ HI5.out).mono ?_
            rintro e w6 ⟨v3, v4, rfl, ho3, ho4, hb⟩
            have HAT6 : Hid (IsInts w6 v1 (atsI M)) := HAT5.out.below hb
            have HOR6 : Hid (IsInts w6 v2 (ordsI M)) := HOR5.out.below hb
            have HD6 : Hid (IsInts w6 v3 (atsI (holes 0 M))) := ho3.isInts
            have HE6 : Hid (IsInts w6 v4 (ordsI (holes 0 M))) := ho4.isInts
            have HA6 : Hid (FAr w6 w.heap.size a M) := HA5.out.later hb
            have HB6 : Hid (Below w.heap.size w w6) := HB5.out.trans (hb.mono HB5.out.size)
            have HC6 : Hid (w6.heap[X]? = some (.cells #[.slice a1 M.length c1, .slice a2 M.length c2] 37 (0, 0))) := (hb.block X (Array.getElem?_eq_some_iff.1 HC5.out).1).trans HC5.out
            have HI6 : Hid (IsAr w6 w.heap.size (.agg #[.slice a1 M.length c1, .slice a2 M.length c2]) M) := HI5.out.later hb
            clear HA5 HB5 HC5 HI5
            clear ho3 ho4 hb hx0 hx1 HAT5 HOR5
            go_wp2_with (go_at_call 8; fail)
            refine (holesF_any _ _ _ _ HA6.out).mono ?_
            rintro e w7 ⟨v5, v6, rfl, ho5, ho6, hb⟩
            have HAT7 : Hid (IsInts w7 v1 (atsI M)) := HAT6.out.below hb
            have HOR7 : Hid (IsInts w7 v2 (ordsI M)) := HOR6.out.below hb
            have HD7 : Hid (IsInts w7 v3 (atsI (holes 0 M))) := HD6.out.below hb
            have HE7 : Hid (IsInts w7 v4 (ordsI (holes 0 M))) := HE6.out.below hb
            have HF7 : Hid (IsInts w7 v5 (atsI (holes 0 M))) := ho5.isInts
            have HG7 : Hid (IsInts w7 v6 (ordsI (holes 0 M))) := ho6.isInts
            have HA7 : Hid (FAr w7 w.heap.size a M) := HA6.out.later hb
            have HB7 : Hid (Below w.heap.size w w7) := HB6.out.trans (hb.mono HB6.out.size)
            have HC7 : Hid (w7.heap[X]? = some (.cells #[.slice a1 M.length c1, .slice a2 M.length c2] 37 (0, 0))) := (hb.block X (Array.getElem?_eq_some_iff.1 HC6.out).1).trans HC6.out
            have HI7 : Hid (IsAr w7 w.heap.size (.agg #[.slice a1 M.length c1, .slice a2 M.length c2]) M) := HI6.out.later hb
            clear HA6 HB6 HC6 HI6
            clear ho5 ho6 hb HAT6 HOR6 HD6 HE6
            obtain ⟨hx0, hx1, _, _⟩ := box_cells HC7.out
            obtain ⟨y1, y2, e12, k1, k2⟩ := id HI7.out
            simp only [Value.agg.injEq, Array.mk.injEq, List.cons.injEq, and_true] at e12
            obtain ⟨rfl, rfl⟩ := e12
            have HX7 : Hid (IsInts w7 (.slice a1 M.length c1) (atsI M)) := k1.isInts
            have HY7 : Hid (IsInts w7 (.slice a2 M.length c2) (ordsI M)) := k2.isInts
            clear k1 k2
            go_wp2_with (go_at_call 15; fail)
            refine (ints_same _ _ (atsI M) _ HAT7.out HX7.out).mono ?_
            rintro e w8 ⟨rfl, q8, hw8⟩
            have hb8 : Below w7.heap.size w7 w8 := by rw [hw8]; exact below_drewN (Below.refl _ w7) q8
            have HOR8 : Hid (IsInts w8 v2 (ordsI M)) := HOR7.out.below hb8
            have HY8 : Hid (IsInts w8 (.slice a2 M.length c2) (ordsI M)) := HY7.out.below hb8
            have HD8 : Hid (IsInts w8 v3 (atsI (holes 0 M))) := HD7.out.below hb8
            have HE8 : Hid (IsInts w8 v4 (ordsI (holes 0 M))) := HE7.out.below hb8
            have HF8 : Hid (IsInts w8 v5 (atsI (holes 0 M))) := HF7.out.below hb8
            have HG8 : Hid (IsInts w8 v6 (ordsI (holes 0 M))) := HG7.out.below hb8
            have HA8 : Hid (FAr w8 w.heap.size a M) := HA7.out.later hb8
            have HB8 : Hid (Below w.heap.size w w8) := HB7.out.trans (hb8.mono HB7.out.size)
            have HC8 : Hid (w8.heap[X]? = some (.cells #[.slice a1 M.length c1, .slice a2 M.length c2] 37 (0, 0))) := (hb8.block X (Array.getElem?_eq_some_iff.1 HC7.out).1).trans HC7.out
            have HI8 : Hid (IsAr w8 w.heap.size (.agg #[.slice a1 M.length c1, .slice a2 M.length c2]) M) := HI7.out.later hb8
            clear HA7 HB7 HC7 HI7
            clear hw8 hb8 hx0 hx1 HAT7 HOR7 HX7 HY7 HD7 HE7 HF7 HG7
            obtain ⟨hx0, hx1, _, _⟩ := box_cells HC8.out
            go_wp2_with (go_at_call 15; fail)
            refine (ints_same _ _ (ordsI M) _ HOR8.out HY8.out).mono ?_
            rintro e w9 ⟨rfl, q9, hw9⟩
            have hb9 : Below w8.heap.size w8 w9 := by rw [hw9]; exact below_drewN (Below.refl _ w8) q9
            have HD9 : Hid (IsInts w9 v3 (atsI (holes 0 M))) := HD8.out.below hb9
            have HE9 : Hid (IsInts w9 v4 (ordsI (holes 0 M))) := HE8.out.below hb9
            have HF9 : Hid (IsInts w9 v5 (atsI (holes 0 M))) := HF8.out.below hb9
            have HG9 : Hid (IsInts w9 v6 (ordsI (holes 0 M))) := HG8.out.below hb9
            have HA9 : Hid (FAr w9 w.heap.size a M) := HA8.out.later hb9
            have HB9 : Hid (Below w.heap.size w w9) := HB8.out.trans (hb9.mono HB8.out.size)
            have HC9 : Hid (w9.heap[X]? = some (.cells #[.slice a1 M.length c1, .slice a2 M.length c2] 37 (0, 0))) := (hb9.block X (Array.getElem?_eq_some_iff.1 HC8.out).1).trans HC8.out
            have HI9 : Hid (IsAr w9 w.heap.size (.agg #[.slice a1 M.length c1, .slice a2 M.length c2]) M) := HI8.out.later hb9
            clear HA8 HB8 HC8 HI8
            clear hw9 hb9 hx0 hx1 HOR8 HY8 HD8 HE8 HF8 HG8
            go_wp2_with (go_at_call 15; fail)
            refine (ints_same _ _ (atsI (holes 0 M)) _ HF9.out HD9.out).mono ?_
            rintro e w10 ⟨rfl, q10, hw10⟩
            have hb10 : Below w9.heap.size w9 w10 := by rw [hw10]; exact below_drewN (Below.refl _ w9) q10
            have HE10 : Hid (IsInts w10 v4 (ordsI (holes 0 M))) := HE9.out.below hb10
            have HG10 : Hid (IsInts w10 v6 (ordsI (holes 0 M))) := HG9.out.below hb10
            have HA10 : Hid (FAr w10 w.heap.size a M) := HA9.out.later hb10
            have HB10 : Hid (Below w.heap.size w w10) := HB9.out.trans (hb10.mono HB9.out.size)
            have HC10 : Hid (w10.heap[X]? = some (.cells #[.slice a1 M.length c1, .slice a2 M.length c2] 37 (0, 0))) := (hb10.block X (Array.getElem?_eq_some_iff.1 HC9.out).1).trans HC9.out
            have HI10 : Hid (IsAr w10 w.heap.size (.agg #[.slice a1 M.length c1, .slice a2 M.length c2]) M) := HI9.out.later hb10
            clear HA9 HB9 HC9 HI9
            clear hw10 hb10 HD9 HE9 HF9 HG9
            go_wp2_with (go_at_call 15; fail)
            refine (ints_same _ _ (ordsI (holes 0 M)) _ HG10.out HE10.out).mono ?_
            rintro e w11 ⟨rfl, q11, hw11⟩
            have hb11 : Below w10.heap.size w10 w11 := by rw [hw11]; exact below_drewN (Below.refl _ w10) q11
            have HA11 : Hid (FAr w11 w.heap.size a M) := HA10.out.later hb11
            have HB11 : Hid (Below w.heap.size w w11) := HB10.out.trans (hb11.mono HB10.out.size)
            have HC11 : Hid (w11.heap[X]? = some (.cells #[.slice a1 M.length c1, .slice a2 M.length c2] 37 (0, 0))) := (hb11.block X (Array.getElem?_eq_some_iff.1 HC10.out).1).trans HC10.out
            have HI11 : Hid (IsAr w11 w.heap.size (.agg #[.slice a1 M.length c1, .slice a2 M.length c2]) M) := HI10.out.later hb11
            clear HA10 HB10 HC10 HI10
            clear hw11 hb11 HE10 HG10
            go_wp2
            go_roundw
            case rel => exact ⟨k + 1, M, _, _, by go_num, by omega, by omega, HA11.out, HB11.out, HC11.out, HI11.out⟩
            case measure => simp [RowKit.intOf]; omega
          clear hK1
          go_region_law (refine step_call rfl 13 _ _ rfl #[.agg #[.slice av L.length cv, .slice bv L.length dv], .int .i64 s] (by first | rfl | (simp [Act.eval]; done) | simp [Act.eval, Act.put]) (enters_of Tryd.func13 (by kernel_rfl) rfl _) (HLD.out _ (by first | exact hdr | exact hdra)) ?_; rintro e W5 ⟨a1, c1, a2, c2, rfl, HR, HBW, HBN⟩; refine ⟨_, rfl, ?_⟩; (try (have hN := (HBN.out.block wr.heap.size (by simp)).trans (heap_alloc_new wr.drew _); have HN : Hid _ := hN; obtain ⟨hn0, hn1, hnf0, hnf1⟩ := box_cells HN.out)))
          all_goals
            first
              | (have HY := ar_end (w := wr) (g := wr.heap.size) (Nat.le_refl _) HN.out (by decide) HR.out HBW.out
                 have HZ := two_set (.slice a1 M.length c1) (.slice a2 M.length c2) HN.out
                 generalize (W5.setCell ⟨wr.heap.size, 0, none⟩ (.slice a1 M.length c1)).setCell ⟨wr.heap.size, 1, none⟩ (.slice a2 M.length c2) = w6 at *
                 clear hn0 hn1 hnf0 hnf1
                 have HY : Hid _ := HY
                 have HZ : Hid _ := HZ)
              | (have hy : IsAr (W5.alloc (.cells #[.slice a1 M.length c1, .slice a2 M.length c2] 37)) w.heap.size (.agg #[.slice a1 M.length c1, .slice a2 M.length c2]) M ∧ Below wr.heap.size wr (W5.alloc (.cells #[.slice a1 M.length c1, .slice a2 M.length c2] 37)) := ⟨HR.out.later ((Below.refl _ W5).alloc (Nat.le_refl _) _), HBW.out.alloc HBW.out.size _⟩
                 have hz := heap_alloc_new W5 (.cells #[.slice a1 M.length c1, .slice a2 M.length c2] 37)
                 generalize W5.alloc (.cells #[.slice a1 M.length c1, .slice a2 M.length c2] 37) = w6 at *
                 have HY : Hid _ := hy
                 have HZ : Hid _ := hz
                 clear hy hz)
            obtain ⟨hy0, hy1, _, _⟩ := box_cells HZ.out
            have HXC : Hid (w6.heap[X]? = some (.cells #[.slice av L.length cv, .slice bv L.length dv] 37 (0, 0))) := (HY.out.2.block X (Array.getElem?_eq_some_iff.1 HC3.out).1).trans HC3.out
            clear hx0 hx1 hxf0 hxf1 hcwa hx0a hx1a
            obtain ⟨hx0, hx1, hxf0, hxf1⟩ := box_cells HXC.out
            have HB6 : Below w.heap.size w w6 := HB3.out.trans (HY.out.2.mono HB3.out.size)
            have HE := ar_end (w := w) (g := X) HX.out.1 HXC.out (by decide) HY.out.1 HB6
            have HC4 := two_set (.slice a1 M.length c1) (.slice a2 M.length c2) HXC.out
            have HA4 := (HA3.out.later HY.out.2).far HXC.out (.slice a1 M.length c1) (.slice a2 M.length c2)
            have HE : Hid _ := HE
            have HC4 : Hid _ := HC4
            have HA4 : Hid _ := HA4
            have hcw7 := HCW.out _ HE.out.2
            go_wp2_with (go_at_call 9; fail)
            generalize (w6.setCell ⟨X, 0, none⟩ (.slice a1 M.length c1)).setCell ⟨X, 1, none⟩ (.slice a2 M.length c2) = w7 at *
            clear HY HZ HXC HB6 HR HBW HBN hy0 hy1 hx0 hx1 hxf0 hxf1 HLD hdr hdra
            refine (HLE.out _ HA4.out).mono ?_
            rintro e w8 ⟨rfl, hA, ht⟩
            have HA8 : Hid (FAr w8 w.heap.size a M) := hA
            have HB8 : Hid (Below w.heap.size w w8) := ht.below HE.out.2 HE.out.2.size (Nat.le_refl _) hA.fromA
            have HC8 : Hid (w8.heap[X]? = some (.cells #[.slice a1 M.length c1, .slice a2 M.length c2] 37 (0, 0))) := ht.box HC4.out (by decide) (Ne.symm HX.out.2)
            have HI8 : Hid (IsAr w8 w.heap.size (.agg #[.slice a1 M.length c1, .slice a2 M.length c2]) M) := ht.ar HE.out.1 HA4.out
            clear hA ht HA4 HC4 HE HLE hcw7
            go_wp2_with (go_at_call 11; fail)
            refine (HER.out _ HB8.out).mono ?_
            rintro e w9 ⟨rfl, hb⟩
            have HA9 : Hid (FAr w9 w.heap.size a M) := HA8.out.later hb
            have HB9 : Hid (Below w.heap.size w w9) := HB8.out.trans (hb.mono HB8.out.size)
            have HC9 : Hid (w9.heap[X]? = some (.cells #[.slice a1 M.length c1, .slice a2 M.length c2] 37 (0, 0))) := (hb.block X (Array.getElem?_eq_some_iff.1 HC8.out).1).trans HC8.out
            have HI9 : Hid (IsAr w9 w.heap.size (.agg #[.slice a1 M.length c1, .slice a2 M.length c2]) M) := HI8.out.later hb
            clear HA8 HB8 HC8 HI8
            clear hb HER
            go_wp2
            exact HK _ _ _ _ _ _ _ _ _ _ _ _ _ _ _ _ _ _ _ _ _ _ _ _ _ _ _ _ _ _ _ _ _ _ _ _ _ _ _ _ _ _ _ _ _ _ _ _ _ _ _ _ _ _ _ _ _ _ _ _ _ _ _ _ _ _ _ _ _ _ _ _ _ _ _ _ _ _ _ _ _ _ _ _ _ _ _ _ _ _ _ _ _ _ _ _ _ _ _ _ _ _ _ _ _ _ _ _ _ _ _ _ _ _ _ _ _ _ _ _ _ _ _ _ _ _ _ _ _ _ w9 a1 c1 a2 c2 HA9 HB9 HC9 HI9
        · subst hs
          obtain ⟨M, hM⟩ : ∃ M, packF 0 L = M := ⟨_, rfl⟩
          have HLD : Hid (Calls Tryd.prog 14 #[.agg #[.slice av L.length cv, .slice bv L.length dv]] wr fun e w' => ∃ a1 c1 a2 c2, e = .returned (.agg #[.slice a1 M.length c1, .slice a2 M.length c2]) ∧ Hid (IsAr w' w.heap.size (.agg #[.slice a1 M.length c1, .slice a2 M.length c2]) M) ∧ Hid (Below wr.heap.size wr w')) := by
            have h := rpack_any L HA3.out.laid _ _ wr HI3.out
            rw [hM] at h
            refine h.mono ?_
            rintro e w' ⟨u, rfl, hu, hb⟩
            obtain ⟨a1, c1, a2, c2, rfl⟩ := ar_forms hu
            exact ⟨a1, c1, a2, c2, rfl, hu.mono HB3.out.size, hb⟩
          have HLE : Hid (∀ W, FAr W w.heap.size a L → Calls Tryd.prog 16 #[.pointer (some ⟨a, 0, none⟩)] W fun e w' => ∃ v1, e = .returned v1 ∧ OwnI w' W.heap.size v1 (atsI M) ∧ FAr w' w.heap.size a M ∧ Alt w.heap.size a W w') := fun W hA => by
            have h := packF_any w.heap.size a L W hA
            rw [hM] at h
            exact h
          clear hM
          go_wp2_with (go_at_call 14; fail)
          refine Calls.mono HLD.out ?_
          rintro e W5 ⟨a1, c1, a2, c2, rfl, HR, HBW⟩
          have HXC : Hid (W5.heap[X]? = some (.cells #[.slice av L.length cv, .slice bv L.length dv] 37 (0, 0))) := (HBW.out.block X (Array.getElem?_eq_some_iff.1 HC3.out).1).trans HC3.out
          clear hx0 hx1 hxf0 hxf1 HLD
          obtain ⟨hx0, hx1, hxf0, hxf1⟩ := box_cells HXC.out
          have HB6 : Below w.heap.size w W5 := HB3.out.trans (HBW.out.mono HB3.out.size)
          have he0 := ar_end (w := w) (g := X) HX.out.1 HXC.out (by decide) HR.out HB6
          have hc6 := two_set (.slice a1 M.length c1) (.slice a2 M.length c2) HXC.out
          have ha6 := (HA3.out.later HBW.out).far HXC.out (.slice a1 M.length c1) (.slice a2 M.length c2)
          have HE : Hid _ := he0
          have HC6 : Hid _ := hc6
          have HA6 : Hid _ := ha6
          clear he0 hc6 ha6
          go_wp2
          rename_i K2 hK2 K1 hK1 K0 hK0
          generalize (W5.setCell ⟨X, 0, none⟩ (.slice a1 M.length c1)).setCell ⟨X, 1, none⟩ (.slice a2 M.length c2) = w6 at *
          clear hx0 hx1 hxf0 hxf1 HXC HB6 HR HBW hcw
          have HK : ∀ (t6 t7 t8 t9 t10 t11 t12 t13 t14 t15 t16 t17 t18 t22 t23 t24 t25 t26 t27 t28 t29 t30 t31 t32 t33 t34 t35 t36 t37 t38 t39 t40 t41 t42 t43 t44 t45 t46 t47 t48 t49 t50 t51 t52 t53 t54 t55 t56 t57 t58 t59 t60 t61 t62 t63 t64 t65 t66 t67 t68 t69 t70 t71 t72 t73 t74 t75 t76 t77 t78 t79 t80 t81 t82 t83 t84 t85 t86 t87 t88 t89 t90 t91 t92 t93 t94 t95 t96 t97 t98 t99 t100 t101 t102 t103 t104 t105 t106 t107 t108 t109 t110 t111 t112 t113 t114 t115 t116 t117 t118 t119 t120 t121 t122 t123 t124 t125 t126 t127 t128 t129 t130 t131 t132 t133 t134 t135 t136 t137 t138 : Value) (W : World) (a1 : Option Addr) (c1 : Nat) (a2 : Option Addr) (c2 : Nat), Hid (FAr W w.heap.size a M) → Hid (Below w.heap.size w W) → Hid (W.heap[X]? = some (.cells #[.slice a1 M.length c1, .slice a2 M.length c2] 37 (0, 0))) → Hid (IsAr W w.heap.size (.agg #[.slice a1 M.length c1, .slice a2 M.length c2]) M) → K1 { tmps := #[.slice (some ⟨g, off, none⟩) l.length cap, undef, u2, .pointer (some ⟨a, 0, none⟩), .pointer (some ⟨X, 0, none⟩), .int .i64 (k : Nat), t6, t7, t8, t9, t10, t11, t12, t13, t14, t15, t16, t17, t18, undef, undef, .pointer (some ⟨a, 0, none⟩), t22, t23, t24, t25, t26, t27, t28, t29, t30, t31, t32, t33, t34, t35, t36, t37, t38, t39, t40, t41, t42, t43, t44, t45, t46, t47, t48, t49, t50, t51, t52, t53, t54, t55, t56, t57, t58, t59, t60, t61, t62, t63, t64, t65, t66, t67, t68, t69, t70, t71, t72, t73, t74, t75, t76, t77, t78, t79, t80, t81, t82, t83, t84, t85, t86, t87, t88, t89, t90, t91, t92, t93, t94, t95, t96, t97, t98, t99, t100, t101, t102, t103, t104, t105, t106, t107, t108, t109, t110, t111, t112, t113, t114, t115, t116, t117, t118, t119, t120, t121, t122, t123, t124, t125, t126, t127, t128, t129, t130, t131, t132, t133, t134, t135, t136, t137, t138, undef, undef, undef, undef, undef, undef, undef], defers := [] } W := by
            intro t6 t7 t8 t9 t10 t11 t12 t13 t14 t15 t16 t17 t18 t22 t23 t24 t25 t26 t27 t28 t29 t30 t31 t32 t33 t34 t35 t36 t37 t38 t39 t40 t41 t42 t43 t44 t45 t46 t47 t48 t49 t50 t51 t52 t53 t54 t55 t56 t57 t58 t59 t60 t61 t62 t63 t64 t65 t66 t67 t68 t69 t70 t71 t72 t73 t74 t75 t76 t77 t78 t79 t80 t81 t82 t83 t84 t85 t86 t87 t88 t89 t90 t91 t92 t93 t94 t95 t96 t97 t98 t99 t100 t101 t102 t103 t104 t105 t106 t107 t108 t109 t110 t111 t112 t113 t114 t115 t116 t117 t118 t119 t120 t121 t122 t123 t124 t125 t126 t127 t128 t129 t130 t131 t132 t133 t134 t135 t136 t137 t138 w4 a1 c1 a2 c2 HA4 HB4 HC4 HI4
            clear hK0 HLE HE HC6 HA6 HA3 HB3 HC3 HI3
            refine hK1 _ _ ?_
            have HLM : Hid (LaidF 0 M) := HA4.out.laid
            go_wp2_with (go_at_call 19; fail)
            refine (lentF_any _ _ _ _ HA4.out).mono ?_
            rintro e w5 ⟨v1, v2, rfl, ho1, ho2, hb⟩
            have HAT5 : Hid (IsInts w5 v1 (atsI M)) := ho1.isInts
            have HOR5 : Hid (IsInts w5 v2 (ordsI M)) := ho2.isInts
            have HA5 : Hid (FAr w5 w.heap.size a M) := HA4.out.later hb
            have HB5 : Hid (Below w.heap.size w w5) := HB4.out.trans (hb.mono HB4.out.size)
            have HC5 : Hid (w5.heap[X]? = some (.cells #[.slice a1 M.length c1, .slice a2 M.length c2] 37 (0, 0))) := (hb.block X (Array.getElem?_eq_some_iff.1 HC4.out).1).trans HC4.out
            have HI5 : Hid (IsAr w5 w.heap.size (.agg #[.slice a1 M.length c1, .slice a2 M.length c2]) M) := HI4.out.later hb
            clear HA4 HB4 HC4 HI4
            clear ho1 ho2 hb
            obtain ⟨hx0, hx1, _, _⟩ := box_cells HC5.out
            go_wp2_with (go_at_call 20; fail)
            refine (rholes_any M HLM.out _ _ _ HI5.out).mono ?_
            rintro e w6 ⟨v3, v4, rfl, ho3, ho4, hb⟩
            have HAT6 : Hid (IsInts w6 v1 (atsI M)) := HAT5.out.below hb
            have HOR6 : Hid (IsInts w6 v2 (ordsI M)) := HOR5.out.below hb
            have HD6 : Hid (IsInts w6 v3 (atsI (holes 0 M))) := ho3.isInts
            have HE6 : Hid (IsInts w6 v4 (ordsI (holes 0 M))) := ho4.isInts
            have HA6 : Hid (FAr w6 w.heap.size a M) := HA5.out.later hb
            have HB6 : Hid (Below w.heap.size w w6) := HB5.out.trans (hb.mono HB5.out.size)
            have HC6 : Hid (w6.heap[X]? = some (.cells #[.slice a1 M.length c1, .slice a2 M.length c2] 37 (0, 0))) := (hb.block X (Array.getElem?_eq_some_iff.1 HC5.out).1).trans HC5.out
            have HI6 : Hid (IsAr w6 w.heap.size (.agg #[.slice a1 M.length c1, .slice a2 M.length c2]) M) := HI5.out.later hb
            clear HA5 HB5 HC5 HI5
            clear ho3 ho4 hb hx0 hx1 HAT5 HOR5
            go_wp2_with (go_at_call 8; fail)
            refine (holesF_any _ _ _ _ HA6.out).mono ?_
            rintro e w7 ⟨v5, v6, rfl, ho5, ho6, hb⟩
            have HAT7 : Hid (IsInts w7 v1 (atsI M)) := HAT6.out.below hb
            have HOR7 : Hid (IsInts w7 v2 (ordsI M)) := HOR6.out.below hb
            have HD7 : Hid (IsInts w7 v3 (atsI (holes 0 M))) := HD6.out.below hb
            have HE7 : Hid (IsInts w7 v4 (ordsI (holes 0 M))) := HE6.out.below hb
            have HF7 : Hid (IsInts w7 v5 (atsI (holes 0 M))) := ho5.isInts
            have HG7 : Hid (IsInts w7 v6 (ordsI (holes 0 M))) := ho6.isInts
            have HA7 : Hid (FAr w7 w.heap.size a M) := HA6.out.later hb
            have HB7 : Hid (Below w.heap.size w w7) := HB6.out.trans (hb.mono HB6.out.size)
            have HC7 : Hid (w7.heap[X]? = some (.cells #[.slice a1 M.length c1, .slice a2 M.length c2] 37 (0, 0))) := (hb.block X (Array.getElem?_eq_some_iff.1 HC6.out).1).trans HC6.out
            have HI7 : Hid (IsAr w7 w.heap.size (.agg #[.slice a1 M.length c1, .slice a2 M.length c2]) M) := HI6.out.later hb
            clear HA6 HB6 HC6 HI6
            clear ho5 ho6 hb HAT6 HOR6 HD6 HE6
            obtain ⟨hx0, hx1, _, _⟩ := box_cells HC7.out
            obtain ⟨y1, y2, e12, k1, k2⟩ := id HI7.out
            simp only [Value.agg.injEq, Array.mk.injEq, List.cons.injEq, and_true] at e12
            obtain ⟨rfl, rfl⟩ := e12
            have HX7 : Hid (IsInts w7 (.slice a1 M.length c1) (atsI M)) := k1.isInts
            have HY7 : Hid (IsInts w7 (.slice a2 M.length c2) (ordsI M)) := k2.isInts
            clear k1 k2
            go_wp2_with (go_at_call 15; fail)
            refine (ints_same _ _ (atsI M) _ HAT7.out HX7.out).mono ?_
            rintro e w8 ⟨rfl, q8, hw8⟩
            have hb8 : Below w7.heap.size w7 w8 := by rw [hw8]; exact below_drewN (Below.refl _ w7) q8
            have HOR8 : Hid (IsInts w8 v2 (ordsI M)) := HOR7.out.below hb8
            have HY8 : Hid (IsInts w8 (.slice a2 M.length c2) (ordsI M)) := HY7.out.below hb8
            have HD8 : Hid (IsInts w8 v3 (atsI (holes 0 M))) := HD7.out.below hb8
            have HE8 : Hid (IsInts w8 v4 (ordsI (holes 0 M))) := HE7.out.below hb8
            have HF8 : Hid (IsInts w8 v5 (atsI (holes 0 M))) := HF7.out.below hb8
            have HG8 : Hid (IsInts w8 v6 (ordsI (holes 0 M))) := HG7.out.below hb8
            have HA8 : Hid (FAr w8 w.heap.size a M) := HA7.out.later hb8
            have HB8 : Hid (Below w.heap.size w w8) := HB7.out.trans (hb8.mono HB7.out.size)
            have HC8 : Hid (w8.heap[X]? = some (.cells #[.slice a1 M.length c1, .slice a2 M.length c2] 37 (0, 0))) := (hb8.block X (Array.getElem?_eq_some_iff.1 HC7.out).1).trans HC7.out
            have HI8 : Hid (IsAr w8 w.heap.size (.agg #[.slice a1 M.length c1, .slice a2 M.length c2]) M) := HI7.out.later hb8
            clear HA7 HB7 HC7 HI7
            clear hw8 hb8 hx0 hx1 HAT7 HOR7 HX7 HY7 HD7 HE7 HF7 HG7
            obtain ⟨hx0, hx1, _, _⟩ := box_cells HC8.out
            go_wp2_with (go_at_call 15; fail)
            refine (ints_same _ _ (ordsI M) _ HOR8.out HY8.out).mono ?_
            rintro e w9 ⟨rfl, q9, hw9⟩
            have hb9 : Below w8.heap.size w8 w9 := by rw [hw9]; exact below_drewN (Below.refl _ w8) q9
            have HD9 : Hid (IsInts w9 v3 (atsI (holes 0 M))) := HD8.out.below hb9
            have HE9 : Hid (IsInts w9 v4 (ordsI (holes 0 M))) := HE8.out.below hb9
            have HF9 : Hid (IsInts w9 v5 (atsI (holes 0 M))) := HF8.out.below hb9
            have HG9 : Hid (IsInts w9 v6 (ordsI (holes 0 M))) := HG8.out.below hb9
            have HA9 : Hid (FAr w9 w.heap.size a M) := HA8.out.later hb9
            have HB9 : Hid (Below w.heap.size w w9) := HB8.out.trans (hb9.mono HB8.out.size)
            have HC9 : Hid (w9.heap[X]? = some (.cells #[.slice a1 M.length c1, .slice a2 M.length c2] 37 (0, 0))) := (hb9.block X (Array.getElem?_eq_some_iff.1 HC8.out).1).trans HC8.out
            have HI9 : Hid (IsAr w9 w.heap.size (.agg #[.slice a1 M.length c1, .slice a2 M.length c2]) M) := HI8.out.later hb9
            clear HA8 HB8 HC8 HI8
            clear hw9 hb9 hx0 hx1 HOR8 HY8 HD8 HE8 HF8 HG8
            go_wp2_with (go_at_call 15; fail)
            refine (ints_same _ _ (atsI (holes 0 M)) _ HF9.out HD9.out).mono ?_
            rintro e w10 ⟨rfl, q10, hw10⟩
            have hb10 : Below w9.heap.size w9 w10 := by rw [hw10]; exact below_drewN (Below.refl _ w9) q10
            have HE10 : Hid (IsInts w10 v4 (ordsI (holes 0 M))) := HE9.out.below hb10
            have HG10 : Hid (IsInts w10 v6 (ordsI (holes 0 M))) := HG9.out.below hb10
            have HA10 : Hid (FAr w10 w.heap.size a M) := HA9.out.later hb10
            have HB10 : Hid (Below w.heap.size w w10) := HB9.out.trans (hb10.mono HB9.out.size)
            have HC10 : Hid (w10.heap[X]? = some (.cells #[.slice a1 M.length c1, .slice a2 M.length c2] 37 (0, 0))) := (hb10.block X (Array.getElem?_eq_some_iff.1 HC9.out).1).trans HC9.out
            have HI10 : Hid (IsAr w10 w.heap.size (.agg #[.slice a1 M.length c1, .slice a2 M.length c2]) M) := HI9.out.later hb10
            clear HA9 HB9 HC9 HI9
            clear hw10 hb10 HD9 HE9 HF9 HG9
            go_wp2_with (go_at_call 15; fail)
            refine (ints_same _ _ (ordsI (holes 0 M)) _ HG10.out HE10.out).mono ?_
            rintro e w11 ⟨rfl, q11, hw11⟩
            have hb11 : Below w10.heap.size w10 w11 := by rw [hw11]; exact below_drewN (Below.refl _ w10) q11
            have HA11 : Hid (FAr w11 w.heap.size a M) := HA10.out.later hb11
            have HB11 : Hid (Below w.heap.size w w11) := HB10.out.trans (hb11.mono HB10.out.size)
            have HC11 : Hid (w11.heap[X]? = some (.cells #[.slice a1 M.length c1, .slice a2 M.length c2] 37 (0, 0))) := (hb11.block X (Array.getElem?_eq_some_iff.1 HC10.out).1).trans HC10.out
            have HI11 : Hid (IsAr w11 w.heap.size (.agg #[.slice a1 M.length c1, .slice a2 M.length c2]) M) := HI10.out.later hb11
            clear HA10 HB10 HC10 HI10
            clear hw11 hb11 HE10 HG10
            go_wp2
            go_roundw
            case rel => exact ⟨k + 1, M, _, _, by go_num, by omega, by omega, HA11.out, HB11.out, HC11.out, HI11.out⟩
            case measure => simp [RowKit.intOf]; omega
          clear hK1
          have HPK : Hid (∀ W, Hid (Below w6.heap.size w6 W) → Calls Tryd.prog 16 #[.pointer (some ⟨a, 0, none⟩)] W fun e w' => ∃ v1, e = .returned v1 ∧ Hid (IsInts w' v1 (atsI M)) ∧ Hid (FAr w' w.heap.size a M) ∧ Hid (Below w.heap.size w w') ∧ Hid (w'.heap[X]? = some (.cells #[.slice a1 M.length c1, .slice a2 M.length c2] 37 (0, 0))) ∧ Hid (IsAr w' w.heap.size (.agg #[.slice a1 M.length c1, .slice a2 M.length c2]) M)) := fun W hW => by
            have hA := HA6.out.later hW.out
            refine (HLE.out W hA).mono ?_
            rintro e w' ⟨v1, rfl, h1, h2, ht⟩
            have hC : W.heap[X]? = some (.cells #[.slice a1 M.length c1, .slice a2 M.length c2] 37 (0, 0)) := (hW.out.block X (Array.getElem?_eq_some_iff.1 HC6.out).1).trans HC6.out
            have hB : Below w.heap.size w W := HE.out.2.trans (hW.out.mono HE.out.2.size)
            exact ⟨v1, rfl, h1.isInts, h2, ht.below hB hB.size (Nat.le_refl _) h2.fromA, ht.box hC (by decide) (Ne.symm HX.out.2), ht.ar (HE.out.1.later hW.out) hA⟩
          have HIN : Hid (∀ (W : World) (v1 : Value), Hid (IsInts W v1 (atsI M)) → Hid (FAr W w.heap.size a M) → Hid (Below w.heap.size w W) → Hid (W.heap[X]? = some (.cells #[.slice a1 M.length c1, .slice a2 M.length c2] 37 (0, 0))) → Hid (IsAr W w.heap.size (.agg #[.slice a1 M.length c1, .slice a2 M.length c2]) M) → Calls Tryd.prog 15 #[v1, .slice a1 M.length c1] W fun e w' => e = .returned (.bool true) ∧ Hid (FAr w' w.heap.size a M) ∧ Hid (Below w.heap.size w w') ∧ Hid (w'.heap[X]? = some (.cells #[.slice a1 M.length c1, .slice a2 M.length c2] 37 (0, 0))) ∧ Hid (IsAr w' w.heap.size (.agg #[.slice a1 M.length c1, .slice a2 M.length c2]) M)) := fun W v1 h1 h2 h3 h4 h5 => by
            obtain ⟨y1, y2, e12, k1, k2⟩ := id h5.out
            simp only [Value.agg.injEq, Array.mk.injEq, List.cons.injEq, and_true] at e12
            obtain ⟨rfl, rfl⟩ := e12
            refine (ints_same _ _ (atsI M) W h1.out k1.isInts).mono ?_
            rintro e w' ⟨rfl, q, hw⟩
            have hb : Below W.heap.size W w' := by rw [hw]; exact below_drewN (Below.refl _ W) q
            exact ⟨rfl, h2.out.later hb, h3.out.trans (hb.mono h3.out.size), (hb.block X (Array.getElem?_eq_some_iff.1 h4.out).1).trans h4.out, h5.out.later hb⟩
          obtain ⟨hx0, hx1, _, _⟩ := box_cells HC6.out
          have HDR : Hid (Below w6.heap.size w6 w6.drew) := (Below.refl _ _).drew
          have hxd0 : w6.drew.cell? ⟨X, 0, none⟩ = some (.slice a1 M.length c1) := hx0
          go_region_law (first
            | (refine step_call rfl 16 _ _ rfl #[.pointer (some ⟨a, 0, none⟩)] (by first | rfl | (simp [Act.eval]; done) | simp [Act.eval, Act.put]) (enters_of Tryd.func16 (by kernel_rfl) rfl _) (HPK.out _ HDR) ?_; rintro e W7 ⟨v1, rfl, HU7, HA7, HB7, HC7, HI7⟩; refine ⟨_, rfl, ?_⟩; obtain ⟨hz0, hz1, _, _⟩ := box_cells HC7.out)
            | (refine step_call rfl 15 _ _ rfl #[v1, .slice a1 M.length c1] (by first | rfl | (simp [Act.eval]; done) | simp [Act.eval, Act.put]) (enters_of Tryd.func15 (by kernel_rfl) rfl _) (HIN.out _ _ HU7 HA7 HB7 HC7 HI7) ?_; rintro e W8 ⟨rfl, HA8, HB8, HC8, HI8⟩; refine ⟨_, rfl, ?_⟩))
          all_goals
            go_wp2
            exact HK _ _ _ _ _ _ _ _ _ _ _ _ _ _ _ _ _ _ _ _ _ _ _ _ _ _ _ _ _ _ _ _ _ _ _ _ _ _ _ _ _ _ _ _ _ _ _ _ _ _ _ _ _ _ _ _ _ _ _ _ _ _ _ _ _ _ _ _ _ _ _ _ _ _ _ _ _ _ _ _ _ _ _ _ _ _ _ _ _ _ _ _ _ _ _ _ _ _ _ _ _ _ _ _ _ _ _ _ _ _ _ _ _ _ _ _ _ _ _ _ _ _ _ _ _ _ _ _ _ _ W8 a1 c1 a2 c2 HA8 HB8 HC8 HI8
        · have hs1 : ¬ 0 < s := by omega
          have hs2 : (s == 0) = false := by simp; omega
          have hwz : IntKind.i64.wrap (-1 - s) = wrap64 (-1 - s) := by rw [IntKind.wrap_i64]; unfold wrap64; omega
          generalize wrap64 (-1 - s) = z at *
          obtain ⟨n, M, hq⟩ : ∃ n M, backF L z = (n, M) := ⟨_, _, rfl⟩
          have HLD : Hid (∀ W, Hid (Below wr.heap.size wr W) → Calls Tryd.prog 17 #[.agg #[.slice av L.length cv, .slice bv L.length dv], .int .i64 z] W fun e w' => ∃ a1 c1 a2 c2, e = .returned (.tuple #[.agg #[.slice a1 M.length c1, .slice a2 M.length c2], .int .i64 (n : Nat)]) ∧ Hid (IsAr w' w.heap.size (.agg #[.slice a1 M.length c1, .slice a2 M.length c2]) M) ∧ Hid (Below wr.heap.size wr w') ∧ Hid (Below W.heap.size W w')) := fun W hW => by
            have h := rback_le L (laid_up HA3.out.laid) HA3.out.most _ _ z W (Nat.le_trans HB3.out.size hW.out.size) (HI3.out.later hW.out)
            rw [hq] at h
            refine h.mono ?_
            rintro e w' ⟨u, rfl, hu, hb⟩
            obtain ⟨a1, c1, a2, c2, rfl⟩ := ar_forms hu
            exact ⟨a1, c1, a2, c2, rfl, hu, hW.out.trans (hb.mono hW.out.size), hb⟩
          have HLE : Hid (∀ W, FAr W w.heap.size a L → Calls Tryd.prog 18 #[.pointer (some ⟨a, 0, none⟩), .int .i64 z] W fun e w' => e = .returned (errV n) ∧ FAr w' w.heap.size a M ∧ Alt w.heap.size a W w') := fun W hA => by
            have h := backF_any w.heap.size a L z W hA
            rw [back_same hA.laid, hq] at h
            exact h
          have HER : Hid (∀ W, Below w.heap.size w W → Calls Tryd.prog 11 #[errV n, .int .i64 (n : Nat)] W fun e w' => e = .returned (.bool true) ∧ Below W.heap.size W w') := fun W hW => error_same n W (HG.out.below hW)
          generalize errV n = ve at *
          have hdr : Hid (Below wr.heap.size wr wr.drew) := (Below.refl _ _).drew
          have hdra : Hid (Below wr.heap.size wr (wr.drew.alloc (.cells #[.slice none 0 0, .slice none 0 0] 37))) := hdr.out.alloc (Nat.le_refl _) _
          have hcwa : (wr.alloc (.cells #[.slice none 0 0, .slice none 0 0] 37)).cell? ⟨g, off + k, none⟩ = some (.int .i64 s) := Lib.cell?_alloc_some _ hcw
          have hx0a : (wr.alloc (.cells #[.slice none 0 0, .slice none 0 0] 37)).cell? ⟨X, 0, none⟩ = some (.slice av L.length cv) := Lib.cell?_alloc_some _ hx0
          have hx1a : (wr.alloc (.cells #[.slice none 0 0, .slice none 0 0] 37)).cell? ⟨X, 1, none⟩ = some (.slice bv L.length dv) := Lib.cell?_alloc_some _ hx1
          have HQ : Hid (backF L z = (n, M)) := hq
          clear hq
          go_wp2
          rename_i K2 hK2 K1 hK1 K0 hK0
          have HK : ∀ (t6 t7 t8 t9 t10 t11 t12 t13 t14 t15 t16 t17 t18 t22 t23 t24 t25 t26 t27 t28 t29 t30 t31 t32 t33 t34 t35 t36 t37 t38 t39 t40 t41 t42 t43 t44 t45 t46 t47 t48 t49 t50 t51 t52 t53 t54 t55 t56 t57 t58 t59 t60 t61 t62 t63 t64 t65 t66 t67 t68 t69 t70 t71 t72 t73 t74 t75 t76 t77 t78 t79 t80 t81 t82 t83 t84 t85 t86 t87 t88 t89 t90 t91 t92 t93 t94 t95 t96 t97 t98 t99 t100 t101 t102 t103 t104 t105 t106 t107 t108 t109 t110 t111 t112 t113 t114 t115 t116 t117 t118 t119 t120 t121 t122 t123 t124 t125 t126 t127 t128 t129 t130 t131 t132 t133 t134 t135 t136 t137 t138 : Value) (W : World) (a1 : Option Addr) (c1 : Nat) (a2 : Option Addr) (c2 : Nat), Hid (FAr W w.heap.size a M) → Hid (Below w.heap.size w W) → Hid (W.heap[X]? = some (.cells #[.slice a1 M.length c1, .slice a2 M.length c2] 37 (0, 0))) → Hid (IsAr W w.heap.size (.agg #[.slice a1 M.length c1, .slice a2 M.length c2]) M) → K1 { tmps := #[.slice (some ⟨g, off, none⟩) l.length cap, undef, u2, .pointer (some ⟨a, 0, none⟩), .pointer (some ⟨X, 0, none⟩), .int .i64 (k : Nat), t6, t7, t8, t9, t10, t11, t12, t13, t14, t15, t16, t17, t18, undef, undef, .pointer (some ⟨a, 0, none⟩), t22, t23, t24, t25, t26, t27, t28, t29, t30, t31, t32, t33, t34, t35, t36, t37, t38, t39, t40, t41, t42, t43, t44, t45, t46, t47, t48, t49, t50, t51, t52, t53, t54, t55, t56, t57, t58, t59, t60, t61, t62, t63, t64, t65, t66, t67, t68, t69, t70, t71, t72, t73, t74, t75, t76, t77, t78, t79, t80, t81, t82, t83, t84, t85, t86, t87, t88, t89, t90, t91, t92, t93, t94, t95, t96, t97, t98, t99, t100, t101, t102, t103, t104, t105, t106, t107, t108, t109, t110, t111, t112, t113, t114, t115, t116, t117, t118, t119, t120, t121, t122, t123, t124, t125, t126, t127, t128, t129, t130, t131, t132, t133, t134, t135, t136, t137, t138, undef, undef, undef, undef, undef, undef, undef], defers := [] } W := by
            intro t6 t7 t8 t9 t10 t11 t12 t13 t14 t15 t16 t17 t18 t22 t23 t24 t25 t26 t27 t28 t29 t30 t31 t32 t33 t34 t35 t36 t37 t38 t39 t40 t41 t42 t43 t44 t45 t46 t47 t48 t49 t50 t51 t52 t53 t54 t55 t56 t57 t58 t59 t60 t61 t62 t63 t64 t65 t66 t67 t68 t69 t70 t71 t72 t73 t74 t75 t76 t77 t78 t79 t80 t81 t82 t83 t84 t85 t86 t87 t88 t89 t90 t91 t92 t93 t94 t95 t96 t97 t98 t99 t100 t101 t102 t103 t104 t105 t106 t107 t108 t109 t110 t111 t112 t113 t114 t115 t116 t117 t118 t119 t120 t121 t122 t123 t124 t125 t126 t127 t128 t129 t130 t131 t132 t133 t134 t135 t136 t137 t138 w4 a1 c1 a2 c2 HA4 HB4 HC4 HI4
            clear hcw hx0 hx1 hxf0 hxf1 HLD HLE HER hcwa hx0a hx1a hdr hdra hK0 HQ HA3 HB3 HC3 HI3
            refine hK1 _ _ ?_
            have HLM : Hid (LaidF 0 M) := HA4.out.laid
            go_wp2_with (go_at_call 19; fail)
            refine (lentF_any _ _ _ _ HA4.out).mono ?_
            rintro e w5 ⟨v1, v2, rfl, ho1, ho2, hb⟩
            have HAT5 : Hid (IsInts w5 v1 (atsI M)) := ho1.isInts
            have HOR5 : Hid (IsInts w5 v2 (ordsI M)) := ho2.isInts
            have HA5 : Hid (FAr w5 w.heap.size a M) := HA4.out.later hb
            have HB5 : Hid (Below w.heap.size w w5) := HB4.out.trans (hb.mono HB4.out.size)
            have HC5 : Hid (w5.heap[X]? = some (.cells #[.slice a1 M.length c1, .slice a2 M.length c2] 37 (0, 0))) := (hb.block X (Array.getElem?_eq_some_iff.1 HC4.out).1).trans HC4.out
            have HI5 : Hid (IsAr w5 w.heap.size (.agg #[.slice a1 M.length c1, .slice a2 M.length c2]) M) := HI4.out.later hb
            clear HA4 HB4 HC4 HI4
            clear ho1 ho2 hb
            obtain ⟨hx0, hx1, _, _⟩ := box_cells HC5.out
            go_wp2_with (go_at_call 20; fail)
            refine (rholes_any M HLM.out _ _ _ HI5.out).mono ?_
            rintro e w6 ⟨v3, v4, rfl, ho3, ho4, hb⟩
            have HAT6 : Hid (IsInts w6 v1 (atsI M)) := HAT5.out.below hb
            have HOR6 : Hid (IsInts w6 v2 (ordsI M)) := HOR5.out.below hb
            have HD6 : Hid (IsInts w6 v3 (atsI (holes 0 M))) := ho3.isInts
            have HE6 : Hid (IsInts w6 v4 (ordsI (holes 0 M))) := ho4.isInts
            have HA6 : Hid (FAr w6 w.heap.size a M) := HA5.out.later hb
            have HB6 : Hid (Below w.heap.size w w6) := HB5.out.trans (hb.mono HB5.out.size)
            have HC6 : Hid (w6.heap[X]? = some (.cells #[.slice a1 M.length c1, .slice a2 M.length c2] 37 (0, 0))) := (hb.block X (Array.getElem?_eq_some_iff.1 HC5.out).1).trans HC5.out
            have HI6 : Hid (IsAr w6 w.heap.size (.agg #[.slice a1 M.length c1, .slice a2 M.length c2]) M) := HI5.out.later hb
            clear HA5 HB5 HC5 HI5
            clear ho3 ho4 hb hx0 hx1 HAT5 HOR5
            go_wp2_with (go_at_call 8; fail)
            refine (holesF_any _ _ _ _ HA6.out).mono ?_
            rintro e w7 ⟨v5, v6, rfl, ho5, ho6, hb⟩
            have HAT7 : Hid (IsInts w7 v1 (atsI M)) := HAT6.out.below hb
            have HOR7 : Hid (IsInts w7 v2 (ordsI M)) := HOR6.out.below hb
            have HD7 : Hid (IsInts w7 v3 (atsI (holes 0 M))) := HD6.out.below hb
            have HE7 : Hid (IsInts w7 v4 (ordsI (holes 0 M))) := HE6.out.below hb
            have HF7 : Hid (IsInts w7 v5 (atsI (holes 0 M))) := ho5.isInts
            have HG7 : Hid (IsInts w7 v6 (ordsI (holes 0 M))) := ho6.isInts
            have HA7 : Hid (FAr w7 w.heap.size a M) := HA6.out.later hb
            have HB7 : Hid (Below w.heap.size w w7) := HB6.out.trans (hb.mono HB6.out.size)
            have HC7 : Hid (w7.heap[X]? = some (.cells #[.slice a1 M.length c1, .slice a2 M.length c2] 37 (0, 0))) := (hb.block X (Array.getElem?_eq_some_iff.1 HC6.out).1).trans HC6.out
            have HI7 : Hid (IsAr w7 w.heap.size (.agg #[.slice a1 M.length c1, .slice a2 M.length c2]) M) := HI6.out.later hb
            clear HA6 HB6 HC6 HI6
            clear ho5 ho6 hb HAT6 HOR6 HD6 HE6
            obtain ⟨hx0, hx1, _, _⟩ := box_cells HC7.out
            obtain ⟨y1, y2, e12, k1, k2⟩ := id HI7.out
            simp only [Value.agg.injEq, Array.mk.injEq, List.cons.injEq, and_true] at e12
            obtain ⟨rfl, rfl⟩ := e12
            have HX7 : Hid (IsInts w7 (.slice a1 M.length c1) (atsI M)) := k1.isInts
            have HY7 : Hid (IsInts w7 (.slice a2 M.length c2) (ordsI M)) := k2.isInts
            clear k1 k2
            go_wp2_with (go_at_call 15; fail)
            refine (ints_same _ _ (atsI M) _ HAT7.out HX7.out).mono ?_
            rintro e w8 ⟨rfl, q8, hw8⟩
            have hb8 : Below w7.heap.size w7 w8 := by rw [hw8]; exact below_drewN (Below.refl _ w7) q8
            have HOR8 : Hid (IsInts w8 v2 (ordsI M)) := HOR7.out.below hb8
            have HY8 : Hid (IsInts w8 (.slice a2 M.length c2) (ordsI M)) := HY7.out.below hb8
            have HD8 : Hid (IsInts w8 v3 (atsI (holes 0 M))) := HD7.out.below hb8
            have HE8 : Hid (IsInts w8 v4 (ordsI (holes 0 M))) := HE7.out.below hb8
            have HF8 : Hid (IsInts w8 v5 (atsI (holes 0 M))) := HF7.out.below hb8
            have HG8 : Hid (IsInts w8 v6 (ordsI (holes 0 M))) := HG7.out.below hb8
            have HA8 : Hid (FAr w8 w.heap.size a M) := HA7.out.later hb8
            have HB8 : Hid (Below w.heap.size w w8) := HB7.out.trans (hb8.mono HB7.out.size)
            have HC8 : Hid (w8.heap[X]? = some (.cells #[.slice a1 M.length c1, .slice a2 M.length c2] 37 (0, 0))) := (hb8.block X (Array.getElem?_eq_some_iff.1 HC7.out).1).trans HC7.out
            have HI8 : Hid (IsAr w8 w.heap.size (.agg #[.slice a1 M.length c1, .slice a2 M.length c2]) M) := HI7.out.later hb8
            clear HA7 HB7 HC7 HI7
            clear hw8 hb8 hx0 hx1 HAT7 HOR7 HX7 HY7 HD7 HE7 HF7 HG7
            obtain ⟨hx0, hx1, _, _⟩ := box_cells HC8.out
            go_wp2_with (go_at_call 15; fail)
            refine (ints_same _ _ (ordsI M) _ HOR8.out HY8.out).mono ?_
            rintro e w9 ⟨rfl, q9, hw9⟩
            have hb9 : Below w8.heap.size w8 w9 := by rw [hw9]; exact below_drewN (Below.refl _ w8) q9
            have HD9 : Hid (IsInts w9 v3 (atsI (holes 0 M))) := HD8.out.below hb9
            have HE9 : Hid (IsInts w9 v4 (ordsI (holes 0 M))) := HE8.out.below hb9
            have HF9 : Hid (IsInts w9 v5 (atsI (holes 0 M))) := HF8.out.below hb9
            have HG9 : Hid (IsInts w9 v6 (ordsI (holes 0 M))) := HG8.out.below hb9
            have HA9 : Hid (FAr w9 w.heap.size a M) := HA8.out.later hb9
            have HB9 : Hid (Below w.heap.size w w9) := HB8.out.trans (hb9.mono HB8.out.size)
            have HC9 : Hid (w9.heap[X]? = some (.cells #[.slice a1 M.length c1, .slice a2 M.length c2] 37 (0, 0))) := (hb9.block X (Array.getElem?_eq_some_iff.1 HC8.out).1).trans HC8.out
            have HI9 : Hid (IsAr w9 w.heap.size (.agg #[.slice a1 M.length c1, .slice a2 M.length c2]) M) := HI8.out.later hb9
            clear HA8 HB8 HC8 HI8
            clear hw9 hb9 hx0 hx1 HOR8 HY8 HD8 HE8 HF8 HG8
            go_wp2_with (go_at_call 15; fail)
            refine (ints_same _ _ (atsI (holes 0 M)) _ HF9.out HD9.out).mono ?_
            rintro e w10 ⟨rfl, q10, hw10⟩
            have hb10 : Below w9.heap.size w9 w10 := by rw [hw10]; exact below_drewN (Below.refl _ w9) q10
            have HE10 : Hid (IsInts w10 v4 (ordsI (holes 0 M))) := HE9.out.below hb10
            have HG10 : Hid (IsInts w10 v6 (ordsI (holes 0 M))) := HG9.out.below hb10
            have HA10 : Hid (FAr w10 w.heap.size a M) := HA9.out.later hb10
            have HB10 : Hid (Below w.heap.size w w10) := HB9.out.trans (hb10.mono HB9.out.size)
            have HC10 : Hid (w10.heap[X]? = some (.cells #[.slice a1 M.length c1, .slice a2 M.length c2] 37 (0, 0))) := (hb10.block X (Array.getElem?_eq_some_iff.1 HC9.out).1).trans HC9.out
            have HI10 : Hid (IsAr w10 w.heap.size (.agg #[.slice a1 M.length c1, .slice a2 M.length c2]) M) := HI9.out.later hb10
            clear HA9 HB9 HC9 HI9
            clear hw10 hb10 HD9 HE9 HF9 HG9
            go_wp2_with (go_at_call 15; fail)
            refine (ints_same _ _ (ordsI (holes 0 M)) _ HG10.out HE10.out).mono ?_
            rintro e w11 ⟨rfl, q11, hw11⟩
            have hb11 : Below w10.heap.size w10 w11 := by rw [hw11]; exact below_drewN (Below.refl _ w10) q11
            have HA11 : Hid (FAr w11 w.heap.size a M) := HA10.out.later hb11
            have HB11 : Hid (Below w.heap.size w w11) := HB10.out.trans (hb11.mono HB10.out.size)
            have HC11 : Hid (w11.heap[X]? = some (.cells #[.slice a1 M.length c1, .slice a2 M.length c2] 37 (0, 0))) := (hb11.block X (Array.getElem?_eq_some_iff.1 HC10.out).1).trans HC10.out
            have HI11 : Hid (IsAr w11 w.heap.size (.agg #[.slice a1 M.length c1, .slice a2 M.length c2]) M) := HI10.out.later hb11
            clear HA10 HB10 HC10 HI10
            clear hw11 hb11 HE10 HG10
            go_wp2
            go_roundw
            case rel => exact ⟨k + 1, M, _, _, by go_num, by omega, by omega, HA11.out, HB11.out, HC11.out, HI11.out⟩
            case measure => simp [RowKit.intOf]; omega
          clear hK1
          go_region_law (refine step_call rfl 17 _ _ rfl #[.agg #[.slice av L.length cv, .slice bv L.length dv], .int .i64 z] (by first | rfl | (simp [Act.eval]; done) | simp [Act.eval, Act.put]) (enters_of Tryd.func17 (by kernel_rfl) rfl _) (HLD.out _ (by first | exact hdr | exact hdra)) ?_; rintro e W5 ⟨a1, c1, a2, c2, rfl, HR, HBW, HBN⟩; refine ⟨_, rfl, ?_⟩; (try (have hN := (HBN.out.block wr.heap.size (by simp)).trans (heap_alloc_new wr.drew _); have HN : Hid _ := hN; obtain ⟨hn0, hn1, hnf0, hnf1⟩ := box_cells HN.out)))
          all_goals
            first
              | (have HY := ar_end (w := wr) (g := wr.heap.size) (Nat.le_refl _) HN.out (by decide) HR.out HBW.out
                 have HZ := two_set (.slice a1 M.length c1) (.slice a2 M.length c2) HN.out
                 generalize (W5.setCell ⟨wr.heap.size, 0, none⟩ (.slice a1 M.length c1)).setCell ⟨wr.heap.size, 1, none⟩ (.slice a2 M.length c2) = w6 at *
                 clear hn0 hn1 hnf0 hnf1
                 have HY : Hid _ := HY
                 have HZ : Hid _ := HZ)
              | (have hy : IsAr (W5.alloc (.cells #[.slice a1 M.length c1, .slice a2 M.length c2] 37)) w.heap.size (.agg #[.slice a1 M.length c1, .slice a2 M.length c2]) M ∧ Below wr.heap.size wr (W5.alloc (.cells #[.slice a1 M.length c1, .slice a2 M.length c2] 37)) := ⟨HR.out.later ((Below.refl _ W5).alloc (Nat.le_refl _) _), HBW.out.alloc HBW.out.size _⟩
                 have hz := heap_alloc_new W5 (.cells #[.slice a1 M.length c1, .slice a2 M.length c2] 37)
                 generalize W5.alloc (.cells #[.slice a1 M.length c1, .slice a2 M.length c2] 37) = w6 at *
                 have HY : Hid _ := hy
                 have HZ : Hid _ := hz
                 clear hy hz)
            obtain ⟨hy0, hy1, _, _⟩ := box_cells HZ.out
            have HXC : Hid (w6.heap[X]? = some (.cells #[.slice av L.length cv, .slice bv L.length dv] 37 (0, 0))) := (HY.out.2.block X (Array.getElem?_eq_some_iff.1 HC3.out).1).trans HC3.out
            clear hx0 hx1 hxf0 hxf1 hcwa hx0a hx1a
            obtain ⟨hx0, hx1, hxf0, hxf1⟩ := box_cells HXC.out
            have HB6 : Below w.heap.size w w6 := HB3.out.trans (HY.out.2.mono HB3.out.size)
            have HE := ar_end (w := w) (g := X) HX.out.1 HXC.out (by decide) HY.out.1 HB6
            have HC4 := two_set (.slice a1 M.length c1) (.slice a2 M.length c2) HXC.out
            have HA4 := (HA3.out.later HY.out.2).far HXC.out (.slice a1 M.length c1) (.slice a2 M.length c2)
            have HE : Hid _ := HE
            have HC4 : Hid _ := HC4
            have HA4 : Hid _ := HA4
            have hcw7 := HCW.out _ HE.out.2
            go_wp2_with (go_at_call 18; fail)
            generalize (w6.setCell ⟨X, 0, none⟩ (.slice a1 M.length c1)).setCell ⟨X, 1, none⟩ (.slice a2 M.length c2) = w7 at *
            clear HY HZ HXC HB6 HR HBW HBN hy0 hy1 hx0 hx1 hxf0 hxf1 HLD hdr hdra
            refine (HLE.out _ HA4.out).mono ?_
            rintro e w8 ⟨rfl, hA, ht⟩
            have HA8 : Hid (FAr w8 w.heap.size a M) := hA
            have HB8 : Hid (Below w.heap.size w w8) := ht.below HE.out.2 HE.out.2.size (Nat.le_refl _) hA.fromA
            have HC8 : Hid (w8.heap[X]? = some (.cells #[.slice a1 M.length c1, .slice a2 M.length c2] 37 (0, 0))) := ht.box HC4.out (by decide) (Ne.symm HX.out.2)
            have HI8 : Hid (IsAr w8 w.heap.size (.agg #[.slice a1 M.length c1, .slice a2 M.length c2]) M) := ht.ar HE.out.1 HA4.out
            clear hA ht HA4 HC4 HE HLE hcw7
            go_wp2_with (go_at_call 11; fail)
            refine (HER.out _ HB8.out).mono ?_
            rintro e w9 ⟨rfl, hb⟩
            have HA9 : Hid (FAr w9 w.heap.size a M) := HA8.out.later hb
            have HB9 : Hid (Below w.heap.size w w9) := HB8.out.trans (hb.mono HB8.out.size)
            have HC9 : Hid (w9.heap[X]? = some (.cells #[.slice a1 M.length c1, .slice a2 M.length c2] 37 (0, 0))) := (hb.block X (Array.getElem?_eq_some_iff.1 HC8.out).1).trans HC8.out
            have HI9 : Hid (IsAr w9 w.heap.size (.agg #[.slice a1 M.length c1, .slice a2 M.length c2]) M) := HI8.out.later hb
            clear HA8 HB8 HC8 HI8
            clear hb HER
            go_wp2
            exact HK _ _ _ _ _ _ _ _ _ _ _ _ _ _ _ _ _ _ _ _ _ _ _ _ _ _ _ _ _ _ _ _ _ _ _ _ _ _ _ _ _ _ _ _ _ _ _ _ _ _ _ _ _ _ _ _ _ _ _ _ _ _ _ _ _ _ _ _ _ _ _ _ _ _ _ _ _ _ _ _ _ _ _ _ _ _ _ _ _ _ _ _ _ _ _ _ _ _ _ _ _ _ _ _ _ _ _ _ _ _ _ _ _ _ _ _ _ _ _ _ _ _ _ _ _ _ _ _ _ _ w9 a1 c1 a2 c2 HA9 HB9 HC9 HI9
    · have HLE : Hid (Calls Tryd.prog 9 #[.pointer (some ⟨a, 0, none⟩), .int .i64 0] wr fun e w' => e = .returned (.tuple #[.int .i64 0, errV 1]) ∧ Hid (Below w.heap.size w w')) := by
        have hA := HA3.out
        have h := lendF_any w.heap.size a L 0 wr (by have := hA.fromA; have := hA.lt; omega) hA
        rw [show lendG L 0 = (0, 1, L) from if_pos (.inl (by omega))] at h
        refine h.mono ?_
        rintro e w' ⟨rfl, hA', ht⟩
        exact ⟨rfl, ht.below HB3.out HB3.out.size (Nat.le_refl _) hA'.fromA⟩
      have HER : Hid (∀ W, Below w.heap.size w W → Calls Tryd.prog 11 #[errV 1, .int .i64 1] W fun e w' => e = .returned (.bool true) ∧ Below W.heap.size W w') := fun W hW => error_same 1 W (HG.out.below hW)
      generalize errV 1 = ve at *
      by_cases h1 : k < l.length
      case' pos =>
        have h1' : (k : Int) < (l.length : Int) := by omega
        have h2' : ¬ (k : Int) < 100 := by omega
      case' neg =>
        have h1' : ¬ (k : Int) < (l.length : Int) := by omega
      all_goals
        go_wp2_with (go_at_call 9; fail)
        refine Calls.mono HLE.out ?_
        rintro e w8 ⟨rfl, HB8⟩
        go_wp2_with (go_at_call 11; fail)
        refine (HER.out _ HB8.out).mono ?_
        rintro e w9 ⟨rfl, hb⟩
        go_wp2
        go_ret
        exact ⟨rfl, HB8.out.trans (hb.mono HB8.out.size)⟩
end Go.Proofs.YtjcikoaoemingaaDoor
