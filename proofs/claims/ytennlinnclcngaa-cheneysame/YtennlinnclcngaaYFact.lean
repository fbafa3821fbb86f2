/- The laws' closed fact of chapter 19. -/
import Derived.Test.YtennlinnclcngaaRingOf
import Derived.Test.YtennlinnclcngaaYCopy
import Derived.Test.YtennlinnclcngaaRowsE
namespace Go.Proofs.Ytennlinnclcngaa
set_option maxRecDepth 100000
open Go.RowKit Go.Sort

theorem ring_from : IsFrom (gOf ringL) [1] [1, 2, 0] := ⟨3, by decide +kernel, by decide +kernel, by decide +kernel⟩
theorem ring_copy {A : List Int} {X : List (List Int)} {Y : List Int} (h : CopyIs ringL [1] A X Y) : A = [1, 2, 0] ∧ X = [[1], [2], [0]] ∧ Y = [0] := by
  unfold CopyIs at h
  rw [if_pos (chkH_zero.2 (ring_fine 1 (by decide) (by decide)))] at h
  obtain ⟨h1, h2, h3⟩ := h
  obtain rfl := h1.det ring_from
  exact ⟨rfl, by rw [h2]; decide +kernel, by rw [h3]; decide +kernel⟩
theorem three_new (w : World) (x y z : Int) : IsInts (w.alloc (.cells #[.int .i64 x, .int .i64 y, .int .i64 z] 3)) (.slice (some ⟨w.heap.size, 0, none⟩) 3 3) [x, y, z] :=
  isInts_new (l := [x, y, z]) (t := 3) (cur := #[.int .i64 x, .int .i64 y, .int .i64 z]) rfl (by simp) (heap_alloc_new _ _)
def threeR (B : Nat) : Obj := .cells #[.slice (some ⟨B, 0, none⟩) 1 1, .slice (some ⟨B + 1, 0, none⟩) 1 1, .slice (some ⟨B + 1 + 1, 0, none⟩) 1 1] 23
theorem three_rows (w : World) (x y z : Int) :
    IsRows ((((w.alloc (.cells #[.int .i64 x] 3)).alloc (.cells #[.int .i64 y] 3)).alloc (.cells #[.int .i64 z] 3)).alloc (threeR w.heap.size)) (.slice (some ⟨w.heap.size + 1 + 1 + 1, 0, none⟩) 3 3) [[x], [y], [z]] ∧
    Below w.heap.size w ((((w.alloc (.cells #[.int .i64 x] 3)).alloc (.cells #[.int .i64 y] 3)).alloc (.cells #[.int .i64 z] 3)).alloc (threeR w.heap.size)) := by
  obtain ⟨B, hB⟩ : ∃ B, B = w.heap.size := ⟨_, rfl⟩
  have i2 := one_row w x
  have z2 : Below w.heap.size w (w.alloc (.cells #[.int .i64 x] 3)) := (Below.refl _ _).alloc (Nat.le_refl _) _
  have s2 : (w.alloc (.cells #[.int .i64 x] 3)).heap.size = B + 1 := by rw [hB]; simp
  rw [← hB] at i2 z2 ⊢
  generalize w.alloc (.cells #[.int .i64 x] 3) = w2 at *
  have i3 := one_row w2 y
  have z3 : Below w2.heap.size w2 (w2.alloc (.cells #[.int .i64 y] 3)) := (Below.refl _ _).alloc (Nat.le_refl _) _
  have s3 : (w2.alloc (.cells #[.int .i64 y] 3)).heap.size = B + 1 + 1 := by simp [s2]
  rw [s2] at i3
  generalize w2.alloc (.cells #[.int .i64 y] 3) = w3 at *
  have i4 := one_row w3 z
  have z4 : Below w3.heap.size w3 (w3.alloc (.cells #[.int .i64 z] 3)) := (Below.refl _ _).alloc (Nat.le_refl _) _
  have s4 : (w3.alloc (.cells #[.int .i64 z] 3)).heap.size = B + 1 + 1 + 1 := by simp [s3]
  rw [s3] at i4
  generalize w3.alloc (.cells #[.int .i64 z] 3) = w4 at *
  have z5 : Below w4.heap.size w4 (w4.alloc (threeR B)) := (Below.refl _ _).alloc (Nat.le_refl _) _
  have s5 : (w4.alloc (threeR B)).heap.size = B + 1 + 1 + 1 + 1 := by simp [s4]
  have c0 : (w4.alloc (threeR B)).cell? ⟨B + 1 + 1 + 1, 0 + 0, none⟩ = some (.slice (some ⟨B, 0, none⟩) 1 1) := by rw [← s4]; simp [threeR]
  have c1 : (w4.alloc (threeR B)).cell? ⟨B + 1 + 1 + 1, 0 + 1, none⟩ = some (.slice (some ⟨B + 1, 0, none⟩) 1 1) := by rw [← s4]; simp [threeR]
  have c2 : (w4.alloc (threeR B)).cell? ⟨B + 1 + 1 + 1, 0 + 2, none⟩ = some (.slice (some ⟨B + 1 + 1, 0, none⟩) 1 1) := by rw [← s4]; simp [threeR]
  have t4 : Below w2.heap.size w2 (w4.alloc (threeR B)) := z3.trans ((z4.mono z3.size).trans (z5.mono (by rw [s2, s4]; omega)))
  refine ⟨⟨_, 3, rfl, by unfold maxLen; omega, fun k hk => ⟨_, 0, rfl, Nat.le_refl _, by rw [s5]; omega, ?_⟩⟩, by rw [hB] at *; exact z2.trans (t4.mono z2.size)⟩
  rcases (by simp at hk; omega : k = 0 ∨ k = 1 ∨ k = 2) with rfl | rfl | rfl
  · exact ⟨_, c0, ((i2.below z3).below z4).below z5⟩
  · exact ⟨_, c1, (i3.below z4).below z5⟩
  · exact ⟨_, c2, i4.below z5⟩
set_option maxHeartbeats 1000000 in
theorem yfact_any (w : World) :
    Calls Try.prog 5 #[] w fun e w' => e = .returned (.bool true) ∧ Below w.heap.size w w' := by
  have H0 : Hid (chkH ringL [1] = 0) := chkH_zero.2 (ring_fine 1 (by decide) (by decide))
  go_enter Try.func5, Try.ntmps5
  go_wp2_with (first
    | (go_at_call 14; fail)
    | (go_at_call 6; fail))
  refine (ringof_any 1 _).mono ?_
  rintro e w1 ⟨v1, rfl, hH1, hb1⟩
  have HH1 : Hid (IsHeap w1 v1 ringL [1]) := hH1
  have HB1 : Hid (Below w.heap.size w w1) := hb1
  clear hH1 hb1
  go_wp2_with (go_at_call 6; fail)
  refine (ycopy_any _ ringL [1] _ HH1.out).mono ?_
  rintro e w2 ⟨⟨vl, vx, rfl, A, X, Y, hN, hX, hS⟩, hb2⟩
  have HB2 : Hid (Below w.heap.size w w2) := HB1.out.trans (hb2.mono HB1.out.size)
  obtain ⟨rfl, rfl, rfl⟩ := ring_copy hS
  have HN2 : Hid (IsInts w2 vl [1, 2, 0]) := hN
  obtain ⟨aX, cX, aY, cY, rfl, hXr, hYr⟩ := hX.form
  have HBX : Hid (Boxed w2 (w2.alloc (.cells #[.slice aX 3 cX, .slice aY 1 cY] 25)) w2.heap.size aX cX aY cY [[1], [2], [0]] [0]) := boxed hXr hYr _
  rw [H0.out, show errV 0 = .nilIface from rfl]
  obtain ⟨a4, c4, rfl, _⟩ := HN2.out.opened
  clear hb2 HB1 HH1 hX hXr hYr hN hS
  go_wp2_with (go_at_call 11; fail)
  have HSX : Hid ((w2.alloc (.cells #[.slice aX 3 cX, .slice aY 1 cY] 25)).heap.size = w2.heap.size + 1) := by unfold Hid; simp
  rw [← HSX.out]
  generalize w2.alloc (.cells #[.slice aX 3 cX, .slice aY 1 cY] 25) = w3 at *
  have HI3 : Hid (IsInts (w3.alloc (.cells #[.int .i64 1, .int .i64 2, .int .i64 0] 3)) (.slice (some ⟨w3.heap.size, 0, none⟩) 3 3) [1, 2, 0]) := three_new w3 1 2 0
  have HX3 : Hid (Below w3.heap.size w3 (w3.alloc (.cells #[.int .i64 1, .int .i64 2, .int .i64 0] 3))) := (Below.refl _ _).alloc (Nat.le_refl _) _
  refine (ints_same _ _ [1, 2, 0] _ ((HN2.out.below HBX.out.below).below HX3.out) HI3.out).mono ?_
  rintro e w4 ⟨rfl, q, hw4⟩
  have HB4 : Hid (Below w3.heap.size w3 w4) := by rw [hw4]; exact below_drewN HX3.out q
  have HBX4 : Hid (Boxed w2 w4 w2.heap.size aX cX aY cY [[1], [2], [0]] [0]) := HBX.out.later HB4.out
  have hx0 : w4.cell? ⟨w2.heap.size, 0, none⟩ = some (.slice aX 3 cX) := HBX4.out.outs
  clear hw4 HI3 HX3 HBX HB4 HSX HN2
  go_wp2_with (go_at_call 15; fail)
  obtain ⟨hR5, hb5⟩ := three_rows w4 1 2 0
  have HIX : Hid (IsRows w4 (.slice aX 3 cX) [[1], [2], [0]]) := HBX4.out.rows
  refine (rows_same _ _ [[1], [2], [0]] _ (HIX.out.below hb5) hR5).mono ?_
  rintro e w6 ⟨rfl, q6, hw6⟩
  have HB6 : Hid (Below w4.heap.size w4 w6) := by rw [hw6]; exact below_drewN hb5 q6
  have HBX6 : Hid (Boxed w2 w6 w2.heap.size aX cX aY cY [[1], [2], [0]] [0]) := HBX4.out.later HB6.out
  have hx1 : w6.cell? ⟨w2.heap.size, 1, none⟩ = some (.slice aY 1 cY) := HBX6.out.roots
  clear hw6 hR5 hb5 hx0 HIX HBX4
  go_wp2_with (go_at_call 11; fail)
  have HI7 : Hid (IsInts (w6.alloc (.cells #[.int .i64 0] 3)) (.slice (some ⟨w6.heap.size, 0, none⟩) 1 1) [0]) := one_row w6 0
  have HX7 : Hid (Below w6.heap.size w6 (w6.alloc (.cells #[.int .i64 0] 3))) := (Below.refl _ _).alloc (Nat.le_refl _) _
  have HIY : Hid (IsInts w6 (.slice aY 1 cY) [0]) := HBX6.out.ints
  refine (ints_same _ _ [0] _ (HIY.out.below HX7.out) HI7.out).mono ?_
  rintro e w8 ⟨rfl, q8, hw8⟩
  have HB8 : Hid (Below w6.heap.size w6 w8) := by rw [hw8]; exact below_drewN HX7.out q8
  clear hw8 HI7 HX7
  go_wp2
  go_ret
  exact ⟨rfl, HB2.out.trans ((HBX6.out.below.trans (HB8.out.mono HBX6.out.below.size)).mono HB2.out.size)⟩
end Go.Proofs.Ytennlinnclcngaa
