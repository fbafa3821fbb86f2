/- The laws' closed fact of chapter 18. -/
import Derived.Test.YtelmfccpcejdnaaRingOf
import Derived.Test.YtelmfccpcejdnaaSMarkT
import Derived.Test.YtelmfccpcejdnaaSSweep
import Derived.Test.YtelmfccpcejdnaaRowsE
namespace Go.Proofs.Ytelmfccpcejdnaa
set_option maxRecDepth 100000
open Go.RowKit Go.Sort

theorem ring_g : gOf ringL 0 = [1] ∧ gOf ringL 1 = [2] ∧ gOf ringL 2 = [0] := by decide +kernel
theorem ring_deep : Deep (gOf ringL) [] [1] [1, 2, 0] := by
  refine .mark (B := [1, 2, 0]) (by decide) ?_ .nil
  rw [ring_g.2.1]
  refine .mark (B := [1, 2, 0]) (by decide) ?_ .nil
  rw [ring_g.2.2]
  refine .mark (B := [1, 2, 0]) (by decide) ?_ .nil
  rw [ring_g.1]
  exact .seen (by decide) .nil
theorem ring_mark {C : List Int} (h : MarkIs ringL [1] C) : C = [1, 2, 0] := by
  unfold MarkIs at h
  rw [if_pos (chkH_zero.2 (ring_fine 1 (by decide) (by decide)))] at h
  exact h.det ring_deep
theorem ring_left {N : List Int} {X : List (List Int)} {Y : List Int} (h : SweepIs ringL [1] N X Y) : N = [0, 1, 2] ∧ X.length = 3 := by
  unfold SweepIs at h
  rw [if_pos (chkH_zero.2 (ring_fine 1 (by decide) (by decide)))] at h
  obtain ⟨h1, h2, _⟩ := h
  have hN : N = [0, 1, 2] := by
    refine up_unique h1.up (by decide) fun x => ?_
    rw [h1.mem, ← ring_deep.reach.2]
    simp only [List.mem_cons, List.not_mem_nil, or_false]
    constructor <;> (rintro (h | h | h) <;> simp [h])
  refine ⟨hN, ?_⟩
  rw [h2, anew_length, hN]; rfl
theorem three_new (w : World) (x y z : Int) : IsInts (w.alloc (.cells #[.int .i64 x, .int .i64 y, .int .i64 z] 3)) (.slice (some ⟨w.heap.size, 0, none⟩) 3 3) [x, y, z] :=
  isInts_new (l := [x, y, z]) (t := 3) (cur := #[.int .i64 x, .int .i64 y, .int .i64 z]) rfl (by simp) (heap_alloc_new _ _)
set_option maxHeartbeats 1000000 in
theorem sfact_any (w : World) :
    Calls Try.prog 6 #[] w fun e w' => e = .returned (.bool true) ∧ Below w.heap.size w w' := by
  have H0 : Hid (chkH ringL [1] = 0) := chkH_zero.2 (ring_fine 1 (by decide) (by decide))
  go_enter Try.func6, Try.ntmps6
  go_wp2_with (first
    | (go_at_call 19; fail)
    | (go_at_call 7; fail))
  refine (ringof_any 1 _).mono ?_
  rintro e w1 ⟨v1, rfl, hH1, hb1⟩
  have HH1 : Hid (IsHeap w1 v1 ringL [1]) := hH1
  have HB1 : Hid (Below w.heap.size w w1) := hb1
  clear hH1 hb1
  go_wp2_with (go_at_call 7; fail)
  refine (smark_any _ ringL [1] _ HH1.out).mono ?_
  rintro e w2 ⟨⟨vo, rfl, C, hC, hM⟩, hb2⟩
  have HB2 : Hid (Below w.heap.size w w2) := HB1.out.trans (hb2.mono HB1.out.size)
  have HC : Hid (IsInts w2 vo [1, 2, 0]) := by rw [ring_mark hM] at hC; exact hC
  rw [H0.out, show errV 0 = .nilIface from rfl]
  clear hb2 HB1 HH1 hM hC
  go_wp2_with (go_at_call 19; fail)
  refine (ringof_any 1 _).mono ?_
  rintro e w3 ⟨v3, rfl, hH3, hb3⟩
  have HH3 : Hid (IsHeap w3 v3 ringL [1]) := hH3
  have HC3 : Hid (IsInts w3 vo [1, 2, 0]) := HC.out.below hb3
  have HB3 : Hid (Below w.heap.size w w3) := HB2.out.trans (hb3.mono HB2.out.size)
  clear hH3 hb3 HB2 HC
  go_wp2_with (go_at_call 16; fail)
  refine (ssweep_any _ ringL [1] _ HH3.out).mono ?_
  rintro e w4 ⟨⟨vl, vx, rfl, N, X, Y, hN, hX, hS⟩, hb4⟩
  have HB4 : Hid (Below w.heap.size w w4) := HB3.out.trans (hb4.mono HB3.out.size)
  have HC4 : Hid (IsInts w4 vo [1, 2, 0]) := HC3.out.below hb4
  obtain ⟨hN3, hX3⟩ := ring_left hS
  rw [hN3] at hN
  have HN4 : Hid (IsInts w4 vl [0, 1, 2]) := hN
  obtain ⟨aX, cX, aY, cY, rfl, hXr, hYr⟩ := hX.form
  rw [hX3]
  rw [H0.out, show errV 0 = .nilIface from rfl]
  clear hb4 HB3 HH3 HC3 hX hXr hYr hN hS hX3 hN3
  obtain ⟨a4, c4, rfl, _⟩ := HC4.out.opened
  obtain ⟨a5, c5, rfl, _⟩ := HN4.out.opened
  have HXB : Hid ((w4.alloc (.cells #[.slice aX 3 cX, .slice aY Y.length cY] 25)).cell? ⟨w4.heap.size, 0, none⟩ = some (.slice aX 3 cX)) := by unfold Hid; simp
  have HX5 : Hid (Below w4.heap.size w4 (w4.alloc (.cells #[.slice aX 3 cX, .slice aY Y.length cY] 25))) := (Below.refl _ _).alloc (Nat.le_refl _) _
  have HS5 : Hid ((w4.alloc (.cells #[.slice aX 3 cX, .slice aY Y.length cY] 25)).heap.size = w4.heap.size + 1) := by unfold Hid; simp
  go_wp2_with (go_at_call 14; fail)
  rw [← HS5.out]
  generalize w4.alloc (.cells #[.slice aX 3 cX, .slice aY Y.length cY] 25) = w5 at *
  have HI5 : Hid (IsInts (w5.alloc (.cells #[.int .i64 1, .int .i64 2, .int .i64 0] 3)) (.slice (some ⟨w5.heap.size, 0, none⟩) 3 3) [1, 2, 0]) := three_new w5 1 2 0
  have HX6 : Hid (Below w5.heap.size w5 (w5.alloc (.cells #[.int .i64 1, .int .i64 2, .int .i64 0] 3))) := (Below.refl _ _).alloc (Nat.le_refl _) _
  refine (ints_same _ _ [1, 2, 0] _ ((HC4.out.below HX5.out).below HX6.out) HI5.out).mono ?_
  rintro e w6 ⟨rfl, q, hw6⟩
  have HB6 : Hid (Below w5.heap.size w5 w6) := by rw [hw6]; exact below_drewN HX6.out q
  clear hw6 HI5 HX6
  go_wp2_with (go_at_call 14; fail)
  have HI7 : Hid (IsInts (w6.alloc (.cells #[.int .i64 0, .int .i64 1, .int .i64 2] 3)) (.slice (some ⟨w6.heap.size, 0, none⟩) 3 3) [0, 1, 2]) := three_new w6 0 1 2
  have HX7 : Hid (Below w6.heap.size w6 (w6.alloc (.cells #[.int .i64 0, .int .i64 1, .int .i64 2] 3))) := (Below.refl _ _).alloc (Nat.le_refl _) _
  refine (ints_same _ _ [0, 1, 2] _ (((HN4.out.below HX5.out).below HB6.out).below HX7.out) HI7.out).mono ?_
  rintro e w8 ⟨rfl, q8, hw8⟩
  have HB8 : Hid (Below w6.heap.size w6 w8) := by rw [hw8]; exact below_drewN HX7.out q8
  have HB58 : Hid (Below w5.heap.size w5 w8) := HB6.out.trans (HB8.out.mono HB6.out.size)
  have hxb : w8.cell? ⟨w4.heap.size, 0, none⟩ = some (.slice aX 3 cX) := (HB58.out.cell (p := ⟨w4.heap.size, 0, none⟩) (World.block_lt_of_cell? w5 _ HXB.out)).trans HXB.out
  clear hw8 HI7 HX7
  go_wp2
  go_ret
  exact ⟨rfl, HB4.out.trans ((HX5.out.trans (HB58.out.mono HX5.out.size)).mono HB4.out.size)⟩
end Go.Proofs.Ytelmfccpcejdnaa
