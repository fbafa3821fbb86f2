/- The walk of serveFact: a closed fact: how far two go from both sides, where they are then, and the least. -/
import Derived.Test.YtnjfmlojbaigjaaSGo
import Derived.Test.YtnjfmlojbaigjaaPLeast
import Derived.Test.YtnjfmlojbaigjaaInts
import Derived.Test.YtnjfmlojbaigjaaKeep
namespace Go.Proofs.Ytnjfmlojbaigjaa
open Go.RowKit Go.Sort

theorem sort_ris {s : List Int} (h : Ris s) : s.mergeSort zle = s := ris_unique (ris_sort s) h (sort_perm s)
theorem sf_c : chkS [0, 10] [4] = 0 := by decide
theorem sf_l : goL true [0, 10] [4] = [4, 6] := by
  unfold goL
  rw [if_pos sf_c]
  show (goStep true ([0, 10].mergeSort zle) 4).1 = _
  rw [sort_ris (by unfold Ris; decide)]
  decide
theorem sf_n : goN true [0, 10] [4] = 8 := by
  unfold goN
  rw [if_pos sf_c]
  show 0 + (goStep true ([0, 10].mergeSort zle) 4).2 = _
  rw [sort_ris (by unfold Ris; decide)]
  decide
theorem sf_least : LeastGo [0, 10] [4] 4 := by
  refine ⟨⟨[4, 10], Goes.go (c := 0) .start (by decide) (q := 0) (by decide) (List.Perm.refl _)⟩, fun y e he => ?_⟩
  generalize hk : [(4 : Int)].length = n at he
  cases he with
  | start => cases hk
  | @go n y c q _ h hn hq hp =>
    obtain rfl : n = 0 := by simp at hk; omega
    generalize hz : 0 = z at h
    cases h with
    | start =>
      simp at hq
      rcases hq with rfl | rfl <;> decide
    | go _ _ _ _ => cases hz
theorem sf_x {x : Nat} (h : LeastS [0, 10] [4] x) : x = 4 := by
  have := leastGo_unique (h.ok sf_c) sf_least
  omega
theorem sf_new (w : World) : IsInts ((w.alloc (.cells #[.int .i64 0, .int .i64 10] 3)).alloc (.cells #[.int .i64 4] 3)) (.slice (some ⟨w.heap.size, 0, none⟩) 2 2) [0, 10] ∧ IsInts ((w.alloc (.cells #[.int .i64 0, .int .i64 10] 3)).alloc (.cells #[.int .i64 4] 3)) (.slice (some ⟨w.heap.size + 1, 0, none⟩) 1 1) [4] ∧ Below w.heap.size w ((w.alloc (.cells #[.int .i64 0, .int .i64 10] 3)).alloc (.cells #[.int .i64 4] 3)) := by
  have h2 := heap_alloc_new (w.alloc (.cells #[.int .i64 0, .int .i64 10] 3)) (.cells #[.int .i64 4] 3)
  rw [World.size_alloc] at h2
  exact ⟨(isInts_new (l := [0, 10]) (t := 3) (cur := #[.int .i64 0, .int .i64 10]) rfl (by decide) (heap_alloc_new _ _)).below ((Below.refl _ _).alloc (Nat.le_refl _) _), isInts_new (l := [4]) (t := 3) (cur := #[.int .i64 4]) rfl (by decide) h2, ((Below.refl w.heap.size w).alloc (Nat.le_refl _) _).alloc (by simp) _⟩

set_option maxHeartbeats 1000000 in
theorem sfact_any (w : World) : Calls Try.prog 8 #[] w fun e w' => e = .returned (.bool true) ∧ Below w.heap.size w w' := by
  have H1 : Hid (∀ w : World, _) := sf_new
  have HW := sf_new w
  go_enter Try.func8, Try.ntmps8
  go_wp2_with (go_at_call 9; fail)
  refine (sdouble_any _ _ [0, 10] [4] _ HW.1 HW.2.1).mono ?_
  rintro e w1 ⟨vp, rfl, hO, hb⟩
  rw [sf_c, sf_n, show errV 0 = .nilIface from rfl]
  rw [sf_l] at hO
  have HB1 : Hid (Below w.heap.size w w1) := HW.2.2.trans (hb.mono HW.2.2.size)
  have HL1 : Hid (IsInts w1 vp [4, 6]) := hO.isInts
  clear hO hb HW
  have HW1 := H1.out w1
  have hbs : w.heap.size ≤ w1.heap.size := HB1.out.size
  go_wp2_with (go_at_call 10; fail)
  refine (sleast_any _ _ [0, 10] [4] _ HW1.1 HW1.2.1).mono ?_
  rintro e w2 ⟨x, rfl, hx, hb⟩
  obtain rfl := sf_x hx
  rw [sf_c, show errV 0 = .nilIface from rfl]
  have hbm : Below w1.heap.size w1 w2 := HW1.2.2.trans (hb.mono HW1.2.2.size)
  have HB2 : Hid (Below w.heap.size w w2) := HB1.out.trans (hbm.mono hbs)
  have HL2 : Hid (IsInts (w2.alloc (.cells #[.int .i64 4, .int .i64 6] 3)) vp [4, 6]) := (HL1.out.below hbm).below ((Below.refl _ _).alloc (Nat.le_refl _) _)
  have HN : Hid (IsInts (w2.alloc (.cells #[.int .i64 4, .int .i64 6] 3)) (.slice (some ⟨w2.heap.size, 0, none⟩) 2 2) [4, 6]) :=
    isInts_new (l := [4, 6]) (t := 3) (cur := #[.int .i64 4, .int .i64 6]) rfl (by decide) (heap_alloc_new _ _)
  have hbs2 : w.heap.size ≤ w2.heap.size := HB2.out.size
  clear hb hbm hx HW1
  go_wp2_with (go_at_call 16; go_must (refine (ints_same _ _ [4, 6] _ HL2.out HN.out).mono ?_; rintro e w2 ⟨rfl, q, rfl⟩))
  go_ret
  exact ⟨rfl, below_drewN (HB2.out.alloc hbs2 _) _⟩
end Go.Proofs.Ytnjfmlojbaigjaa
