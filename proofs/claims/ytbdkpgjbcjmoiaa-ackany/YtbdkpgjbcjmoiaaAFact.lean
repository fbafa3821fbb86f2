/- The walk of ackFact: a closed fact: when it is told of two messages, what that costs, and the least. -/
import Derived.Test.YtbdkpgjbcjmoiaaARun
import Derived.Test.YtbdkpgjbcjmoiaaWLeast
import Derived.Test.YtbdkpgjbcjmoiaaInts
namespace Go.Proofs.Ytbdkpgjbcjmoiaa
open Go.RowKit Go.Sort

theorem af_c : chkA [0, 1] 5 = 0 := by decide
theorem af_t : toldA [0, 1] 5 = [3] := by unfold toldA; rw [if_pos af_c]; decide
theorem af_n : paidA [0, 1] 5 = 10 := by unfold paidA; rw [if_pos af_c]; decide
theorem af_one : LeastTell 5 [1] 5 := leastTell_step (p := 5) (ts := [1]) (by decide) (by simp) (b := fun _ => 0) (fun k hk => by
    have : k = 0 := by simp at hk; omega
    subst this
    exact leastTell_nil 5) ⟨0, by simp, by decide⟩ (fun k hk => by
    have : k = 0 := by simp at hk; omega
    subst this
    decide)
theorem af_two : LeastTell 5 [0, 1] 6 := leastTell_step (p := 5) (ts := [0, 1]) (by decide) (by simp) (b := fun k => if k = 0 then 5 else 0) (fun k hk => by
    have : k = 0 ∨ k = 1 := by simp at hk; omega
    rcases this with rfl | rfl
    · exact af_one
    · exact leastTell_nil 5) ⟨1, by simp, by decide⟩ (fun k hk => by
    have : k = 0 ∨ k = 1 := by simp at hk; omega
    rcases this with rfl | rfl <;> decide)
theorem af_x {x : Nat} (h : LeastA [0, 1] 5 x) : x = 6 := by
  have := leastTell_unique (h.ok af_c) af_two
  omega
theorem af_new (w : World) : IsInts (w.alloc (.cells #[.int .i64 0, .int .i64 1] 3)) (.slice (some ⟨w.heap.size, 0, none⟩) 2 2) [0, 1] ∧ Below w.heap.size w (w.alloc (.cells #[.int .i64 0, .int .i64 1] 3)) :=
  ⟨isInts_new (l := [0, 1]) (t := 3) (cur := #[.int .i64 0, .int .i64 1]) rfl (by decide) (heap_alloc_new _ _), (Below.refl w.heap.size w).alloc (Nat.le_refl _) _⟩

set_option maxHeartbeats 1000000 in
theorem afact_any (w : World) : Calls Try.prog 7 #[] w fun e w' => e = .returned (.bool true) ∧ Below w.heap.size w w' := by
  have H1 : Hid (∀ w : World, _) := af_new
  have HW := af_new w
  go_enter Try.func7, Try.ntmps7
  go_wp2_with (go_at_call 8; fail)
  refine (arun_any _ [0, 1] 5 _ HW.1).mono ?_
  rintro e w1 ⟨vp, rfl, hO, hb⟩
  rw [af_c, af_n, show errV 0 = .nilIface from rfl]
  rw [af_t] at hO
  have HB1 : Hid (Below w.heap.size w w1) := HW.2.trans (hb.mono HW.2.size)
  have HL1 : Hid (IsInts w1 vp [3]) := hO.isInts
  clear hO hb HW
  have HW1 := H1.out w1
  have hbs : w.heap.size ≤ w1.heap.size := HB1.out.size
  go_wp2_with (go_at_call 9; fail)
  refine (wleast_any _ [0, 1] 5 _ HW1.1).mono ?_
  rintro e w2 ⟨x, rfl, hx, hb⟩
  obtain rfl := af_x hx
  rw [af_c, show errV 0 = .nilIface from rfl]
  have hbm : Below w1.heap.size w1 w2 := HW1.2.trans (hb.mono HW1.2.size)
  have HB2 : Hid (Below w.heap.size w w2) := HB1.out.trans (hbm.mono hbs)
  have HL2 : Hid (IsInts (w2.alloc (.cells #[.int .i64 3] 3)) vp [3]) := (HL1.out.below hbm).below ((Below.refl _ _).alloc (Nat.le_refl _) _)
  have HN : Hid (IsInts (w2.alloc (.cells #[.int .i64 3] 3)) (.slice (some ⟨w2.heap.size, 0, none⟩) 1 1) [3]) :=
    isInts_new (l := [3]) (t := 3) (cur := #[.int .i64 3]) rfl (by decide) (heap_alloc_new _ _)
  have hbs2 : w.heap.size ≤ w2.heap.size := HB2.out.size
  clear hb hbm hx HW1
  go_wp2_with (go_at_call 11; go_must (refine (ints_same _ _ [3] _ HL2.out HN.out).mono ?_; rintro e w2 ⟨rfl, q, rfl⟩))
  go_ret
  exact ⟨rfl, below_drewN (HB2.out.alloc hbs2 _) _⟩
end Go.Proofs.Ytbdkpgjbcjmoiaa
