/- The walk of wsetFact: a closed fact: the sets, and what is missed, of three requests. -/
import Derived.Test.YtbnhlnjbgimibaaWset
import Derived.Test.YtbnhlnjbgimibaaInts
namespace Go.Proofs.Ytbnhlnjbgimibaa
open Go.RowKit Go.Sort

def winL : List Int := [1, 2, 1]
theorem win_c : wchk winL 2 = 0 := by decide
theorem win_l : wsL winL 2 = [2, 6, 6] := by rw [wsL_ok win_c]; decide
theorem win_n : wsN winL 2 = 2 := by rw [wsN_ok win_c]; decide
theorem win_s : wsS winL 2 = 5 := by rw [wsS_ok win_c]; decide

set_option maxHeartbeats 1000000 in
theorem win_any (w : World) : Calls Try.prog 7 #[] w fun e w' => e = .returned (.bool true) ∧ Below w.heap.size w w' := by
  have H1 : ∀ w : World, Hid (IsInts (w.alloc (.cells #[.int .i64 1, .int .i64 2, .int .i64 1] 3)) (.slice (some ⟨w.heap.size, 0, none⟩) 3 3) winL) := fun w =>
    isInts_new (l := winL) (t := 3) (cur := #[.int .i64 1, .int .i64 2, .int .i64 1]) rfl (by decide) (heap_alloc_new _ _)
  go_enter Try.func7, Try.ntmps7
  go_wp2_with (go_at_call 8; fail)
  refine (sets_any _ winL 2 _ (H1 w).out).mono ?_
  rintro e w1 ⟨vh, rfl, hO, hb⟩
  rw [win_c, show errV 0 = .nilIface from rfl]
  rw [win_l] at hO
  have HB1 : Hid (Below w.heap.size w w1) := ((Below.refl w.heap.size w).alloc (Nat.le_refl _) _).trans (hb.mono (by simp))
  have HL1 : Hid (IsInts w1 vh [2, 6, 6]) := hO.isInts
  have hbs : w.heap.size ≤ w1.heap.size := HB1.out.size
  have H2 := H1 w1
  clear hO hb H1
  go_wp2_with (go_at_call 9; fail)
  refine (miss_any _ winL 2 _ H2.out).mono ?_
  rintro e w2 ⟨rfl, hb⟩
  rw [win_c, show errV 0 = .nilIface from rfl, win_n, win_s]
  have hbm : Below w1.heap.size w1 w2 := ((Below.refl w1.heap.size w1).alloc (Nat.le_refl _) _).trans (hb.mono (by simp))
  have HB2 : Hid (Below w.heap.size w w2) := HB1.out.trans (hbm.mono hbs)
  have HL2 : Hid (IsInts (w2.alloc (.cells #[.int .i64 2, .int .i64 6, .int .i64 6] 3)) vh [2, 6, 6]) := (HL1.out.below hbm).below ((Below.refl _ _).alloc (Nat.le_refl _) _)
  have HN : Hid (IsInts (w2.alloc (.cells #[.int .i64 2, .int .i64 6, .int .i64 6] 3)) (.slice (some ⟨w2.heap.size, 0, none⟩) 3 3) [2, 6, 6]) :=
    isInts_new (l := [2, 6, 6]) (t := 3) (cur := #[.int .i64 2, .int .i64 6, .int .i64 6]) rfl (by decide) (heap_alloc_new _ _)
  have hbs2 : w.heap.size ≤ w2.heap.size := HB2.out.size
  clear hb hbm H2
  go_wp2_with (go_at_call 15; go_must (refine (ints_same _ _ [2, 6, 6] _ HL2.out HN.out).mono ?_; rintro e w2 ⟨rfl, q, rfl⟩))
  go_ret
  exact ⟨rfl, below_drewN (HB2.out.alloc hbs2 _) _⟩
end Go.Proofs.Ytbnhlnjbgimibaa
