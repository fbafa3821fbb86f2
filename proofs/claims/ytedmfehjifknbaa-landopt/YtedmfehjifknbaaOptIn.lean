/- The walk of opt.comeIn. -/
import Derived.Test.YtedmfehjifknbaaOptRunL
import Derived.Test.YtedmfehjifknbaaInserts
import Derived.Deep.QuietTactic
import Derived.BigQuiet
namespace Go.Proofs.Ytedmfehjifknbaa
open Go.RowKit Go.Sort

theorem search_any (base : Nat) (v : Value) (h : List Int) (x : Int) (w : World) (hO : OwnI w base v h) (hs : h.Pairwise (· ≤ ·)) (hl : h.length ≤ 100) :
    Calls Try.prog 40 #[v, .int .i64 x] w fun e w' => e = .returned (.tuple #[.int .i64 (lessers h x), .bool (h.contains x)]) ∧ ∃ q, w' = w.drewN q := by
  rcases hO.isInts with ⟨rfl, ao, cap, rfl, hcap⟩ | ⟨b, off, cap, rfl, hpos, hlc, hcap, hc⟩
  · refine (Try.slices_BinarySearch_int_empty ao cap x w).mono ?_
    rintro e w' ⟨rfl, rfl⟩
    exact ⟨rfl, 0, rfl⟩
  · have := Try.slices_BinarySearch_int b off h.length cap h x w (Nat.le_refl _) (by omega) (fun j hj => by rw [List.getD_eq_getElem?_getD]; exact hc j hj) (by rw [List.take_length]; exact hs)
    rw [List.take_length] at this
    exact this

set_option maxHeartbeats 1000000 in
theorem optin_any (base : Nat) (v : Value) (h : List Int) (p : Int) (w : World) (hB : base ≤ w.heap.size) (hO : OwnI w base v h) (hs : h.Pairwise (· ≤ ·)) (hl : h.length ≤ 100) :
    Calls Try.prog 32 #[v, .int .i64 p] w fun e w' => ∃ v', e = .returned v' ∧ Inserted w base v (ins h p) v' w' := by
  have HO : Hid (OwnI w base v h) := hO
  have HS : Hid (h.Pairwise (· ≤ ·)) := hs
  have HL : Hid (lessers h p ≤ h.length) := lessers_le h p
  have HE : Hid (insAt h (lessers h p) p = ins h p) := rfl
  clear hO hs
  generalize hi : lessers h p = i at *
  have HQ : Hid (lessers h p = i) := hi
  clear hi
  go_enter Try.func32, Try.ntmps32
  go_wp2_with (go_at_call 40; fail)
  refine (search_any base _ h p _ HO.out HS.out hl).mono ?_
  rintro e w1 ⟨rfl, q, hw1⟩
  rw [HQ.out]
  have HO1 : Hid (OwnI w1 base v h) := by rw [hw1]; exact HO.out.drewN q
  have HG1 : Hid (w.grownBy w1 v.ownBlock) := by rw [hw1]; exact ⟨rfl, rfl, rfl, Nat.le_refl _, fun _ _ _ => rfl⟩
  have hB1 : base ≤ w1.heap.size := by rw [hw1]; exact hB
  clear hw1
  generalize h.contains p = cb at *
  go_wp2_with (go_at_call 41; go_must (refine (insert_any base _ h i p w1 hB1 HO1.out HL.out hl).mono ?_; rintro e w2 ⟨v', rfl, hI⟩; have HI2 : Hid (Inserted w1 base v (insAt h i p) v' w2) := hI; clear hI))
  go_ret
  exact ⟨_, rfl, by rw [← HE.out]; exact HI2.out.from HG1.out⟩
end Go.Proofs.Ytedmfehjifknbaa
