/- The walks of plain.Told and larderwicksame.Error at an error of package api, or none. -/
import Derived.Test.YtennlinnclcngaaDoorAs
namespace Go.Proofs.YtennlinnclcngaaDoor
open Go.RowKit Go.Extern.Stop Go.Stop Go.Extern

set_option maxHeartbeats 400000 in
theorem told_nil (w : World) : Calls Tryd.prog 16 #[.nilIface] w fun e w' => e = .returned (.int .i64 0) ∧ w' = w := by
  go_enter Tryd.func16, Tryd.ntmps16
  go_wp2
  go_ret
  exact ⟨rfl, rfl⟩

set_option maxHeartbeats 1000000 in
theorem told_err (n : Int) (w : World) (hg : Handle w) : Calls Tryd.prog 16 #[.iface 44 (.int .i64 n)] w fun e w' => e = .returned (.int .i64 n) ∧ Below w.heap.size w w' := by
  have hb1 : Below w.heap.size w (w.alloc (.cells #[.int .i64 0] 44)) := (Below.refl _ _).alloc (Nat.le_refl _) _
  have HG : Hid (Handle (w.alloc (.cells #[.int .i64 0] 44))) := hg.below hb1
  have HT : Hid ((w.alloc (.cells #[.int .i64 0] 44)).cell? ⟨w.heap.size, 0, none⟩ = some (.int .i64 0)) := by unfold Hid; simp
  have HF : Hid ((w.alloc (.cells #[.int .i64 0] 44)).frozen? ⟨w.heap.size, 0, none⟩ = false) := by unfold Hid; simp
  clear hg
  go_enter Tryd.func16, Tryd.ntmps16
  go_wp2_with (go_at_call 23; go_must (refine (as_hit n ⟨w.heap.size, 0, none⟩ (.int .i64 0) _ HG.out HT.out HF.out).mono ?_; rintro e w' ⟨rfl, rfl⟩))
  go_ret
  refine ⟨rfl, ?_⟩
  have hs : w.heap.size ≤ (w.alloc (.cells #[.int .i64 0] 44)).heap.size := by simp
  first
  | exact ((((hb1.alloc (by simp) _).alloc (by simp; omega) _).alloc (by simp; omega) _).alloc (by simp; omega) _).setCell (Nat.le_refl _) _
  | exact ((((((Below.refl _ _).alloc (Nat.le_refl _) _).alloc (by simp) _).alloc (by simp; omega) _).alloc (by simp; omega) _).alloc (by simp; omega) _)

theorem told_any (n : Nat) (w : World) (hg : Handle w) : Calls Tryd.prog 16 #[errV n] w fun e w' => e = .returned (.int .i64 n) ∧ Below w.heap.size w w' := by
  unfold errV
  split
  · rename_i h
    subst h
    refine (told_nil w).mono ?_
    rintro e w' ⟨rfl, rfl⟩
    exact ⟨rfl, Below.refl _ _⟩
  · exact told_err n w hg

set_option maxHeartbeats 400000 in
theorem error_same (n : Nat) (w : World) (hg : Handle w) : Calls Tryd.prog 8 #[errV n, .int .i64 n] w fun e w' => e = .returned (.bool true) ∧ Below w.heap.size w w' := by
  have HG : Hid (Handle w) := hg
  clear hg
  generalize hv : errV n = v
  have HV : Hid (errV n = v) := hv
  clear hv
  have hnn : ((n : Int) == (n : Int)) = true := by simp
  go_enter Tryd.func8, Tryd.ntmps8
  go_wp2_with (go_at_call 16; go_must (rw [← HV.out]; refine (told_any n _ HG.out).mono ?_; rintro e w1 ⟨rfl, hb⟩))
  go_ret
  exact ⟨rfl, hb⟩
end Go.Proofs.YtennlinnclcngaaDoor
