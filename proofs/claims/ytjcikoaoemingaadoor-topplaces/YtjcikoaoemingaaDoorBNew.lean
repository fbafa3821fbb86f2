/- The walk of buddy.New. -/
import Derived.Test.YtjcikoaoemingaaDoorBBack
import Derived.WideMake
namespace Go.Proofs.YtjcikoaoemingaaDoor
open Go.RowKit Go.Maps Go.Sort

set_option maxHeartbeats 1000000 in
theorem new_any (H : Type) (w : World) :
    Calls Tryd.prog 21 #[] w fun e w' => ∃ a b, e = .returned (.pointer (some ⟨a, 0, none⟩)) ∧ Arena H w' w.heap.size a b [] ∧ Below w.heap.size w w' := by
  have hmk : ∀ w, (Instr.makeMap 68 none).run Tryd.prog w = .ok (.map (some w.heap.size)) (w.alloc (.map #[] 0)) := fun w => run_makeMap_plain (w := w) _
  go_enter Tryd.func21, Tryd.ntmps21
  go_wp2_with (go_at_call 36; fail)
  have hsz : (w.alloc (.map #[] 0)).heap.size = w.heap.size + 1 := by simp
  have HC : Hid (Cells ((w.alloc (.map #[] 0)).alloc (.cells #[.int .u64 0, .int .u64 0, .int .u64 0, .int .u64 0, .int .u64 0, .int .u64 0, .int .u64 0, .map (some w.heap.size)] 73)) (w.heap.size + 1) (fun _ => 0) w.heap.size) := by
    unfold Hid Cells
    have := heap_alloc_new (w.alloc (.map #[] 0)) (.cells #[.int .u64 0, .int .u64 0, .int .u64 0, .int .u64 0, .int .u64 0, .int .u64 0, .int .u64 0, .map (some w.heap.size)] 73)
    rw [hsz] at this
    exact this
  have HM : Hid (IsMapI H ((w.alloc (.map #[] 0)).alloc (.cells #[.int .u64 0, .int .u64 0, .int .u64 0, .int .u64 0, .int .u64 0, .int .u64 0, .int .u64 0, .map (some w.heap.size)] 73)) w.heap.size 64 (lookI [])) :=
    ((isMapI_new w).same (Below.heap_alloc _ _ _ (by simp))).mono (by omega)
  have HB : Hid (Below w.heap.size w ((w.alloc (.map #[] 0)).alloc (.cells #[.int .u64 0, .int .u64 0, .int .u64 0, .int .u64 0, .int .u64 0, .int .u64 0, .int .u64 0, .map (some w.heap.size)] 73))) := ((Below.refl _ w).alloc (Nat.le_refl _) _).alloc (by simp) _
  generalize ((w.alloc (.map #[] 0)).alloc (.cells #[.int .u64 0, .int .u64 0, .int .u64 0, .int .u64 0, .int .u64 0, .int .u64 0, .int .u64 0, .map (some w.heap.size)] 73)) = w1 at *
  have hput := put_any ⟨w.heap.size + 1, 6, none⟩ 0 0 (by omega) (by omega) w1 (HC.out.word (by omega)) (HC.out.frozen 6)
  refine hput.mono ?_
  rintro e w2 ⟨rfl, q, hw2⟩
  have HE : Hid (Arena H w2 w.heap.size (w.heap.size + 1) w.heap.size [] ∧ Below w.heap.size w w2) := by
    subst hw2
    refine ⟨⟨⟨_, Cells.set (w := w1.drewN q) (HC.out.same rfl) (by omega) _, ?_⟩, HM.out.same (Below.heap_setCell (w1.drewN q) _ _ _ (show w.heap.size ≠ w.heap.size + 1 by omega)), ⟨fun b hb => by simp at hb, List.Pairwise.nil⟩, List.Pairwise.nil, by omega, Nat.le_refl _⟩, ?_⟩
    · intro k hk
      exact words_none k hk
    · exact Below.setCell (w := w1.drewN q) ⟨HB.out.os, HB.out.tape, HB.out.output, HB.out.size, HB.out.block⟩ (show w.heap.size ≤ w.heap.size + 1 by omega) _
  clear hw2 hput
  go_wp2
  go_ret
  exact ⟨_, _, rfl, HE.out⟩
end Go.Proofs.YtjcikoaoemingaaDoor
