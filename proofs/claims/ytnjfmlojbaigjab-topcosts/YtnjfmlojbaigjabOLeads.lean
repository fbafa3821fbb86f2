/- The walks of what lists.Least and lists.rearranged hand on. -/
import Derived.Test.YtnjfmlojbaigjabOIter
namespace Go.Proofs.Ytnjfmlojbaigjab
set_option maxRecDepth 100000
open Go.RowKit Go.Maps Go.Shelf Go.Sort

set_option maxHeartbeats 1000000 in
theorem foundF_any (s : O4) (x : Int) (w : World) :
    Calls Try.prog 22 #[s.v, .int .i64 x] w fun e w' => e = .returned (.func (.func 50) #[] #[.pointer (some ⟨w.heap.size, 0, none⟩), .pointer (some ⟨w.heap.size + 1, 0, none⟩)]) ∧ w' = (w.alloc (.cells s.cells 46)).alloc (.cells #[.int .i64 x] 3) := by
  go_enter Try.func22, Try.ntmps22
  go_wp2
  go_ret
  exact ⟨rfl, rfl⟩
set_option maxHeartbeats 1000000 in
theorem changedF_any (s : O4) (x : Int) (w : World) :
    Calls Try.prog 47 #[s.v, .int .i64 x] w fun e w' => e = .returned (.func (.func 66) #[] #[.pointer (some ⟨w.heap.size, 0, none⟩), .pointer (some ⟨w.heap.size + 1, 0, none⟩)]) ∧ w' = (w.alloc (.cells s.cells 46)).alloc (.cells #[.int .i64 x] 3) := by
  go_enter Try.func47, Try.ntmps47
  go_wp2
  go_ret
  exact ⟨rfl, rfl⟩
set_option maxHeartbeats 1000000 in
theorem leadF_any (s : O4) (Bx : Nat) (x : Int) (w : World) (h : w.cell? ⟨Bx, 0, none⟩ = some (.int .i64 x)) :
    Calls Try.prog 21 #[s.v, .pointer (some ⟨Bx, 0, none⟩)] w fun e w' => e = .returned (.func (.func 50) #[] #[.pointer (some ⟨w.heap.size + 1, 0, none⟩), .pointer (some ⟨w.heap.size + 1 + 1, 0, none⟩)]) ∧ w' = ((w.alloc (.cells s.cells 46)).alloc (.cells s.cells 46)).alloc (.cells #[.int .i64 x] 3) := by
  have h1 : (w.alloc (.cells s.cells 46)).cell? ⟨Bx, 0, none⟩ = some (.int .i64 x) := Lib.cell?_alloc_some _ h
  clear h
  go_enter Try.func21, Try.ntmps21
  go_wp2_with (go_at_call 22; go_must (refine (foundF_any s x _).mono ?_; rintro e w' ⟨rfl, rfl⟩))
  go_ret
  exact ⟨by simp, rfl⟩
set_option maxHeartbeats 1000000 in
theorem leadC_any (s : O4) (Bx : Nat) (x : Int) (w : World) (h : w.cell? ⟨Bx, 0, none⟩ = some (.int .i64 x)) :
    Calls Try.prog 46 #[s.v, .pointer (some ⟨Bx, 0, none⟩)] w fun e w' => e = .returned (.func (.func 66) #[] #[.pointer (some ⟨w.heap.size + 1, 0, none⟩), .pointer (some ⟨w.heap.size + 1 + 1, 0, none⟩)]) ∧ w' = ((w.alloc (.cells s.cells 46)).alloc (.cells s.cells 46)).alloc (.cells #[.int .i64 x] 3) := by
  have h1 : (w.alloc (.cells s.cells 46)).cell? ⟨Bx, 0, none⟩ = some (.int .i64 x) := Lib.cell?_alloc_some _ h
  clear h
  go_enter Try.func46, Try.ntmps46
  go_wp2_with (go_at_call 47; go_must (refine (changedF_any s x _).mono ?_; rintro e w' ⟨rfl, rfl⟩))
  go_ret
  exact ⟨by simp, rfl⟩
theorem two_boxes (W : World) (s : O4) (x : Int) : Lies (((W.alloc (.cells s.cells 46)).alloc (.cells s.cells 46)).alloc (.cells #[.int .i64 x] 3)) (W.heap.size + 1) s.cells 46 ∧ Boxed (((W.alloc (.cells s.cells 46)).alloc (.cells s.cells 46)).alloc (.cells #[.int .i64 x] 3)) (W.heap.size + 1 + 1) 3 (.int .i64 x) := by
  have l1 := (Lies.new (W.alloc (.cells s.cells 46)) s.cells 46).alloc (.cells #[.int .i64 x] 3)
  have l2 := Boxed.new ((W.alloc (.cells s.cells 46)).alloc (.cells s.cells 46)) 3 (.int .i64 x)
  simp only [World.size_alloc] at l1 l2
  exact ⟨l1, l2⟩
theorem leads_found {w : World} {Bx : Nat} {x : Int} (h : w.cell? ⟨Bx, 0, none⟩ = some (.int .i64 x)) :
    LeadsTo w 21 #[.pointer (some ⟨Bx, 0, none⟩)] 50 (fun s => foundL s x) 7 := by
  intro bn s W h1 h2 h3
  refine (leadF_any s Bx x W ((h3.cell (World.block_lt_of_cell? w _ h)).trans h)).mono ?_
  rintro e W' ⟨rfl, rfl⟩
  refine ⟨_, rfl, (((Below.refl _ W).alloc (Nat.le_refl _) _).alloc (by simp) _).alloc (by simp; omega) _, fun n hn => ?_⟩
  exact found_stops n hn _ _ bn s x _ ⟨by omega, by omega⟩ (two_boxes W s x).1 (two_boxes W s x).2
theorem leads_changed {w : World} {Bx m : Nat} (hm1 : 1 ≤ m) (hm4 : m ≤ 4) (h : w.cell? ⟨Bx, 0, none⟩ = some (.int .i64 (m : Nat))) :
    LeadsTo w 46 #[.pointer (some ⟨Bx, 0, none⟩)] 66 (fun s => chTo s (m - 1)) 7 := by
  intro bn s W h1 h2 h3
  refine (leadC_any s Bx m W ((h3.cell (World.block_lt_of_cell? w _ h)).trans h)).mono ?_
  rintro e W' ⟨rfl, rfl⟩
  refine ⟨_, rfl, (((Below.refl _ W).alloc (Nat.le_refl _) _).alloc (by simp) _).alloc (by simp; omega) _, fun n hn => ?_⟩
  exact changed_stops n hn _ _ bn s m hm1 hm4 _ ⟨by omega, by omega⟩ (two_boxes W s m).1 (two_boxes W s m).2
end Go.Proofs.Ytnjfmlojbaigjab
