/- The walks of lists.order's find, of lists.price, and of lists.start; lists.order's forward, at whatever places. -/
import Derived.Test.YtnjfmlojbaigjabOFwd
namespace Go.Proofs.Ytnjfmlojbaigjab
set_option maxRecDepth 100000
open Go.RowKit Go.Sort

theorem four_cases {k : Nat} (h : k < 4) : k = 0 ∨ k = 1 ∨ k = 2 ∨ k = 3 := by omega
theorem forward_any (s : O4) (i j : Nat) (hi : i < 4) (hj : j ≤ i) (w : World) :
    Calls Try.prog 44 #[s.v, .int .i64 i, .int .i64 j] w fun e w' => e = .returned (s.fw i j).v ∧ Below w.heap.size w w' := by
  rcases four_cases hi with rfl | rfl | rfl | rfl
  · obtain rfl : j = 0 := by omega
    exact forward00 s w
  · rcases (by omega : j = 0 ∨ j = 1) with rfl | rfl
    · exact forward10 s w
    · exact forward11 s w
  · rcases (by omega : j = 0 ∨ j = 1 ∨ j = 2) with rfl | rfl | rfl
    · exact forward20 s w
    · exact forward21 s w
    · exact forward22 s w
  · rcases (by omega : j = 0 ∨ j = 1 ∨ j = 2 ∨ j = 3) with rfl | rfl | rfl | rfl
    · exact forward30 s w
    · exact forward31 s w
    · exact forward32 s w
    · exact forward33 s w
/-- An order as a list. -/
def O4.l (s : O4) : List Int := [(s.a.val : Nat), (s.b.val : Nat), (s.c.val : Nat), (s.d.val : Nat)]
theorem O4.isInts {w : World} {B : Nat} {s : O4} {t : TypeId} (h : Lies w B s.cells t) : IsInts w (.slice (some ⟨B, 0, none⟩) 4 4) s.l := by
  refine .inr ⟨B, 0, 4, rfl, (by show 0 < 4; omega), Nat.le_refl 4, by unfold maxLen; omega, fun j hj => ?_⟩
  have hj4 : j < 4 := hj
  rcases four_cases hj4 with rfl | rfl | rfl | rfl
  · exact h.cell rfl
  · exact h.cell rfl
  · exact h.cell rfl
  · exact h.cell rfl
set_option maxHeartbeats 1000000 in
theorem find_any (s : O4) (x : Int) (w : World) :
    Calls Try.prog 42 #[s.v, .int .i64 x] w fun e w' => e = .returned (.int .i64 (at_ s.l x)) ∧ w' = w.alloc (.cells s.cells 46) := by
  have HI : Hid (IsInts (w.alloc (.cells s.cells 46)) (.slice (some ⟨w.heap.size, 0, none⟩) 4 4) s.l) := O4.isInts (Lies.new w s.cells 46)
  go_enter Try.func42, Try.ntmps42
  go_wp2_with (go_at_call 65; go_must (refine (index_any _ s.l x _ HI.out).mono ?_; rintro e w' ⟨rfl, hw⟩; have hw := hw.symm; subst hw))
  go_ret
  exact ⟨rfl, rfl⟩
theorem price_any (n : Int) (h0 : -1 ≤ n) (h1 : n ≤ 4) (w : World) :
    Calls Try.prog 43 #[.int .i64 n] w fun e w' => e = .returned (.int .i64 (n + 1)) ∧ w' = w := by
  go_enter Try.func43, Try.ntmps43
  go_wp2
  go_ret
  exact ⟨rfl, rfl⟩
def O4.id : O4 := ⟨0, 1, 2, 3⟩
/-- The first k of them, written. -/
def idTo : Nat → Array Value
  | 0 => #[.int .i64 0, .int .i64 0, .int .i64 0, .int .i64 0]
  | 1 => #[.int .i64 0, .int .i64 0, .int .i64 0, .int .i64 0]
  | 2 => #[.int .i64 0, .int .i64 1, .int .i64 0, .int .i64 0]
  | 3 => #[.int .i64 0, .int .i64 1, .int .i64 2, .int .i64 0]
  | _ => #[.int .i64 0, .int .i64 1, .int .i64 2, .int .i64 3]
set_option maxHeartbeats 1000000 in
theorem lstart_any (w : World) : Calls Try.prog 18 #[] w fun e w' => e = .returned O4.id.v ∧ Below w.heap.size w w' := by
  have L1 : Lies ((w.alloc (.cells #[.int .i64 0, .int .i64 0, .int .i64 0, .int .i64 0] 46)).alloc (.cells #[.int .i64 0, .int .i64 0, .int .i64 0, .int .i64 0] 46)) (w.heap.size + 1) (idTo 0) 46 := by
    have := Lies.new (w.alloc (.cells #[.int .i64 0, .int .i64 0, .int .i64 0, .int .i64 0] 46)) #[.int .i64 0, .int .i64 0, .int .i64 0, .int .i64 0] 46
    rwa [World.size_alloc] at this
  have L0 : Lies ((w.alloc (.cells #[.int .i64 0, .int .i64 0, .int .i64 0, .int .i64 0] 46)).alloc (.cells #[.int .i64 0, .int .i64 0, .int .i64 0, .int .i64 0] 46)) w.heap.size #[.int .i64 0, .int .i64 0, .int .i64 0, .int .i64 0] 46 := (Lies.new w _ _).alloc _
  have LB : Below w.heap.size w ((w.alloc (.cells #[.int .i64 0, .int .i64 0, .int .i64 0, .int .i64 0] 46)).alloc (.cells #[.int .i64 0, .int .i64 0, .int .i64 0, .int .i64 0] 46)) := ((Below.refl _ w).alloc (Nat.le_refl _) _).alloc (by simp) _
  have HS : Hid (_ ∧ _ ∧ _) := ⟨L1, L0, LB⟩
  clear L1 L0 LB
  go_enter Try.func18, Try.ntmps18
  go_wp2
  go_loopw [2, 3] (fun _ i wr => ∃ k : Nat, k ≤ 4 ∧ i = .int .i64 k ∧ Lies wr (w.heap.size + 1) (idTo k) 46 ∧ Lies wr w.heap.size #[.int .i64 0, .int .i64 0, .int .i64 0, .int .i64 0] 46 ∧ Below w.heap.size w wr) (fun _ i _ => 4 - (intOf i).toNat)
  case atStart => exact ⟨0, by omega, rfl, HS.out⟩
  case round =>
    obtain ⟨k, hk, rfl, l1, l0, hb⟩ := hrel
    have HB : Hid (Below w.heap.size w wr) := hb
    have H1 : Hid (Lies wr (w.heap.size + 1) (idTo k) 46) := l1
    have H0 : Hid (Lies wr w.heap.size #[.int .i64 0, .int .i64 0, .int .i64 0, .int .i64 0] 46) := l0
    rcases (by omega : k = 0 ∨ k = 1 ∨ k = 2 ∨ k = 3 ∨ k = 4) with rfl | rfl | rfl | rfl | rfl
    · have c := l1.cell (j := 0) rfl
      have f := l1.frozen (j := 0)
      clear l1 l0 hb
      go_wp2
      go_roundw
      case rel => exact ⟨1, by omega, rfl, H1.out.set _, H0.out.other (by omega) _, HB.out.setCell (p := ⟨w.heap.size + 1, 0, none⟩) (by simp) _⟩
      case measure => simp [intOf]
    · have c := l1.cell (j := 1) rfl
      have f := l1.frozen (j := 1)
      clear l1 l0 hb
      go_wp2
      go_roundw
      case rel => exact ⟨2, by omega, rfl, H1.out.set _, H0.out.other (by omega) _, HB.out.setCell (p := ⟨w.heap.size + 1, 1, none⟩) (by simp) _⟩
      case measure => simp [intOf]
    · have c := l1.cell (j := 2) rfl
      have f := l1.frozen (j := 2)
      clear l1 l0 hb
      go_wp2
      go_roundw
      case rel => exact ⟨3, by omega, rfl, H1.out.set _, H0.out.other (by omega) _, HB.out.setCell (p := ⟨w.heap.size + 1, 2, none⟩) (by simp) _⟩
      case measure => simp [intOf]
    · have c := l1.cell (j := 3) rfl
      have f := l1.frozen (j := 3)
      clear l1 l0 hb
      go_wp2
      go_roundw
      case rel => exact ⟨4, by omega, rfl, H1.out.set _, H0.out.other (by omega) _, HB.out.setCell (p := ⟨w.heap.size + 1, 3, none⟩) (by simp) _⟩
      case measure => simp [intOf]
    · have c0 := l1.cell (j := 0) (v := .int .i64 0) rfl
      have c1 := l1.cell (j := 1) (v := .int .i64 1) rfl
      have c2 := l1.cell (j := 2) (v := .int .i64 2) rfl
      have c3 := l1.cell (j := 3) (v := .int .i64 3) rfl
      have d0 := l0.cell (j := 0) rfl
      have d1 := l0.cell (j := 1) rfl
      have d2 := l0.cell (j := 2) rfl
      have d3 := l0.cell (j := 3) rfl
      have g0 := l0.frozen (j := 0)
      have g1 := l0.frozen (j := 1)
      have g2 := l0.frozen (j := 2)
      have g3 := l0.frozen (j := 3)
      clear l1 l0 hb
      go_wp2
      refine bodyPost_ret (v := .agg #[.int .i64 0, .int .i64 1, .int .i64 2, .int .i64 3]) (by simp [results, Try.results18, go_sem, d0, d1, d2, d3, Result.andThen]) rfl ⟨rfl, ?_⟩
      exact (((HB.out.setCell (p := ⟨w.heap.size, 0, none⟩) (Nat.le_refl _) _).setCell (p := ⟨w.heap.size, 1, none⟩) (Nat.le_refl _) _).setCell (p := ⟨w.heap.size, 2, none⟩) (Nat.le_refl _) _).setCell (p := ⟨w.heap.size, 3, none⟩) (Nat.le_refl _) _
end Go.Proofs.Ytnjfmlojbaigjab
