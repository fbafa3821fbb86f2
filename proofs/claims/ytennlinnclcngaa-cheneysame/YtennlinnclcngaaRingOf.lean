/- A ring of three nodes, and one apart; what it comes to. -/
import Derived.Test.YtennlinnclcngaaGReach
namespace Go.Proofs.Ytennlinnclcngaa
set_option maxRecDepth 100000
open Go.RowKit Go.Sort

def ringL : List (List Int) := [[1], [2], [0], [0]]
theorem one_row (w : World) (x : Int) : IsInts (w.alloc (.cells #[.int .i64 x] 3)) (.slice (some ⟨w.heap.size, 0, none⟩) 1 1) [x] :=
  isInts_new (l := [x]) (t := 3) (cur := #[.int .i64 x]) rfl (by simp) (heap_alloc_new _ _)
def ringB (B : Nat) : Obj := .cells #[.slice (some ⟨B + 1 + 1 + 1 + 1 + 1, 0, none⟩) 4 4, .slice (some ⟨B + 1 + 1 + 1 + 1 + 1 + 1, 0, none⟩) 1 1] 25
def ringR (B : Nat) : Obj := .cells #[.slice (some ⟨B + 1, 0, none⟩) 1 1, .slice (some ⟨B + 1 + 1, 0, none⟩) 1 1, .slice (some ⟨B + 1 + 1 + 1, 0, none⟩) 1 1, .slice (some ⟨B + 1 + 1 + 1 + 1, 0, none⟩) 1 1] 23
theorem ring_world (w : World) (r : Int) :
    IsHeap (((((((w.alloc (ringB w.heap.size)).alloc (.cells #[.int .i64 1] 3)).alloc (.cells #[.int .i64 2] 3)).alloc (.cells #[.int .i64 0] 3)).alloc (.cells #[.int .i64 0] 3)).alloc (ringR w.heap.size)).alloc (.cells #[.int .i64 r] 3))
      (.agg #[.slice (some ⟨w.heap.size + 1 + 1 + 1 + 1 + 1, 0, none⟩) 4 4, .slice (some ⟨w.heap.size + 1 + 1 + 1 + 1 + 1 + 1, 0, none⟩) 1 1]) ringL [r] ∧
    Below w.heap.size w (((((((w.alloc (ringB w.heap.size)).alloc (.cells #[.int .i64 1] 3)).alloc (.cells #[.int .i64 2] 3)).alloc (.cells #[.int .i64 0] 3)).alloc (.cells #[.int .i64 0] 3)).alloc (ringR w.heap.size)).alloc (.cells #[.int .i64 r] 3)) ∧
    (((((((w.alloc (ringB w.heap.size)).alloc (.cells #[.int .i64 1] 3)).alloc (.cells #[.int .i64 2] 3)).alloc (.cells #[.int .i64 0] 3)).alloc (.cells #[.int .i64 0] 3)).alloc (ringR w.heap.size)).alloc (.cells #[.int .i64 r] 3)).heap[w.heap.size]? = some (ringB w.heap.size) := by
  obtain ⟨B, hB⟩ : ∃ B, B = w.heap.size := ⟨_, rfl⟩
  rw [← hB]
  have z1 : Below w.heap.size w (w.alloc (ringB B)) := (Below.refl _ w).alloc (Nat.le_refl _) _
  have s1 : (w.alloc (ringB B)).heap.size = B + 1 := by rw [hB]; simp
  have e1 : (w.alloc (ringB B)).heap[B]? = some (ringB B) := by rw [hB]; exact heap_alloc_new _ _
  generalize w.alloc (ringB B) = w1 at *
  have i2 := one_row w1 1
  have z2 : Below w1.heap.size w1 (w1.alloc (.cells #[.int .i64 1] 3)) := (Below.refl _ _).alloc (Nat.le_refl _) _
  have s2 : (w1.alloc (.cells #[.int .i64 1] 3)).heap.size = B + 1 + 1 := by simp [s1]
  rw [s1] at i2
  generalize w1.alloc (.cells #[.int .i64 1] 3) = w2 at *
  have i3 := one_row w2 2
  have z3 : Below w2.heap.size w2 (w2.alloc (.cells #[.int .i64 2] 3)) := (Below.refl _ _).alloc (Nat.le_refl _) _
  have s3 : (w2.alloc (.cells #[.int .i64 2] 3)).heap.size = B + 1 + 1 + 1 := by simp [s2]
  rw [s2] at i3
  generalize w2.alloc (.cells #[.int .i64 2] 3) = w3 at *
  have i4 := one_row w3 0
  have z4 : Below w3.heap.size w3 (w3.alloc (.cells #[.int .i64 0] 3)) := (Below.refl _ _).alloc (Nat.le_refl _) _
  have s4 : (w3.alloc (.cells #[.int .i64 0] 3)).heap.size = B + 1 + 1 + 1 + 1 := by simp [s3]
  rw [s3] at i4
  generalize w3.alloc (.cells #[.int .i64 0] 3) = w4 at *
  have i5 := one_row w4 0
  have z5 : Below w4.heap.size w4 (w4.alloc (.cells #[.int .i64 0] 3)) := (Below.refl _ _).alloc (Nat.le_refl _) _
  have s5 : (w4.alloc (.cells #[.int .i64 0] 3)).heap.size = B + 1 + 1 + 1 + 1 + 1 := by simp [s4]
  rw [s4] at i5
  generalize w4.alloc (.cells #[.int .i64 0] 3) = w5 at *
  have z6 : Below w5.heap.size w5 (w5.alloc (ringR B)) := (Below.refl _ _).alloc (Nat.le_refl _) _
  have s6 : (w5.alloc (ringR B)).heap.size = B + 1 + 1 + 1 + 1 + 1 + 1 := by simp [s5]
  have c0 : (w5.alloc (ringR B)).cell? ⟨B + 1 + 1 + 1 + 1 + 1, 0 + 0, none⟩ = some (.slice (some ⟨B + 1, 0, none⟩) 1 1) := by rw [← s5]; simp [ringR]
  have c1 : (w5.alloc (ringR B)).cell? ⟨B + 1 + 1 + 1 + 1 + 1, 0 + 1, none⟩ = some (.slice (some ⟨B + 1 + 1, 0, none⟩) 1 1) := by rw [← s5]; simp [ringR]
  have c2 : (w5.alloc (ringR B)).cell? ⟨B + 1 + 1 + 1 + 1 + 1, 0 + 2, none⟩ = some (.slice (some ⟨B + 1 + 1 + 1, 0, none⟩) 1 1) := by rw [← s5]; simp [ringR]
  have c3 : (w5.alloc (ringR B)).cell? ⟨B + 1 + 1 + 1 + 1 + 1, 0 + 3, none⟩ = some (.slice (some ⟨B + 1 + 1 + 1 + 1, 0, none⟩) 1 1) := by rw [← s5]; simp [ringR]
  generalize w5.alloc (ringR B) = w6 at *
  have i7 := one_row w6 r
  have z7 : Below w6.heap.size w6 (w6.alloc (.cells #[.int .i64 r] 3)) := (Below.refl _ _).alloc (Nat.le_refl _) _
  rw [s6] at i7
  have hrow : IsRows w6 (.slice (some ⟨B + 1 + 1 + 1 + 1 + 1, 0, none⟩) 4 4) ringL := by
    refine ⟨_, 4, rfl, by unfold maxLen; omega, fun k hk => ⟨_, 0, rfl, Nat.le_refl _, by rw [s6]; omega, ?_⟩⟩
    rcases (by simp [ringL] at hk; omega : k = 0 ∨ k = 1 ∨ k = 2 ∨ k = 3) with rfl | rfl | rfl | rfl
    · exact ⟨_, c0, (((i2.below z3).below z4).below z5).below z6⟩
    · exact ⟨_, c1, ((i3.below z4).below z5).below z6⟩
    · exact ⟨_, c2, (i4.below z5).below z6⟩
    · exact ⟨_, c3, i5.below z6⟩
  have t2 : Below w1.heap.size w1 w6 := z2.trans ((z3.mono z2.size).trans ((z4.mono (Nat.le_trans z2.size z3.size)).trans ((z5.mono (by rw [s1, s4]; omega)).trans (z6.mono (by rw [s1, s5]; omega)))))
  have t7 : Below w1.heap.size w1 (w6.alloc (.cells #[.int .i64 r] 3)) := t2.trans (z7.mono t2.size)
  refine ⟨⟨_, _, rfl, hrow.below z7, i7⟩, by rw [hB]; exact z1.trans (t7.mono z1.size), ?_⟩
  rw [t7.block B (by rw [s1]; omega)]; exact e1
set_option maxHeartbeats 1000000 in
theorem ringof_any (r : Int) (w : World) :
    Calls Try.prog 14 #[.int .i64 r] w fun e w' => ∃ v, e = .returned v ∧ IsHeap w' v ringL [r] ∧ Below w.heap.size w w' := by
  go_enter Try.func14, Try.ntmps14
  go_wp2
  obtain ⟨h1, h2, h3⟩ := ring_world w r
  refine bodyPost_ret_by (results_cell_row Try.results14 _ _ w.heap.size 25 #[.slice (some ⟨w.heap.size + 1 + 1 + 1 + 1 + 1, 0, none⟩) 4 4, .slice (some ⟨w.heap.size + 1 + 1 + 1 + 1 + 1 + 1, 0, none⟩) 1 1] (0, 0) _ rfl h3 Try.underlying25 rfl (by kernel_rfl)) rfl ?_
  exact ⟨_, rfl, h1, h2⟩

theorem bits_unique {m n : Nat} (hm : m < 65536) (hn : n < 65536) (h : ∀ i : Nat, i < 16 → m.testBit i = n.testBit i) : m = n := by
  refine Nat.eq_of_testBit_eq fun i => ?_
  by_cases hi : i < 16
  · exact h i hi
  · rw [Nat.testBit_lt_two_pow (Nat.lt_of_lt_of_le hm (Nat.pow_le_pow_right (n := 2) (by omega) (show 16 ≤ i by omega))), Nat.testBit_lt_two_pow (Nat.lt_of_lt_of_le hn (Nat.pow_le_pow_right (n := 2) (by omega) (show 16 ≤ i by omega)))]
theorem comes_unique {L : List (List Int)} {S : List Int} {m n : Nat} (hm : Comes L S m) (hn : Comes L S n) : m = n :=
  bits_unique hm.1 hn.1 fun i hi => by rw [Bool.eq_iff_iff, hm.2 i hi, hn.2 i hi]
/-- What some nodes come to, reckoned. -/
def comesM (L : List (List Int)) (S : List Int) : Nat := setM (spreadAll (gOf L) (upTo L.length) (addNew [] S) L.length)
theorem comesM_comes {L : List (List Int)} {R S : List Int} (hf : FineH L R) (hS : ∀ x, x ∈ S → 0 ≤ x ∧ x < L.length) : Comes L S (comesM L S) := by
  have hmem : ∀ y, y ∈ addNew [] S ↔ y ∈ S := fun y => by rw [addNew_mem]; simp
  have h16 : allIn (spreadAll (gOf L) (upTo L.length) (addNew [] S) L.length) := fun x hx => by
    have := hf.come hS (spreadAll_come (R := S) (fun y hy => .root ((hmem y).1 hy)) _ x hx)
    have := hf.few; omega
  have hm := setM_msk h16
  exact ⟨hm.1, fun i hi => spread_come hf (addNew_nodup (by simp)) hmem hS hm hi⟩
theorem ring_fine (r : Int) (h0 : 0 ≤ r) (h1 : r < 4) : FineH ringL [r] := by
  refine ⟨by decide, by simp, fun x hx => ?_, by decide, by decide⟩
  have : x = r := by simpa using hx
  subst this
  exact ⟨h0, by simpa [ringL] using h1⟩
theorem ring_reach {m : Nat} (h : ReachIs ringL [1] m) : m = 7 := by
  unfold ReachIs at h
  rw [if_pos (chkH_zero.2 (ring_fine 1 (by decide) (by decide)))] at h
  have := comes_unique h (comesM_comes (ring_fine 1 (by decide) (by decide)) (ring_fine 1 (by decide) (by decide)).root)
  rw [this]
  decide +kernel
end Go.Proofs.Ytennlinnclcngaa
