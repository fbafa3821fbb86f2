/- The walks of find: slices.BinarySearchFunc at rows of places, by where they begin. -/
import Derived.Test.YtjcikoaoemingaaDoorFRow
namespace Go.Proofs.YtjcikoaoemingaaDoor
open Go.RowKit Go.Sort

def cmpI (a z : Int) : Int := if a < z then -1 else if z < a then 1 else 0
/-- How many blocks begin ahead of a place (of rising ones). -/
def posF : List (Nat × Nat) → Int → Nat
  | [], _ => 0
  | b :: r, z => if (b.1 : Int) < z then posF r z + 1 else 0
theorem posF_le : ∀ (L : List (Nat × Nat)) (z : Int), posF L z ≤ L.length
  | [], _ => Nat.le_refl _
  | b :: r, z => by
    unfold posF
    split
    · have := posF_le r z; simp; omega
    · simp
theorem posF_is : ∀ {L : List (Nat × Nat)} {z : Int} {i : Nat}, i ≤ L.length → (∀ k, k < i → ((blkAt L k).1 : Int) < z) → (∀ k, i ≤ k → k < L.length → ¬ ((blkAt L k).1 : Int) < z) → posF L z = i
  | [], z, i, hi, _, _ => by simp at hi; subst hi; rfl
  | b :: r, z, 0, _, _, h2 => by
    have := h2 0 (Nat.le_refl _) (by simp)
    unfold posF
    rw [if_neg (by simpa [blkAt] using this)]
  | b :: r, z, i + 1, hi, h1, h2 => by
    have := h1 0 (by omega)
    unfold posF
    rw [if_pos (by simpa [blkAt] using this)]
    congr 1
    refine posF_is (by simpa using hi) (fun k hk => ?_) (fun k hk hl => ?_)
    · have := h1 (k + 1) (by omega)
      simpa [blkAt] using this
    · have := h2 (k + 1) (by omega) (by simpa using hl)
      simpa [blkAt] using this
/-- Whether a block begins there. -/
def isF (L : List (Nat × Nat)) (z : Int) : Bool := decide (posF L z < L.length) && (((blkAt L (posF L z)).1 : Int) == z)
theorem laid_lt {p : Nat} : ∀ {L : List (Nat × Nat)}, LaidF p L → ∀ i j, i < j → j < L.length → (blkAt L i).1 < (blkAt L j).1
  | [], _, i, j, _, hj => by simp at hj
  | b :: r, h, 0, j + 1, _, hj => by
    have h1 : j < r.length := by simpa using hj
    have := h.2.2.mem (r[j]) (List.getElem_mem h1)
    have h2 := h.2.1
    have e : blkAt (b :: r) (j + 1) = r[j] := by simp [blkAt, h1]
    have e0 : blkAt (b :: r) 0 = b := rfl
    rw [e, e0]
    omega
  | b :: r, h, i + 1, j + 1, hij, hj => by
    have := laid_lt h.2.2 i j (by omega) (by simpa using hj)
    simpa [blkAt] using this

theorem isnan_any (x : Int) (w : World) : Calls Tryd.prog 50 #[.int .i64 x] w fun e w' => e = .returned (.bool false) ∧ w' = w := by
  go_enter Tryd.func50, Tryd.ntmps50
  go_wp2
  go_ret
  exact ⟨by simp, rfl⟩
theorem compare_any (x y : Int) (w : World) : Calls Tryd.prog 44 #[.int .i64 x, .int .i64 y] w fun e w' => e = .returned (.int .i64 (cmpI x y)) ∧ w' = w := by
  have HC : Hid (cmpI x y = if x < y then -1 else if y < x then 1 else 0) := rfl
  rcases (by omega : x < y ∨ (¬ x < y ∧ y < x) ∨ (¬ x < y ∧ ¬ y < x)) with h1 | ⟨h1, h2⟩ | ⟨h1, h2⟩
  · have HE : Hid (cmpI x y = -1) := (by unfold Hid; rw [HC.out, if_pos h1])
    clear HC
    go_enter Tryd.func44, Tryd.ntmps44
    go_wp2_with (first | (go_at_call_of 50 (Value.int .i64 x); go_must (refine (isnan_any x _).mono ?_; rintro e w1 ⟨rfl, hw1⟩; have hw1 := hw1.symm; subst hw1)) | (go_at_call 50; go_must (refine (isnan_any y _).mono ?_; rintro e w1 ⟨rfl, hw1⟩; have hw1 := hw1.symm; subst hw1)))
    go_ret
    exact ⟨by rw [HE.out]; rfl, rfl⟩
  · have HE : Hid (cmpI x y = 1) := (by unfold Hid; rw [HC.out, if_neg h1, if_pos h2])
    clear HC
    go_enter Tryd.func44, Tryd.ntmps44
    go_wp2_with (first | (go_at_call_of 50 (Value.int .i64 x); go_must (refine (isnan_any x _).mono ?_; rintro e w1 ⟨rfl, hw1⟩; have hw1 := hw1.symm; subst hw1)) | (go_at_call 50; go_must (refine (isnan_any y _).mono ?_; rintro e w1 ⟨rfl, hw1⟩; have hw1 := hw1.symm; subst hw1)))
    go_ret
    exact ⟨by rw [HE.out]; rfl, rfl⟩
  · have HE : Hid (cmpI x y = 0) := (by unfold Hid; rw [HC.out, if_neg h1, if_neg h2])
    clear HC
    go_enter Tryd.func44, Tryd.ntmps44
    go_wp2_with (first | (go_at_call_of 50 (Value.int .i64 x); go_must (refine (isnan_any x _).mono ?_; rintro e w1 ⟨rfl, hw1⟩; have hw1 := hw1.symm; subst hw1)) | (go_at_call 50; go_must (refine (isnan_any y _).mono ?_; rintro e w1 ⟨rfl, hw1⟩; have hw1 := hw1.symm; subst hw1)))
    go_ret
    exact ⟨by rw [HE.out]; rfl, rfl⟩
theorem before_any (a s : Nat) (z : Int) (w : World) : Calls Tryd.prog 43 #[.agg #[.int .i64 (a : Nat), .int .i64 (s : Nat)], .int .i64 z] w fun e w' => e = .returned (.int .i64 (cmpI a z)) ∧ Below w.heap.size w w' := by
  go_enter Tryd.func43, Tryd.ntmps43
  go_wp2_with (go_at_call 44; go_must (refine (compare_any _ _ _).mono ?_; rintro e w1 ⟨rfl, rfl⟩))
  go_ret
  exact ⟨rfl, (Below.refl _ w).alloc (Nat.le_refl _) _⟩

set_option maxHeartbeats 2000000 in
theorem search_any (base : Nat) (v : Value) (L : List (Nat × Nat)) (hL : LaidF 0 L) (z : Int) (w : World) (hO : OwnF w base v L) :
    Calls Tryd.prog 42 #[v, .int .i64 z, .func (.func 43) #[] #[]] w fun e w' => e = .returned (.tuple #[.int .i64 (posF L z : Nat), .bool (isF L z)]) ∧ Below w.heap.size w w' := by
  have hlen : L.length ≤ 64 := by
    have : ∀ {p : Nat} {F : List (Nat × Nat)}, LaidF p F → p + F.length ≤ 64 := by
      intro p F
      induction F generalizing p with
      | nil => exact fun h => h
      | cons b r ih => intro h; have := ih h.2.2; have := h.1; have := h.2.1; simp; omega
    have := this hL
    omega
  have HL : Hid (∀ i j, i < j → j < L.length → (blkAt L i).1 < (blkAt L j).1) := laid_lt hL
  clear hL
  by_cases h0 : L.length = 0
  · have : L = [] := List.eq_nil_of_length_eq_zero h0
    subst this
    obtain ⟨ao, cap, rfl⟩ := hO.form
    have HE : Hid (posF [] z = 0 ∧ isF [] z = false) := ⟨rfl, rfl⟩
    clear hO
    go_enter Tryd.func42, Tryd.ntmps42
    go_wp2
    go_loop [9, 10] (fun i j => i = .int .i64 0 ∧ j = .int .i64 0) (fun _ _ => 0)
    case atStart => exact ⟨rfl, rfl⟩
    case round =>
      obtain ⟨rfl, rfl⟩ := hrel
      go_wp2
      go_ret2
      rw [HE.out.1, HE.out.2]
      exact ⟨rfl, Below.refl _ _⟩
  · obtain ⟨g, cap, rfl, hgb, hgw, hlc, hcap⟩ := hO.block (by omega)
    have HO : Hid (OwnF w base (.slice (some ⟨g, 0, none⟩) L.length cap) L) := hO
    clear hO
    unfold maxLen at hcap
    go_enter Tryd.func42, Tryd.ntmps42
    go_wp2
    go_loopw [9, 10, 11] (fun i j _ wr => ∃ a b : Nat, a ≤ b ∧ b ≤ L.length ∧ i = .int .i64 (a : Nat) ∧ j = .int .i64 (b : Nat) ∧ Below w.heap.size w wr ∧ Hid (∀ k, k < a → ((blkAt L k).1 : Int) < z) ∧ Hid (∀ k, b ≤ k → k < L.length → z ≤ ((blkAt L k).1 : Int))) (fun i j _ _ => (intOf j).toNat - (intOf i).toNat)
    case atStart => exact ⟨0, L.length, Nat.zero_le _, Nat.le_refl _, rfl, rfl, Below.refl _ _, fun k hk => absurd hk (Nat.not_lt_zero _), fun k h1 h2 => by omega⟩
    case round =>
      obtain ⟨a, b, hab, hbl, rfl, rfl, hbel, HA, HB⟩ := hrel
      by_cases hlt : a < b
      · have hlt' : (a : Int) < (b : Int) := by omega
        have hm : (a + b) / 2 < L.length := by omega
        have hc1 : wr.cell? ⟨g, (a + b) / 2 * 2, none⟩ = some (.int .i64 ((blkAt L ((a + b) / 2)).1 : Nat)) := (hbel.cell (by exact hgw)).trans (HO.out.at_ rfl hm)
        have hc2 : wr.cell? ⟨g, (a + b) / 2 * 2 + 1, none⟩ = some (.int .i64 ((blkAt L ((a + b) / 2)).2 : Nat)) := (hbel.cell (by exact hgw)).trans (HO.out.size rfl hm)
        generalize hx : blkAt L ((a + b) / 2) = x at hc1 hc2
        have HX : Hid (blkAt L ((a + b) / 2) = x) := hx
        clear hx
        obtain ⟨q, s⟩ := x
        simp only at hc1 hc2
        by_cases hq : (q : Int) < z
        · have HQ : Hid (cmpI q z = -1) := if_pos hq
          have HA2 : Hid (∀ k, k < (a + b) / 2 + 1 → ((blkAt L k).1 : Int) < z) := fun k hk => by
            by_cases e : k = (a + b) / 2
            · subst e; rw [HX.out]; exact hq
            · have := HL.out k ((a + b) / 2) (by omega) hm
              rw [HX.out] at this
              simp only at this
              omega
          clear hq HA
          go_wp2_with (go_at_call 43; go_must (refine (before_any q s z _).mono ?_; rintro e w' ⟨rfl, hb'⟩; rw [HQ.out]))
          go_roundw
          case rel => exact ⟨(a + b) / 2 + 1, b, by omega, hbl, by go_num, rfl, hbel.trans (hb'.mono hbel.size), HA2, HB⟩
          case measure => simp [intOf]; omega
        · obtain ⟨c, HQ, hc⟩ : ∃ c, Hid (cmpI q z = c) ∧ ¬ c < 0 := ⟨_, rfl, by unfold cmpI; rw [if_neg hq]; split <;> omega⟩
          have HB2 : Hid (∀ k, (a + b) / 2 ≤ k → k < L.length → z ≤ ((blkAt L k).1 : Int)) := fun k hk hl => by
            by_cases e : k = (a + b) / 2
            · subst e; rw [HX.out]; simp only; omega
            · have := HL.out ((a + b) / 2) k (by omega) hl
              rw [HX.out] at this
              simp only at this
              omega
          clear hq HB
          go_wp2_with (go_at_call 43; go_must (refine (before_any q s z _).mono ?_; rintro e w' ⟨rfl, hb'⟩; rw [HQ.out]))
          go_roundw
          case rel => exact ⟨a, (a + b) / 2, by omega, by omega, rfl, by go_num, hbel.trans (hb'.mono hbel.size), HA, HB2⟩
          case measure => simp [intOf]; omega
      · have hba : b = a := by omega
        subst hba
        have HP : Hid (posF L z = b) := posF_is hbl HA.out fun k h1 h2 => by have := HB.out k h1 h2; omega
        by_cases hl : b < L.length
        · have hl' : (b : Int) < (L.length : Int) := by omega
          have hc1 : wr.cell? ⟨g, b * 2, none⟩ = some (.int .i64 ((blkAt L b).1 : Nat)) := (hbel.cell (by exact hgw)).trans (HO.out.at_ rfl hl)
          have hc2 : wr.cell? ⟨g, b * 2 + 1, none⟩ = some (.int .i64 ((blkAt L b).2 : Nat)) := (hbel.cell (by exact hgw)).trans (HO.out.size rfl hl)
          have HI : Hid (isF L z = (((blkAt L b).1 : Int) == z)) := by unfold Hid isF; rw [HP.out, decide_eq_true hl]; rfl
          have HN : Hid (¬ ((blkAt L b).1 : Int) < z) := by have := HB.out b (Nat.le_refl _) hl; unfold Hid; omega
          generalize blkAt L b = x at hc1 hc2 HI HN
          obtain ⟨q, s⟩ := x
          simp only at hc1 hc2 HI HN
          obtain ⟨c, HQ, hc⟩ : ∃ c, Hid (cmpI q z = c) ∧ (c == 0) = ((q : Int) == z) := ⟨_, rfl, by
            unfold cmpI
            rw [if_neg HN.out]
            by_cases e : z < (q : Int)
            · rw [if_pos e]; symm; simp; omega
            · rw [if_neg e]; symm; have := HN.out; simp; omega⟩
          have HC : Hid ((c == 0) = isF L z) := by unfold Hid; rw [HI.out, hc]
          clear HA HB hc
          go_wp2_with (go_at_call 43; go_must (refine (before_any q s z _).mono ?_; rintro e w' ⟨rfl, hb'⟩; rw [HQ.out]))
          go_ret2
          rw [HP.out, HC.out]
          exact ⟨rfl, hbel.trans (hb'.mono hbel.size)⟩
        · have hl' : ¬ (b : Int) < (L.length : Int) := by omega
          have HI : Hid (isF L z = false) := by unfold Hid isF; rw [HP.out, decide_eq_false hl]; rfl
          clear HA HB
          go_wp2
          go_ret2
          rw [HP.out, HI.out]
          exact ⟨rfl, hbel⟩
end Go.Proofs.YtjcikoaoemingaaDoor
