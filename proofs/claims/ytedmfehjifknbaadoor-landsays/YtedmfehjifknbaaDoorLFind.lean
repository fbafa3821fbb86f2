/- The walks of slices.IndexFunc at tenants: by a page, and by who has nothing left. -/
import Derived.Test.YtedmfehjifknbaaDoorTenS
namespace Go.Proofs.YtedmfehjifknbaaDoor
set_option maxRecDepth 100000
open Go.RowKit Go.Sort

theorem cast_zero (m : Nat) : ((m : Int) == 0) = (m == 0) := by rw [Bool.eq_iff_iff]; simp

theorem tsame_any (x : Int) (m : Nat) (p : Int) (B : Nat) (W : World) (hc : W.cell? ⟨B, 0, none⟩ = some (.int .i64 p)) :
    Calls Tryd.prog 21 #[.agg #[.int .i64 x, .int .i64 m], .pointer (some ⟨B, 0, none⟩)] W fun e w' => e = .returned (.bool (x == p)) ∧ Below W.heap.size W w' := by
  have hBW : B < W.heap.size := World.block_lt_of_cell? W _ hc
  have hne : B ≠ W.heap.size := by omega
  go_enter Tryd.func21, Tryd.ntmps21
  go_wp2
  all_goals (go_ret; exact ⟨by simp_all, (Below.refl _ W).alloc (Nat.le_refl _) _⟩)

set_option maxHeartbeats 1000000 in
theorem tfind_any (base : Nat) (v : Value) (t : List (Int × Nat)) (p : Int) (B : Nat) (w : World) (hO : OwnT w base v t) (hc : w.cell? ⟨B, 0, none⟩ = some (.int .i64 p)) (ht : t.length ≤ 8) :
    Calls Tryd.prog 20 #[v, .func (.func 21) #[] #[.pointer (some ⟨B, 0, none⟩)]] w fun e w' => e = .returned (.int .i64 (placeT t fun x => x.1 == p)) ∧ Below w.heap.size w w' := by
  have HBw : Hid (B < w.heap.size) := World.block_lt_of_cell? w _ hc
  have HC : Hid (w.cell? ⟨B, 0, none⟩ = some (.int .i64 p)) := hc
  clear hc
  by_cases h0 : t.length = 0
  · have : t = [] := List.eq_nil_of_length_eq_zero h0
    subst this
    obtain ⟨ao, cap, rfl⟩ := hO.form
    clear hO
    go_enter Tryd.func20, Tryd.ntmps20
    go_wp2
    go_loop [8] (fun i => i = .int .i64 0) (fun _ => 0)
    case atStart => rfl
    case round =>
      obtain rfl := hrel
      go_wp2
      go_ret
      exact ⟨rfl, Below.refl _ _⟩
  · obtain ⟨g, cap, rfl, hgb, hgw, hlc, hcap⟩ := hO.block (by omega)
    have HO : Hid (OwnT w base (.slice (some ⟨g, 0, none⟩) t.length cap) t) := hO
    clear hO
    unfold maxLen at hcap
    generalize hr : placeT t (fun x => x.1 == p) = r
    have HR : Hid (placeT t (fun x => x.1 == p) = r) := hr
    clear hr
    go_enter Tryd.func20, Tryd.ntmps20
    go_wp2
    go_loopw [5, 8] (fun _ i wr => ∃ k : Nat, k ≤ t.length ∧ i = .int .i64 k ∧ Below w.heap.size w wr ∧ Hid (∀ j, j < k → (fun x : Int × Nat => x.1 == p) (tenAt t j) = false)) (fun _ i _ => t.length - (intOf i).toNat)
    case atStart => exact ⟨0, by omega, rfl, Below.refl _ _, fun j hj => absurd hj (Nat.not_lt_zero _)⟩
    case round =>
      obtain ⟨k, hk, rfl, hbel, HA⟩ := hrel
      by_cases hlt : k < t.length
      · have hc1 : wr.cell? ⟨g, k * 2, none⟩ = some (.int .i64 (tenAt t k).1) := (hbel.cell (by exact hgw)).trans (HO.out.page rfl hlt)
        have hc2 : wr.cell? ⟨g, k * 2 + 1, none⟩ = some (.int .i64 ((tenAt t k).2 : Nat)) := (hbel.cell (by exact hgw)).trans (HO.out.credit rfl hlt)
        have HCB : Hid (wr.cell? ⟨B, 0, none⟩ = some (.int .i64 p)) := (hbel.cell (by exact HBw.out)).trans HC.out
        generalize hx : tenAt t k = x at hc1 hc2
        have HX : Hid (tenAt t k = x) := hx
        clear hx
        obtain ⟨q, m⟩ := x
        simp only at hc1 hc2
        cases hq : (q == p)
        · have HQ : Hid ((q == p) = false) := hq
          clear hq
          go_wp2_with (go_at_call 21; go_must (refine (tsame_any q m p B _ HCB.out).mono ?_; rintro e w' ⟨rfl, hb'⟩; rw [HQ.out]))
          go_roundw
          case rel =>
            refine ⟨k + 1, by omega, by go_num, hbel.trans (hb'.mono hbel.size), (show Hid _ from fun j hj => ?_)⟩
            by_cases e : j = k
            · subst e; rw [HX.out]; exact HQ.out
            · exact HA.out j (by omega)
          case measure => simp [intOf]; omega
        · have HQ : Hid ((q == p) = true) := hq
          clear hq
          go_wp2_with (go_at_call 21; go_must (refine (tsame_any q m p B _ HCB.out).mono ?_; rintro e w' ⟨rfl, hb'⟩; rw [HQ.out]))
          go_ret
          exact ⟨by rw [← HR.out, placeT_hit hlt (by rw [HX.out]; exact HQ.out) HA.out]; rfl, hbel.trans (hb'.mono hbel.size)⟩
      · have hkl : k = t.length := by omega
        have HF : Hid (∀ j, j < t.length → (fun x : Int × Nat => x.1 == p) (tenAt t j) = false) := by rw [← hkl]; exact HA
        clear HA hkl
        go_wp2
        go_ret
        exact ⟨by rw [← HR.out, placeT_miss HF.out]; rfl, hbel⟩

theorem tnone_any (x : Int) (m : Nat)  (W : World) :
    Calls Tryd.prog 31 #[.agg #[.int .i64 x, .int .i64 m]] W fun e w' => e = .returned (.bool (m == 0)) ∧ Below W.heap.size W w' := by
  go_enter Tryd.func31, Tryd.ntmps31
  go_wp2
  all_goals (go_ret; exact ⟨by simp; exact cast_zero _, (Below.refl _ W).alloc (Nat.le_refl _) _⟩)

set_option maxHeartbeats 1000000 in
theorem tpoor_any (base : Nat) (v : Value) (t : List (Int × Nat))  (w : World) (hO : OwnT w base v t) (ht : t.length ≤ 8) :
    Calls Tryd.prog 20 #[v, .func (.func 31) #[] #[]] w fun e w' => e = .returned (.int .i64 (placeT t fun x => x.2 == 0)) ∧ Below w.heap.size w w' := by
  by_cases h0 : t.length = 0
  · have : t = [] := List.eq_nil_of_length_eq_zero h0
    subst this
    obtain ⟨ao, cap, rfl⟩ := hO.form
    clear hO
    go_enter Tryd.func20, Tryd.ntmps20
    go_wp2
    go_loop [8] (fun i => i = .int .i64 0) (fun _ => 0)
    case atStart => rfl
    case round =>
      obtain rfl := hrel
      go_wp2
      go_ret
      exact ⟨rfl, Below.refl _ _⟩
  · obtain ⟨g, cap, rfl, hgb, hgw, hlc, hcap⟩ := hO.block (by omega)
    have HO : Hid (OwnT w base (.slice (some ⟨g, 0, none⟩) t.length cap) t) := hO
    clear hO
    unfold maxLen at hcap
    generalize hr : placeT t (fun x => x.2 == 0) = r
    have HR : Hid (placeT t (fun x => x.2 == 0) = r) := hr
    clear hr
    go_enter Tryd.func20, Tryd.ntmps20
    go_wp2
    go_loopw [5, 8] (fun _ i wr => ∃ k : Nat, k ≤ t.length ∧ i = .int .i64 k ∧ Below w.heap.size w wr ∧ Hid (∀ j, j < k → (fun x : Int × Nat => x.2 == 0) (tenAt t j) = false)) (fun _ i _ => t.length - (intOf i).toNat)
    case atStart => exact ⟨0, by omega, rfl, Below.refl _ _, fun j hj => absurd hj (Nat.not_lt_zero _)⟩
    case round =>
      obtain ⟨k, hk, rfl, hbel, HA⟩ := hrel
      by_cases hlt : k < t.length
      · have hc1 : wr.cell? ⟨g, k * 2, none⟩ = some (.int .i64 (tenAt t k).1) := (hbel.cell (by exact hgw)).trans (HO.out.page rfl hlt)
        have hc2 : wr.cell? ⟨g, k * 2 + 1, none⟩ = some (.int .i64 ((tenAt t k).2 : Nat)) := (hbel.cell (by exact hgw)).trans (HO.out.credit rfl hlt)
        generalize hx : tenAt t k = x at hc1 hc2
        have HX : Hid (tenAt t k = x) := hx
        clear hx
        obtain ⟨q, m⟩ := x
        simp only at hc1 hc2
        cases hq : (m == 0)
        · have HQ : Hid ((m == 0) = false) := hq
          clear hq
          go_wp2_with (go_at_call 31; go_must (refine (tnone_any q m _).mono ?_; rintro e w' ⟨rfl, hb'⟩; rw [HQ.out]))
          go_roundw
          case rel =>
            refine ⟨k + 1, by omega, by go_num, hbel.trans (hb'.mono hbel.size), (show Hid _ from fun j hj => ?_)⟩
            by_cases e : j = k
            · subst e; rw [HX.out]; exact HQ.out
            · exact HA.out j (by omega)
          case measure => simp [intOf]; omega
        · have HQ : Hid ((m == 0) = true) := hq
          clear hq
          go_wp2_with (go_at_call 31; go_must (refine (tnone_any q m _).mono ?_; rintro e w' ⟨rfl, hb'⟩; rw [HQ.out]))
          go_ret
          exact ⟨by rw [← HR.out, placeT_hit hlt (by rw [HX.out]; exact HQ.out) HA.out]; rfl, hbel.trans (hb'.mono hbel.size)⟩
      · have hkl : k = t.length := by omega
        have HF : Hid (∀ j, j < t.length → (fun x : Int × Nat => x.2 == 0) (tenAt t j) = false) := by rw [← hkl]; exact HA
        clear HA hkl
        go_wp2
        go_ret
        exact ⟨by rw [← HR.out, placeT_miss HF.out]; rfl, hbel⟩
end Go.Proofs.YtedmfehjifknbaaDoor
