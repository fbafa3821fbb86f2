/- The walks of clock.replace, clock.pages and clock.Run. -/
import Derived.Test.YtldeonnbpfkmoaaSlots
import Derived.Test.YtldeonnbpfkmoaaCheck
namespace Go.Proofs.Ytldeonnbpfkmoaa
open Go.RowKit Go.Sort

/-- The place of a page among the slots, or -1. -/
def place (t : List Slot) (p : Int) : Int := if (pagesOf t).contains p then ((t.findIdx fun x => x.1 == p : Nat) : Int) else -1

theorem place_hit {t : List Slot} {p : Int} {k : Nat} (hk : k < t.length) (h : ((slotAt t k).1 == p) = true) (ha : ∀ j, j < k → ((slotAt t j).1 == p) = false) : place t p = k := by
  have hm : (pagesOf t).contains p = true := by
    rw [List.contains_iff_mem]
    have := slotAt_mem hk
    unfold pagesOf
    exact List.mem_map.2 ⟨_, this, by simpa using h⟩
  unfold place
  rw [if_pos hm]
  have h1 := find_lt hm
  congr 1
  rcases Nat.lt_trichotomy (t.findIdx fun x => x.1 == p) k with h2 | h2 | h2
  · have := ha _ h2
    rw [h1.2] at this; simp at this
  · exact h2
  · have := List.not_of_lt_findIdx (xs := t) (p := fun x => x.1 == p) (i := k) h2
    rw [slotAt_lt hk] at h
    simp at this h; exact absurd h this
theorem place_miss {t : List Slot} {p : Int} (ha : ∀ j, j < t.length → ((slotAt t j).1 == p) = false) : place t p = -1 := by
  unfold place
  rw [if_neg]
  intro h
  have h1 := find_lt h
  have := ha _ h1.1
  rw [h1.2] at this; simp at this

theorem same_any (x : Int) (m : Bool) (p : Int) (B : Nat) (W : World) (hc : W.cell? ⟨B, 0, none⟩ = some (.int .i64 p)) :
    Calls Try.prog 35 #[.agg #[.int .i64 x, .bool m], .pointer (some ⟨B, 0, none⟩)] W fun e w' => e = .returned (.bool (x == p)) ∧ Below W.heap.size W w' := by
  have hBW : B < W.heap.size := World.block_lt_of_cell? W _ hc
  have hne : B ≠ W.heap.size := by omega
  go_enter Try.func35, Try.ntmps35
  go_wp2
  all_goals (go_ret; exact ⟨by simp_all, (Below.refl _ W).alloc (Nat.le_refl _) _⟩)

set_option maxHeartbeats 1000000 in
theorem find_any (base : Nat) (v : Value) (t : List Slot) (p : Int) (B : Nat) (w : World) (hO : OwnS w base v t) (hc : w.cell? ⟨B, 0, none⟩ = some (.int .i64 p)) (ht : t.length ≤ 8) :
    Calls Try.prog 34 #[v, .func (.func 35) #[] #[.pointer (some ⟨B, 0, none⟩)]] w fun e w' => e = .returned (.int .i64 (place t p)) ∧ Below w.heap.size w w' := by
  have HBw : Hid (B < w.heap.size) := World.block_lt_of_cell? w _ hc
  have HC : Hid (w.cell? ⟨B, 0, none⟩ = some (.int .i64 p)) := hc
  clear hc
  by_cases h0 : t.length = 0
  · have : t = [] := List.eq_nil_of_length_eq_zero h0
    subst this
    obtain ⟨ao, cap, rfl⟩ := hO.form
    clear hO
    go_enter Try.func34, Try.ntmps34
    go_wp2
    go_loop [8] (fun i => i = .int .i64 0) (fun _ => 0)
    case atStart => rfl
    case round =>
      obtain rfl := hrel
      go_wp2
      go_ret
      exact ⟨rfl, Below.refl _ _⟩
  · obtain ⟨g, cap, rfl, hgb, hgw, hlc, hcap⟩ := hO.block (by omega)
    have HO : Hid (OwnS w base (.slice (some ⟨g, 0, none⟩) t.length cap) t) := hO
    clear hO
    unfold maxLen at hcap
    generalize hr : place t p = r
    have HR : Hid (place t p = r) := hr
    clear hr
    go_enter Try.func34, Try.ntmps34
    go_wp2
    go_loopw [5, 8] (fun _ i wr => ∃ k : Nat, k ≤ t.length ∧ i = .int .i64 k ∧ Below w.heap.size w wr ∧ Hid (∀ j, j < k → ((slotAt t j).1 == p) = false)) (fun _ i _ => t.length - (intOf i).toNat)
    case atStart => exact ⟨0, by omega, rfl, Below.refl _ _, fun j hj => absurd hj (Nat.not_lt_zero _)⟩
    case round =>
      obtain ⟨k, hk, rfl, hbel, HA⟩ := hrel
      by_cases hlt : k < t.length
      · have hc1 : wr.cell? ⟨g, k * 2, none⟩ = some (.int .i64 (slotAt t k).1) := (hbel.cell (by exact hgw)).trans (HO.out.page rfl hlt)
        have hc2 : wr.cell? ⟨g, k * 2 + 1, none⟩ = some (.bool (slotAt t k).2) := (hbel.cell (by exact hgw)).trans (HO.out.mark rfl hlt)
        have HCB : Hid (wr.cell? ⟨B, 0, none⟩ = some (.int .i64 p)) := (hbel.cell (by exact HBw.out)).trans HC.out
        generalize hx : slotAt t k = x at hc1 hc2
        have HX : Hid (slotAt t k = x) := hx
        clear hx
        obtain ⟨q, m⟩ := x
        simp only at hc1 hc2
        cases hq : (q == p)
        · have HQ : Hid ((q == p) = false) := hq
          clear hq
          go_wp2_with (go_at_call 35; go_must (refine (same_any q m p B _ HCB.out).mono ?_; rintro e w' ⟨rfl, hb'⟩; rw [HQ.out]))
          go_roundw
          case rel =>
            refine ⟨k + 1, by omega, by go_num, hbel.trans (hb'.mono hbel.size), (show Hid _ from fun j hj => ?_)⟩
            by_cases e : j = k
            · subst e; rw [HX.out]; exact HQ.out
            · exact HA.out j (by omega)
          case measure => simp [intOf]; omega
        · have HQ : Hid ((q == p) = true) := hq
          clear hq
          go_wp2_with (go_at_call 35; go_must (refine (same_any q m p B _ HCB.out).mono ?_; rintro e w' ⟨rfl, hb'⟩; rw [HQ.out]))
          go_ret
          exact ⟨by rw [← HR.out, place_hit hlt (by rw [HX.out]; exact HQ.out) HA.out]; rfl, hbel.trans (hb'.mono hbel.size)⟩
      · have hkl : k = t.length := by omega
        have HF : Hid (∀ j, j < t.length → ((slotAt t j).1 == p) = false) := by rw [← hkl]; exact HA
        clear HA hkl
        go_wp2
        go_ret
        exact ⟨by rw [← HR.out, place_miss HF.out]; rfl, hbel⟩
end Go.Proofs.Ytldeonnbpfkmoaa
