/- The walk of the one of two that is nearer. -/
import Derived.Test.YtnjfmlojbaigjaaDoorSSend
namespace Go.Proofs.YtnjfmlojbaigjaaDoor
set_option maxRecDepth 100000
open Go.RowKit Go.Sort

set_option maxHeartbeats 2000000 in
theorem near_betw : Betw 24 false := by
  intro g n cap base p l r w hn hnc hc1 hp0 hpn hl hr ha hb hO
  unfold maxLen at hc1
  obtain ⟨k, rfl⟩ : ∃ k, p = k + 1 := ⟨p - 1, by omega⟩
  simp only [Nat.add_sub_cancel] at ha
  have hka := hl _ (get_mem (show k < l.length by omega))
  have hkb := hl _ (get_mem (show k + 1 < l.length by omega))
  have cA := hO.cellN hn (show k < n by omega)
  have cB := hO.cellN hn hpn
  have fA := hO.softN hn k
  have fB := hO.softN hn (k+1)
  have e1 : ((k + 1 : Nat) : Int) - 1 = (k : Int) := by omega
  rw [e1]
  have HG1 : Hid (r - l[k]?.getD 0 ≤ l[k+1]?.getD 0 - r → goBetw false l (k+1) r = (l.set k r, zabs (l[k]?.getD 0 - r))) := fun h => by unfold goBetw; simp [h]
  have HG2 : Hid (¬ r - l[k]?.getD 0 ≤ l[k+1]?.getD 0 - r → goBetw false l (k+1) r = (l.set (k+1) r, zabs (l[k+1]?.getD 0 - r))) := fun h => by unfold goBetw; simp [h]
  have HS : Hid (∀ q j, OwnI ((w.drewN q).setCell ⟨g, j, none⟩ (.int .i64 r)) base (.slice (some ⟨g, 0, none⟩) n cap) (l.set j r) ∧ w.grownBy ((w.drewN q).setCell ⟨g, j, none⟩ (.int .i64 r)) (some g)) := fun q j => by
    have := own_set (hO.drewN q) hn j r
    exact ⟨this.1, grown_drewN q this.2⟩
  have HA : Hid (∀ q, Calls Tryd.prog 25 #[.slice (some ⟨g, 0, none⟩) n cap, .int .i64 k, .int .i64 r] (w.drewN q) fun e w' => e = .returned (.int .i64 (zabs (l[k]?.getD 0 - r))) ∧ w' = (w.drewN q).setCell ⟨g, k, none⟩ (.int .i64 r)) := fun q => by
    have := send_any g 0 n cap k (l[k]?.getD 0) r (by omega) hka hr (w.drewN q) (by rw [Nat.zero_add]; exact cA) (by rw [Nat.zero_add]; exact fA)
    rwa [Nat.zero_add] at this
  have HB : Hid (∀ q, Calls Tryd.prog 25 #[.slice (some ⟨g, 0, none⟩) n cap, .int .i64 ((k + 1 : Nat) : Int), .int .i64 r] (w.drewN q) fun e w' => e = .returned (.int .i64 (zabs (l[k+1]?.getD 0 - r))) ∧ w' = (w.drewN q).setCell ⟨g, k+1, none⟩ (.int .i64 r)) := fun q => by
    have := send_any g 0 n cap (k+1) (l[k+1]?.getD 0) r (by omega) hkb hr (w.drewN q) (by rw [Nat.zero_add]; exact cB) (by rw [Nat.zero_add]; exact fB)
    rwa [Nat.zero_add] at this
  have w1 : IntKind.i64.wrap (r - l[k]?.getD 0) = r - l[k]?.getD 0 := by rw [IntKind.wrap_i64]; omega
  have w2 : IntKind.i64.wrap (l[k+1]?.getD 0 - r) = l[k+1]?.getD 0 - r := by rw [IntKind.wrap_i64]; omega
  have hkn : k < n := by omega
  clear hO fA fB hl hka hkb e1
  generalize l[k]?.getD 0 = a at *
  generalize hk1 : k + 1 = k1 at *
  generalize l[k1]?.getD 0 = b at *
  by_cases h : r - a ≤ b - r
  · have HG := HG1.out h
    have hd : decide (r - a ≤ b - r) = true := decide_eq_true h
    rw [HG]
    go_enter Tryd.func24, Tryd.ntmps24
    go_wp2
    go_quiet (fail)
    go_wp2_with (go_at_call 25; go_must (refine (HA.out _).mono ?_; rintro e w' ⟨rfl, hw⟩; have hw := hw.symm; subst hw))
    go_ret
    exact ⟨rfl, (HS.out _ _).1, (HS.out _ _).2⟩
  · have HG := HG2.out h
    have hd : decide (r - a ≤ b - r) = false := decide_eq_false h
    rw [HG]
    go_enter Tryd.func24, Tryd.ntmps24
    go_wp2
    go_quiet (fail)
    go_wp2_with (go_at_call 25; go_must (refine (HB.out _).mono ?_; rintro e w' ⟨rfl, hw⟩; have hw := hw.symm; subst hw))
    go_ret
    exact ⟨rfl, (HS.out _ _).1, (HS.out _ _).2⟩
end Go.Proofs.YtnjfmlojbaigjaaDoor
