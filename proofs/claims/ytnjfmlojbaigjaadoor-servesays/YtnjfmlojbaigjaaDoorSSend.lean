/- The walks of serve.distance, serve.send and of those whom an ask lies between: both go, or the nearer one. -/
import Derived.Test.YtnjfmlojbaigjaaDoorServers
import Derived.Test.YtnjfmlojbaigjaaDoorOwn
import Derived.Test.YtnjfmlojbaigjaaDoorOwnCells
import Derived.Deep.RegionWith
namespace Go.Proofs.YtnjfmlojbaigjaaDoor
set_option maxRecDepth 100000
open Go.RowKit Go.Sort

theorem dist_any (a p : Int) (ha : 0 ≤ a ∧ a ≤ 12) (hp : 0 ≤ p ∧ p ≤ 12) (w : World) :
    Calls Tryd.prog 37 #[.int .i64 a, .int .i64 p] w fun e w' => e = .returned (.int .i64 (zabs (a - p))) ∧ w' = w := by
  have h1 : IntKind.i64.wrap (a - p) = a - p := by rw [IntKind.wrap_i64]; omega
  have h2 : IntKind.i64.wrap (p - a) = p - a := by rw [IntKind.wrap_i64]; omega
  have HM : Hid ((a - p ≤ p - a → zabs (a - p) = p - a) ∧ (p - a ≤ a - p → zabs (a - p) = a - p)) := by unfold Hid zabs; omega
  go_enter Tryd.func37, Tryd.ntmps37
  go_wp2
  all_goals
    go_ret
    refine ⟨?_, rfl⟩
    first
    | (rw [HM.out.1 (by omega)]; rfl)
    | (rw [HM.out.2 (by omega)]; rfl)

set_option maxHeartbeats 1000000 in
theorem send_any (b off len cap i : Nat) (a p : Int) (hi : i < len) (ha : 0 ≤ a ∧ a ≤ 12) (hp : 0 ≤ p ∧ p ≤ 12) (w : World) (hc : w.cell? ⟨b, off + i, none⟩ = some (.int .i64 a)) (hf : w.frozen? ⟨b, off + i, none⟩ = false) :
    Calls Tryd.prog 25 #[.slice (some ⟨b, off, none⟩) len cap, .int .i64 i, .int .i64 p] w fun e w' => e = .returned (.int .i64 (zabs (a - p))) ∧ w' = w.setCell ⟨b, off + i, none⟩ (.int .i64 p) := by
  have HD : Hid (∀ w, Calls Tryd.prog 37 #[.int .i64 a, .int .i64 p] w fun e w' => e = .returned (.int .i64 (zabs (a - p))) ∧ w' = w) := fun w => dist_any a p ha hp w
  go_enter Tryd.func25, Tryd.ntmps25
  go_wp2_with (go_at_call 37; go_must (refine (HD.out _).mono ?_; rintro e w' ⟨rfl, hw⟩; have hw := hw.symm; subst hw))
  go_ret
  exact ⟨rfl, rfl⟩

/-- What lets those go whom an ask lies between. -/
def Betw (f : Nat) (dbl : Bool) : Prop := ∀ (g n cap base p : Nat) (l : List Int) (r : Int) (w : World), l.length = n → n ≤ cap → cap ≤ maxLen → 0 < p → p < n → onLine l → 0 ≤ r ∧ r ≤ 12 → l[p-1]?.getD 0 < r → r < l[p]?.getD 0 →
  OwnI w base (.slice (some ⟨g, 0, none⟩) n cap) l →
  Calls Tryd.prog f #[.slice (some ⟨g, 0, none⟩) n cap, .int .i64 ((p : Int) - 1), .int .i64 p, .int .i64 r] w fun e w' => e = .returned (.int .i64 (goBetw dbl l p r).2) ∧ OwnI w' base (.slice (some ⟨g, 0, none⟩) n cap) (goBetw dbl l p r).1 ∧ w.grownBy w' (some g)
theorem own_set {w : World} {base g n cap : Nat} {l : List Int} (h : OwnI w base (.slice (some ⟨g, 0, none⟩) n cap) l) (hn : l.length = n) (j : Nat) (x : Int) :
    OwnI (w.setCell ⟨g, j, none⟩ (.int .i64 x)) base (.slice (some ⟨g, 0, none⟩) n cap) (l.set j x) ∧ w.grownBy (w.setCell ⟨g, j, none⟩ (.int .i64 x)) (some g) := by
  subst hn
  have h1 := World.ownsRow.stored h j (.int .i64 x)
  refine ⟨?_, h1.2⟩
  unfold OwnI
  rw [List.length_set, List.map_set]
  exact h1.1
theorem grown_drewN {w w' : World} {row : Option Nat} (q : Nat) (h : (w.drewN q).grownBy w' row) : w.grownBy w' row := ⟨h.os, h.tape, h.output, h.size, h.block⟩
set_option maxHeartbeats 2000000 in
theorem double_betw : Betw 23 true := by
  intro g n cap base p l r w hn hnc hc1 hp0 hpn hl hr ha hb hO
  unfold maxLen at hc1
  obtain ⟨k, rfl⟩ : ∃ k, p = k + 1 := ⟨p - 1, by omega⟩
  simp only [Nat.add_sub_cancel] at ha
  have hka := hl _ (get_mem (show k < l.length by omega))
  have hkb := hl _ (get_mem (show k + 1 < l.length by omega))
  have cA := hO.cellN hn (show k < n by omega)
  have cB := hO.cellN hn hpn
  have fA := hO.softN hn k
  have fB := hO.softN hn (k+1)
  have e1 : ((k + 1 : Nat) : Int) - 1 = (k : Int) := by omega
  rw [e1]
  have HS : Hid (∀ d q, OwnI (((w.drewN q).setCell ⟨g, k, none⟩ (.int .i64 (l[k]?.getD 0 + d))).setCell ⟨g, k+1, none⟩ (.int .i64 (l[k+1]?.getD 0 - d))) base (.slice (some ⟨g, 0, none⟩) n cap) ((l.set k (l[k]?.getD 0 + d)).set (k+1) (l[k+1]?.getD 0 - d)) ∧ w.grownBy (((w.drewN q).setCell ⟨g, k, none⟩ (.int .i64 (l[k]?.getD 0 + d))).setCell ⟨g, k+1, none⟩ (.int .i64 (l[k+1]?.getD 0 - d))) (some g)) := fun d q => by
    have h1 := own_set (hO.drewN q) hn k (l[k]?.getD 0 + d)
    have h2 := own_set h1.1 (by rw [List.length_set]; exact hn) (k+1) (l[k+1]?.getD 0 - d)
    exact ⟨h2.1, (grown_drewN q h1.2).trans h2.2⟩
  have HG : Hid (∀ d, min (r - l[k]?.getD 0) (l[k+1]?.getD 0 - r) = d → goBetw true l (k+1) r = ((l.set k (l[k]?.getD 0 + d)).set (k+1) (l[k+1]?.getD 0 - d), 2 * d)) := fun d h => by unfold goBetw; rw [if_pos rfl, Nat.add_sub_cancel, h]
  have w1 : IntKind.i64.wrap (r - l[k]?.getD 0) = r - l[k]?.getD 0 := by rw [IntKind.wrap_i64]; omega
  have w2 : IntKind.i64.wrap (l[k+1]?.getD 0 - r) = l[k+1]?.getD 0 - r := by rw [IntKind.wrap_i64]; omega
  have hkn : k < n := by omega
  have hkb0 : 0 ≤ l[k+1]?.getD 0 ∧ l[k+1]?.getD 0 ≤ 12 := hkb
  clear hO hl e1 hkb
  generalize l[k]?.getD 0 = a at *
  generalize hk1 : k + 1 = k1 at *
  generalize l[k1]?.getD 0 = b at *
  go_enter Tryd.func23, Tryd.ntmps23
  go_wp2
  go_quiet (fail)
  go_wp2
  all_goals
    go_ret
    first
    | (rw [HG.out (r - a) (by omega)]; exact ⟨rfl, HS.out _ _⟩)
    | (rw [HG.out (b - r) (by omega)]; exact ⟨rfl, HS.out _ _⟩)
end Go.Proofs.YtnjfmlojbaigjaaDoor
