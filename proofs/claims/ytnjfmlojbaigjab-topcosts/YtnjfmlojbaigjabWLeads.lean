/- The states behind a message as an iterator that any loop may go through; the walk of what acks.Least hands on. -/
import Derived.Test.YtnjfmlojbaigjabWBeh1
import Derived.Deep.RegionHeld3
import Derived.BigQuiet
import Derived.Deep.QuietTactic
namespace Go.Proofs.Ytnjfmlojbaigjab
namespace Wt
set_option maxRecDepth 100000
open Go.RowKit Go.Maps Go.Shelf
attribute [local go_sem] Oper.semAt_some

theorem WBoxes.below {w W : World} {Bf Bt Ba Bp : Nat} {s : W20} {n k : Nat} {pr : Fin 32768} {g : Fin 1001} (h : WBoxes w Bf Bt Ba Bp s n k pr g) (hb : Below w.heap.size w W) : WBoxes W Bf Bt Ba Bp s n k pr g := by
  have kc : ∀ {b j : Nat} {u : Value}, w.cell? ⟨b, j, none⟩ = some u → W.cell? ⟨b, j, none⟩ = some u := fun h0 => (hb.cell (World.block_lt_of_cell? w _ h0)).trans h0
  obtain ⟨h1, ⟨b, off, cap, x, h2, h3⟩, h4, h5⟩ := h
  exact ⟨h1.later hb, ⟨b, off, cap, x, kc h2, fun hn => by obtain ⟨a1, a2, a3, a4⟩ := h3 hn; exact ⟨a1, a2, kc a3, kc a4⟩⟩, kc h4, kc h5⟩
theorem wbehind_stops (r : Nat) (hr : 1 ≤ r) (Bf Bt Ba Bp bn : Nat) (s : W20) (n k : Nat) (hk : k < n) (hn20 : n ≤ 20) (pr : Fin 32768) (g : Fin 1001) (w : World) (hbn : bn < Bf ∧ bn < Bt ∧ bn < Ba ∧ bn < Bp) (hB : WBoxes w Bf Bt Ba Bp s n k pr g)
    (hbt : ∀ b off cap, w.cell? ⟨Bt, 0, none⟩ = some (.slice (some ⟨b, off, none⟩) n cap) → b ≠ bn) :
    SeqStopsK Fence.wide r Try.prog 55 #[.pointer (some ⟨Bp, 0, none⟩), .pointer (some ⟨Ba, 0, none⟩), .pointer (some ⟨Bt, 0, none⟩), .pointer (some ⟨Bf, 0, none⟩)] encE (KeepB bn) (fun ys => ys = waitsL n k pr g s) (fun _ => True) 3 w := fun l J Jx W hW hJ _ hY h0 => by
  have hB2 := hB.below hW
  refine wbeh_any r hr l Bf Bt Ba Bp bn s n k hk hn20 pr g J Jx hY W hJ hbn hB2 ?_ h0
  intro b off cap hc
  obtain ⟨_, ⟨b', off', cap', x', h2, _⟩, _, _⟩ := hB
  have h3 := (hW.cell (World.block_lt_of_cell? w _ h2)).trans h2
  rw [hc] at h3
  cases h3
  exact hbt _ _ _ h2

/-- What acks.Least hands on: from a state, to what may be behind a message. -/
structure WLeads (w : World) (Bt Ba Bp : Nat) (n k : Nat) (pr : Fin 32768) (g : Fin 1001) : Prop where
  times : ∃ b off cap x, w.cell? ⟨Bt, 0, none⟩ = some (.slice (some ⟨b, off, none⟩) n cap) ∧ (k + 1 < n → 0 ≤ x ∧ x ≤ 1000 ∧ w.cell? ⟨b, off + k, none⟩ = some (.int .i64 x) ∧ w.cell? ⟨b, off + (k + 1), none⟩ = some (.int .i64 (x + (g.val : Nat))))
  at_ : w.cell? ⟨Ba, 0, none⟩ = some (.int .i64 (k : Nat))
  price : w.cell? ⟨Bp, 0, none⟩ = some (.int .i64 (pr.val : Nat))
theorem seen_drew {w0 W : World} {B : Nat} (h : Hid (Below B w0 W)) : Hid (Below B w0 W.drew) := h.out.drew
theorem seen_start (w0 : World) : Hid (Below w0.heap.size w0 w0) := Below.refl _ _
theorem cell_seen {w0 W : World} {b j : Nat} {u : Value} (h0 : w0.cell? ⟨b, j, none⟩ = some u) (h : Hid (Below w0.heap.size w0 W)) : W.cell? ⟨b, j, none⟩ = some u :=
  (h.out.cell (p := ⟨b, j, none⟩) (World.block_lt_of_cell? w0 _ h0)).trans h0

set_option maxHeartbeats 1000000 in
theorem wleads_any (s : W20) (Bt Ba Bp : Nat) (n k : Nat) (pr : Fin 32768) (g : Fin 1001) (w : World) (h : WLeads w Bt Ba Bp n k pr g) :
    Calls Try.prog 31 #[s.v, .pointer (some ⟨Bt, 0, none⟩), .pointer (some ⟨Ba, 0, none⟩), .pointer (some ⟨Bp, 0, none⟩)] w fun e w' => ∃ (W : World) (b off cap : Nat), w.cell? ⟨Bt, 0, none⟩ = some (.slice (some ⟨b, off, none⟩) n cap) ∧ e = .returned (.func (.func 55) #[] #[.pointer (some ⟨W.heap.size + 3, 0, none⟩), .pointer (some ⟨W.heap.size + 2, 0, none⟩), .pointer (some ⟨W.heap.size + 1, 0, none⟩), .pointer (some ⟨W.heap.size, 0, none⟩)]) ∧ Below w.heap.size w W ∧ w' = (((W.alloc (.cells s.cells 63)).alloc (.cells #[.slice (some ⟨b, off, none⟩) n cap] 22)).alloc (.cells #[.int .i64 (k : Nat)] 3)).alloc (.cells #[.int .i64 (pr.val : Nat)] 3) := by
  obtain ⟨⟨b, off, cap, x, h1, _⟩, h2, h3⟩ := h
  have hLS := Lies.new w s.cells 63
  have e1 : (w.alloc (.cells s.cells 63)).cell? ⟨Bt, 0, none⟩ = some (.slice (some ⟨b, off, none⟩) n cap) := Lib.cell?_alloc_some _ h1
  have e2 : (w.alloc (.cells s.cells 63)).cell? ⟨Ba, 0, none⟩ = some (.int .i64 (k : Nat)) := Lib.cell?_alloc_some _ h2
  have e3 : (w.alloc (.cells s.cells 63)).cell? ⟨Bp, 0, none⟩ = some (.int .i64 (pr.val : Nat)) := Lib.cell?_alloc_some _ h3
  have H1 : Hid (w.cell? ⟨Bt, 0, none⟩ = some (.slice (some ⟨b, off, none⟩) n cap)) := h1
  clear h1 h2 h3
  go_enter Try.func31, Try.ntmps31
  go_wp2_with (first | (refine wpList_load_waits rfl _ rfl _ rfl s hLS ?_) | (go_at_call 32; go_must (refine (wbehind_any s _ n cap (k : Nat) (pr.val : Nat) _).mono ?_; rintro e w2 ⟨rfl, hw2⟩; have HW2 : Hid (w2 = _) := hw2; clear hw2)))
  go_ret
  exact ⟨w.alloc (.cells s.cells 63), b, off, cap, H1.out, by simp [World.size_alloc, Array.getD], (Below.refl _ w).alloc (Nat.le_refl _) _, HW2.out⟩
end Wt
end Go.Proofs.Ytnjfmlojbaigjab
