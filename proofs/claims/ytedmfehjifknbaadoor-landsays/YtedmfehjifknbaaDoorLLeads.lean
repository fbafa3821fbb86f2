/- The walk of what landlord.Least hands on. -/
import Derived.Test.YtedmfehjifknbaaDoorLTab
import Derived.Lib.SliceRun
import Derived.Deep.RegionHeld3
import Derived.BigQuiet
import Derived.Deep.QuietTactic
namespace Go.Proofs.YtedmfehjifknbaaDoor
set_option maxRecDepth 100000
open Go.RowKit Go.Maps

/-- What landlord.Least hands on: from a store, to what may be behind a request. -/
structure Leads (w : World) (Bp Bc Bs : Nat) (p c n : Int) : Prop where
  page : w.cell? ⟨Bp, 0, none⟩ = some (.int .i64 p)
  cost : ∃ g off len cap, w.cell? ⟨Bc, 0, none⟩ = some (.slice (some ⟨g, off, none⟩) len cap) ∧ 0 ≤ p ∧ p < len ∧ (len : Int) ≤ 6 ∧ w.cell? ⟨g, off + p.toNat, none⟩ = some (.int .i64 c)
  slots : w.cell? ⟨Bs, 0, none⟩ = some (.int .i64 n)
theorem seen_drew {w0 W : World} {B : Nat} (h : Hid (Below B w0 W)) : Hid (Below B w0 W.drew) := h.out.drew
theorem seen_start (w0 : World) : Hid (Below w0.heap.size w0 w0) := Below.refl _ _
theorem cell_seen {w0 W : World} {b j : Nat} {u : Value} (h0 : w0.cell? ⟨b, j, none⟩ = some u) (h : Hid (Below w0.heap.size w0 W)) : W.cell? ⟨b, j, none⟩ = some u :=
  (h.out.cell (p := ⟨b, j, none⟩) (World.block_lt_of_cell? w0 _ h0)).trans h0
theorem behind_from {s : S6} {p c n : Int} {w0 W : World} (h : Hid (Below w0.heap.size w0 W)) :
    Calls Tryd.prog 27 #[s.v, .int .i64 p, .int .i64 c, .int .i64 n] W fun e w' => ∃ W : World, Hid (Below w0.heap.size w0 W) ∧ Hid (Below w0.heap.size w0 w') ∧ e = .returned (.func (.func 35) #[] #[.pointer (some ⟨W.heap.size, 0, none⟩), .pointer (some ⟨W.heap.size + 1, 0, none⟩), .pointer (some ⟨W.heap.size + 3, 0, none⟩), .pointer (some ⟨W.heap.size + 2, 0, none⟩)]) ∧ Hid (w' = (((W.alloc (.cells s.cells 58)).alloc (.cells #[.int .i64 p] 3)).alloc (.cells #[.int .i64 c] 3)).alloc (.cells #[.int .i64 n] 3)) := by
  refine (behind_any s p c n W).mono ?_
  rintro e w' ⟨rfl, rfl⟩
  have h0 := h.out.size
  exact ⟨W, h, (((h.out.alloc h0 _).alloc (by simp; omega) _).alloc (by simp; omega) _).alloc (by simp; omega) _, rfl, rfl⟩
set_option maxHeartbeats 1000000 in
theorem leads_any (s : S6) (Bp Bc Bs : Nat) (p c n : Int) (w : World) (h : Leads w Bp Bc Bs p c n) :
    Calls Tryd.prog 26 #[s.v, .pointer (some ⟨Bp, 0, none⟩), .pointer (some ⟨Bc, 0, none⟩), .pointer (some ⟨Bs, 0, none⟩)] w fun e w' => ∃ W : World, e = .returned (.func (.func 35) #[] #[.pointer (some ⟨W.heap.size, 0, none⟩), .pointer (some ⟨W.heap.size + 1, 0, none⟩), .pointer (some ⟨W.heap.size + 3, 0, none⟩), .pointer (some ⟨W.heap.size + 2, 0, none⟩)]) ∧ Below w.heap.size w W ∧ w' = (((W.alloc (.cells s.cells 58)).alloc (.cells #[.int .i64 p] 3)).alloc (.cells #[.int .i64 c] 3)).alloc (.cells #[.int .i64 n] 3) := by
  obtain ⟨h1, ⟨g, off, len, cap, h2, hp0, hp1, hl6, h3⟩, h4⟩ := h
  obtain ⟨pn, rfl⟩ : ∃ m : Nat, p = m := ⟨p.toNat, by omega⟩
  rw [Int.toNat_natCast] at h3
  have hp2 : pn < len := by omega
  have e1 : (w.alloc (.cells s.cells 58)).cell? ⟨Bp, 0, none⟩ = some (.int .i64 (pn : Int)) := Lib.cell?_alloc_some _ h1
  have e2 : (w.alloc (.cells s.cells 58)).cell? ⟨Bc, 0, none⟩ = some (.slice (some ⟨g, off, none⟩) len cap) := Lib.cell?_alloc_some _ h2
  have e3 : (w.alloc (.cells s.cells 58)).cell? ⟨g, off + pn, none⟩ = some (.int .i64 c) := Lib.cell?_alloc_some _ h3
  have e4 : (w.alloc (.cells s.cells 58)).cell? ⟨Bs, 0, none⟩ = some (.int .i64 n) := Lib.cell?_alloc_some _ h4
  have e5 : (w.alloc (.cells s.cells 58)).cell? ⟨w.heap.size, 0, none⟩ = some (.bool s.a) := by simp
  have e6 : (w.alloc (.cells s.cells 58)).cell? ⟨w.heap.size, 1, none⟩ = some (.bool s.b) := by simp
  have e7 : (w.alloc (.cells s.cells 58)).cell? ⟨w.heap.size, 2, none⟩ = some (.bool s.c) := by simp
  have e8 : (w.alloc (.cells s.cells 58)).cell? ⟨w.heap.size, 3, none⟩ = some (.bool s.d) := by simp
  have e9 : (w.alloc (.cells s.cells 58)).cell? ⟨w.heap.size, 4, none⟩ = some (.bool s.e) := by simp
  have e0 : (w.alloc (.cells s.cells 58)).cell? ⟨w.heap.size, 5, none⟩ = some (.bool s.f) := by simp
  have hG : Hid (Below w.heap.size w (w.alloc (.cells s.cells 58))) := (Below.refl _ w).alloc (Nat.le_refl _) _
  clear h1 h2 h3 h4
  go_enter Tryd.func26, Tryd.ntmps26
  go_wp2_with fail
  generalize w.alloc (.cells s.cells 58) = w0 at *
  go_region_held3 (fun w' => w'.cell? ⟨w.heap.size, 0, none⟩ = some (.bool s.a) ∧ w'.cell? ⟨w.heap.size, 1, none⟩ = some (.bool s.b) ∧ w'.cell? ⟨w.heap.size, 2, none⟩ = some (.bool s.c) ∧ w'.cell? ⟨w.heap.size, 3, none⟩ = some (.bool s.d) ∧ w'.cell? ⟨w.heap.size, 4, none⟩ = some (.bool s.e) ∧ w'.cell? ⟨w.heap.size, 5, none⟩ = some (.bool s.f) ∧ w'.cell? ⟨Bp, 0, none⟩ = some (.int .i64 (pn : Int)) ∧ w'.cell? ⟨Bc, 0, none⟩ = some (.slice (some ⟨g, off, none⟩) len cap) ∧ w'.cell? ⟨g, off + pn, none⟩ = some (.int .i64 c) ∧ w'.cell? ⟨Bs, 0, none⟩ = some (.int .i64 n) ∧ Hid (Below w0.heap.size w0 w'))
    ((go_split_ands; refine ⟨cell_seen e5 ?_, cell_seen e6 ?_, cell_seen e7 ?_, cell_seen e8 ?_, cell_seen e9 ?_, cell_seen e0 ?_, cell_seen e1 ?_, cell_seen e2 ?_, cell_seen e3 ?_, cell_seen e4 ?_, ?_⟩ <;> first | assumption | (apply seen_drew; first | assumption | exact seen_start _) | exact seen_start _))
    ((go_at_call 27; go_split_ands; refine (behind_from (s := s) (p := (pn : Int)) (c := c) (n := n) (w0 := w0) (by assumption)).mono ?_; rintro e w2 ⟨W, HW, HW2, rfl, HE⟩))
  all_goals go_wp2
  all_goals go_ret
  all_goals exact ⟨W, rfl, hG.out.trans (HW.out.mono hG.out.size), HE.out⟩
end Go.Proofs.YtedmfehjifknbaaDoor
