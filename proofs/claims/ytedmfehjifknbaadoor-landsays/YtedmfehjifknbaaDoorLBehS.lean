/- The stores that may be behind a request, as an iterator that any loop may go through. -/
import Derived.Test.YtedmfehjifknbaaDoorLBeh
namespace Go.Proofs.YtedmfehjifknbaaDoor
set_option maxRecDepth 100000
open Go.RowKit Go.Maps Go.Shelf

theorem Boxes.below {w W : World} {B Bp Bs Bc : Nat} {s : S6} {p : Nat} {co : Fin 1024} {sl : Nat} (h : Boxes w B Bp Bs Bc s p co sl) (hb : Below w.heap.size w W) : Boxes W B Bp Bs Bc s p co sl := by
  have k : ∀ {b j : Nat} {u : Value}, w.cell? ⟨b, j, none⟩ = some u → W.cell? ⟨b, j, none⟩ = some u := fun h0 => (hb.cell (World.block_lt_of_cell? w _ h0)).trans h0
  exact ⟨k h.b0, k h.b1, k h.b2, k h.b3, k h.b4, k h.b5, k h.b6, k h.b7, k h.b8⟩
theorem behind_stops (n : Nat) (hn : 1 ≤ n) (B Bp Bs Bc bn : Nat) (s : S6) (p : Nat) (hp : p < 6) (co : Fin 1024) (sl : Nat) (w : World) (hbn : bn < B ∧ bn < Bc) (hB : Boxes w B Bp Bs Bc s p co sl) :
    SeqStopsK Fence.wide n Tryd.prog 35 #[.pointer (some ⟨B, 0, none⟩), .pointer (some ⟨Bp, 0, none⟩), .pointer (some ⟨Bs, 0, none⟩), .pointer (some ⟨Bc, 0, none⟩)] encE (KeepB bn) (fun ys => ys = behindL s p co sl) (fun _ => True) 7 w := fun l J Jx W hW hJ _ hY h0 => by
  have hB2 := hB.below hW
  exact beh_any n hn l B Bp Bs Bc bn s p hp co sl J Jx hY W hJ hbn hB2 h0
end Go.Proofs.YtedmfehjifknbaaDoor
