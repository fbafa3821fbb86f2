/- The least place of a set: math/bits.TrailingZeros64, over its table, and what calls it. -/
import Derived.Test.YtjcikoaoemingaaDoorBSet
import Derived.Shelf.Spec.TrailingZeros
namespace Go.Proofs.YtjcikoaoemingaaDoor
open Go.RowKit Go.Maps Go.Sort

/-- The table of math/bits lies in its variable. -/
def Tabbed (w : World) : Prop := TabAt 1 Lib.deBruijn64tab w
theorem Tabbed.lt {w : World} (h : Tabbed w) : 1 < w.heap.size := World.block_lt_of_cell? w _ (h 0 (by decide))
theorem Tabbed.same {w w1 : World} (h : Tabbed w) (he : w1.heap[1]? = w.heap[1]?) : Tabbed w1 := fun j hj => by
  rw [World.cell?_of_block (a := ⟨1, j, none⟩) he]
  exact h j hj
theorem Tabbed.turn {w w1 : World} {a b : Nat} (h : Tabbed w) (ht : Turn a b w w1) (ha : 1 < a) (hb : 1 < b) : Tabbed w1 := h.same (ht.block _ h.lt (by omega) (by omega))
theorem Tabbed.below {w w1 : World} {B : Nat} (h : Tabbed w) (ht : Below B w w1) (hB : 1 < B) : Tabbed w1 := h.same (ht.block _ hB)
theorem Tabbed.drewN {w : World} (h : Tabbed w) (n : Nat) : Tabbed (w.drewN n) := h

theorem tz_core (x k idx : Nat) (w : World) (hx0 : ((x : Int) == 0) = false)
    (key : IntKind.u64.wrap (bits BinOp.and IntKind.u64 (x : Int) (IntKind.u64.wrap (-(x : Int))) * 285870213051353865) / 288230376151711744 = (idx : Int))
    (hi : idx < 64) (hcell : w.cell? ⟨1, idx, none⟩ = some (.int .u8 k)) (hk : k < 64) :
    Calls Tryd.prog 49 #[.int .u64 x] w fun e w' => e = .returned (.int .i64 k) ∧ w' = w := by
  go_enter Tryd.func49, Tryd.ntmps49
  go_wp2_with (simp only [key])
  go_ret
  exact ⟨rfl, rfl⟩
theorem tz_any (x : Nat) (hx : x < 18446744073709551616) (hx0 : x ≠ 0) (w : World) (hT : Tabbed w) :
    Calls Tryd.prog 49 #[.int .u64 x] w fun e w' => e = .returned (.int .i64 (Lib.ctz 64 x)) ∧ w' = w := by
  obtain ⟨hlow, hk⟩ := Lib.lowest_bit 64 x hx0 hx
  obtain ⟨hi, htab⟩ := Lib.deBruijn64_at _ hk
  have hcell := hT _ hi
  rw [htab] at hcell
  exact tz_core x _ _ w (by simp; omega) (tz64_key x _ hx hx0 hlow) hi hcell hk
theorem first_any (x : Nat) (hx : x < 18446744073709551616) (hx0 : x ≠ 0) (w : World) (hT : Tabbed w) :
    Calls Tryd.prog 38 #[.int .u64 x] w fun e w' => e = .returned (.int .i64 (Lib.ctz 64 x)) ∧ w' = w := by
  have HT : Hid (Tabbed w) := hT
  clear hT
  go_enter Tryd.func38, Tryd.ntmps38
  go_wp2_with (go_at_call 49; go_must (refine (tz_any x hx hx0 _ HT.out).mono ?_; rintro e w1 ⟨rfl, rfl⟩))
  go_ret
  exact ⟨rfl, rfl⟩
end Go.Proofs.YtjcikoaoemingaaDoor
