/- The walk of the document's answer: LeastCost, with lesser and many. -/
import Derived.Test.YtedmfehjifknbaaDoorRefLeastL
import Derived.Test.YtedmfehjifknbaaDoorLCheck
import Derived.Test.YtedmfehjifknbaaDoorRefSet
import Derived.Test.YtedmfehjifknbaaDoorOwnCells
import Derived.Laws.MakeOwn
import Derived.Deep.RegionWith
namespace Go.Proofs.YtedmfehjifknbaaDoor
set_option maxRecDepth 100000
open Go.RowKit Go.Sort

theorem OwnI.storedN {w w0 : World} {g n cap : Nat} {l : List Int} (h : OwnI w w0.heap.size (.slice (some ⟨g, 0, none⟩) n cap) l) (hn : l.length = n) (hb : Below w0.heap.size w0 w) (j : Nat) (x : Int) :
    OwnI (w.setCell ⟨g, j, none⟩ (.int .i64 x)) w0.heap.size (.slice (some ⟨g, 0, none⟩) n cap) (l.set j x) ∧ Below w0.heap.size w0 (w.setCell ⟨g, j, none⟩ (.int .i64 x)) := by
  subst hn
  have h1 := World.ownsRow.stored h j (.int .i64 x)
  refine ⟨?_, ?_⟩
  · unfold OwnI
    rw [List.length_set, List.map_set]
    exact h1.1
  · rcases h.2 with ⟨h0, _⟩ | ⟨g', cap', cur, hv, hbg, hg, _⟩
    · simp at h0
    · simp at hv
      obtain ⟨rfl, rfl⟩ := hv
      exact hb.setCell hbg _
set_option maxHeartbeats 400000 in
theorem lesser_any (o : Option Nat) (y : Nat) (w : World) : Calls Tryd.prog 18 #[.int .i64 (vN o), .int .i64 (y : Nat)] w fun e w' => e = .returned (.int .i64 (vN (minO o y))) ∧ w' = w := by
  cases o with
  | none =>
    show Calls _ _ #[.int .i64 (-1), _] _ _
    go_enter Tryd.func18, Tryd.ntmps18
    go_wp2
    go_ret
    exact ⟨rfl, rfl⟩
  | some z =>
    show Calls _ _ #[.int .i64 (z : Int), _] _ _
    by_cases h : y < z
    · have h2 : (y : Int) < (z : Int) := by omega
      have HM : Hid (vN (minO (some z) y) = (y : Int)) := by unfold Hid; show vN (if y < z then some y else some z) = _; rw [if_pos h]; rfl
      clear h
      go_enter Tryd.func18, Tryd.ntmps18
      go_wp2
      go_ret
      exact ⟨by rw [HM.out]; rfl, rfl⟩
    · have h2 : ¬ (y : Int) < (z : Int) := by omega
      have HM : Hid (vN (minO (some z) y) = (z : Int)) := by unfold Hid; show vN (if y < z then some y else some z) = _; rw [if_neg h]; rfl
      clear h
      go_enter Tryd.func18, Tryd.ntmps18
      go_wp2
      go_ret
      exact ⟨by rw [HM.out]; rfl, rfl⟩
theorem cnt_le (j m : Nat) : cnt j m ≤ j := by
  unfold cnt
  have := List.length_filter_le m.testBit (List.range j)
  rwa [List.length_range] at this
set_option maxHeartbeats 400000 in
theorem rmany_any (m : Nat) (hm : m < 64) (w : World) : Calls Tryd.prog 19 #[.int .i64 (m : Nat)] w fun e w' => e = .returned (.int .i64 (cnt 16 m : Nat)) ∧ w' = w := by
  go_enter Tryd.func19, Tryd.ntmps19
  go_wp2
  go_loop [0, 3] (fun s c => ∃ j : Nat, j ≤ 16 ∧ c = .int .i64 (cnt j m) ∧ s = .int .i64 ((m / 2 ^ j : Nat) : Int)) (fun s _ => (intOf s).toNat)
  case atStart => exact ⟨0, by omega, rfl, by simp⟩
  case round =>
    obtain ⟨j, hj, rfl, rfl⟩ := hrel
    have hcj := cnt_le j m
    by_cases hz : m / 2 ^ j = 0
    · have HD : Hid (cnt j m = cnt 16 m) := cnt_end hz hj
      rw [hz]
      clear hz
      go_wp2
      go_ret
      exact ⟨by rw [HD.out]; rfl, rfl⟩
    · have hj16 : j < 16 := by
        refine Nat.lt_of_not_le fun h => hz (Nat.div_eq_of_lt (Nat.lt_of_lt_of_le (Nat.lt_trans hm (by decide : 64 < 2 ^ 16)) ?_))
        exact Nat.pow_le_pow_right (n := 2) (by omega) h
      have HST : Hid (cnt (j+1) m = cnt j m + m / 2 ^ j % 2) := cnt_step m j
      have HDV : Hid (m / 2 ^ (j+1) = m / 2 ^ j / 2) := by unfold Hid; rw [Nat.pow_succ, Nat.div_div_eq_div_mul]
      have hle : m / 2 ^ j ≤ m := Nat.div_le_self _ _
      generalize m / 2 ^ j = q at *
      generalize cnt j m = c at *
      have hq0 : 0 < q := by omega
      go_wp2
      go_round
      case rel => exact ⟨j + 1, by omega, by rw [HST.out]; go_num, by rw [HDV.out]; go_num⟩
      case measure => simp [intOf]; omega
theorem zeros_new (w : World) : OwnI (w.alloc (.cells (madeCells #[.int .i64 0] 64) 3)) w.heap.size (.slice (some ⟨w.heap.size, 0, none⟩) 64 64) (List.replicate 64 0) := by
  refine ⟨by rw [List.length_map, Nat.mul_one], .inr ⟨w.heap.size, 64, madeCells #[.int .i64 0] 64, by rw [List.length_replicate], Nat.le_refl _, heap_alloc_new _ _, by rw [List.length_replicate]; exact Nat.le_refl _, by unfold maxLen; omega, by rw [size_madeCells, Nat.mul_one], ?_⟩⟩
  rw [List.length_replicate, Nat.mul_one, toList_madeCells_one, List.map_replicate, List.take_of_length_le (by rw [List.length_replicate]; exact Nat.le_refl _)]
theorem make64 (w : World) : (Instr.makeSlice 22 (.int .i64 64) (.int .i64 64)).run Tryd.prog w = .ok (.slice (some ⟨w.heap.size, 0, none⟩) 64 64) (w.alloc (.cells (madeCells #[.int .i64 0] 64) 3)) := by
  obtain ⟨i0, hi, hz0, hz1, hz2⟩ := info_parts Tryd.info3
  have := run_make (P := Tryd.prog) w 22 3 i0 (.int .i64 0) Tryd.underlying22 hi hz0 .i64 .i64 64 64 (by omega) (Int.le_refl _) (by rw [hz2]; omega) (by omega)
  rw [this, hz1]; rfl
/-- The first k of 64, laid at -1; the others as they were. -/
def negTo (a : List Int) (k : Nat) : List Int := List.replicate k (-1) ++ a.drop k
theorem negTo_succ {a : List Int} {k : Nat} (h : k < a.length) : (negTo a k).set k (-1) = negTo a (k+1) := by
  unfold negTo
  rw [List.set_append_right _ _ (by rw [List.length_replicate]; exact Nat.le_refl _), List.length_replicate, Nat.sub_self, List.drop_eq_getElem_cons h, List.set_cons_zero, List.replicate_succ', List.append_assoc]; rfl
theorem negTo_length {a : List Int} {k : Nat} (h : k ≤ a.length) : (negTo a k).length = a.length := by unfold negTo; rw [List.length_append, List.length_replicate, List.length_drop]; omega
theorem neg_all : negTo (List.replicate 64 0) 64 = rowN (fun _ => none) := by decide
def T0 : Nat → Option Nat := fun m => if m = 0 then some 0 else none
/-- The first row: all but the first are -1, up to k. -/
def firstTo (k : Nat) : List Int := 0 :: negTo (List.replicate 63 0) k
theorem firstTo_succ {k : Nat} (h : k < 63) : (firstTo k).set (k+1) (-1) = firstTo (k+1) := by
  unfold firstTo
  rw [List.set_cons_succ, negTo_succ (by rw [List.length_replicate]; exact h)]
theorem firstTo_length {k : Nat} (h : k ≤ 63) : (firstTo k).length = 64 := by unfold firstTo; rw [List.length_cons, negTo_length (by rw [List.length_replicate]; exact h), List.length_replicate]
theorem firstTo_all : firstTo 63 = rowN T0 := by decide
theorem firstTo_zero : firstTo 0 = List.replicate 64 0 := by decide
end Go.Proofs.YtedmfehjifknbaaDoor
