/- The walks of larderwicksame.Rows and Heaps where both hold the same. -/
import Derived.Test.YtennlinnclcngaaDoorHeapI
import Derived.Test.YtennlinnclcngaaDoorInts
namespace Go.Proofs.YtennlinnclcngaaDoor
set_option maxRecDepth 100000
open Go.RowKit Go.Sort

set_option maxHeartbeats 1000000 in
theorem rows_same (v v2 : Value) (L : List (List Int)) (w : World) (hv : IsRows w v L) (hv2 : IsRows w v2 L) :
    Calls Tryd.prog 17 #[v, v2] w fun e w' => e = .returned (.bool true) ∧ ∃ n, w' = w.drewN n := by
  obtain ⟨ao, co, rfl⟩ := hv.form
  obtain ⟨a2, c2, rfl⟩ := hv2.form
  have HV : Hid (IsRows w (.slice ao L.length co) L) := hv
  have HV2 : Hid (IsRows w (.slice a2 L.length c2) L) := hv2
  clear hv hv2
  go_enter Tryd.func17, Tryd.ntmps17
  go_wp2
  go_loopw [5] (fun i wr => ∃ k q : Nat, k ≤ L.length ∧ i = .int .i64 k ∧ wr = w.drewN q) (fun i _ => L.length - (intOf i).toNat)
  case atStart => exact ⟨0, 0, Nat.zero_le _, rfl, rfl⟩
  case round =>
    obtain ⟨k, q, hk, rfl, rfl⟩ := hrel
    by_cases hlt : k < L.length
    · have hlt' : (k : Int) < (L.length : Int) := by omega
      obtain ⟨b, off, rfl, hlc, hbs, au, cu, hcu, hiu, hmm, hcum⟩ := HV.out.at hlt
      obtain ⟨b2, off2, rfl, hlc2, hbs2, au2, cu2, hcu2, hiu2, hmm2, hcum2⟩ := HV2.out.at hlt
      have HQ : Hid (∀ n, ∃ q', (w.drewN q).drewN n = w.drewN q') := fun n => ⟨q + n, by simp [World.drewN_drewN]⟩
      have hcq : (w.drewN q).cell? ⟨b, off + k, none⟩ = some (.slice au (rowAt L k).length cu) := hcu
      have hcq2 : (w.drewN q).cell? ⟨b2, off2 + k, none⟩ = some (.slice au2 (rowAt L k).length cu2) := hcu2
      have HS : Hid (∀ W : World, W.heap = (w.drewN q).heap → Calls Tryd.prog 9 #[.slice au (rowAt L k).length cu, .slice au2 (rowAt L k).length cu2] W fun e w' => e = .returned (.bool true) ∧ ∃ n, w' = W.drewN n) := fun W hW => ints_same _ _ (rowAt L k) W (hiu.heap hW) (hiu2.heap hW)
      clear hiu hiu2 hcu hcu2
      generalize w.drewN q = wq at *
      go_wp2
      go_quiet (first | (go_at_call 9; exact Calls.quiet_of (HS.out _ (by rfl))))
      go_wp2
      go_roundw
      case rel =>
        obtain ⟨q', hq'⟩ := HQ.out nq
        exact ⟨k + 1, q', by omega, by go_num, hq'⟩
      case measure => simp [intOf]; omega
    · have hlt' : ¬ (k : Int) < (L.length : Int) := by omega
      go_wp2
      go_ret
      exact ⟨rfl, q, rfl⟩
set_option maxHeartbeats 1000000 in
theorem heaps_same (v v2 : Value) (L : List (List Int)) (R : List Int) (w : World) (hv : IsHeap w v L R) (hv2 : IsHeap w v2 L R) :
    Calls Tryd.prog 10 #[v, v2] w fun e w' => e = .returned (.bool true) ∧ Below w.heap.size w w' := by
  obtain ⟨ao, co, ar, cr, rfl, h1, h2⟩ := hv.form
  obtain ⟨a2, c2, r2, d2, rfl, h3, h4⟩ := hv2.form
  have HBX : Hid (Boxed w (w.alloc (.cells #[.slice ao L.length co, .slice ar R.length cr] 25)) w.heap.size ao co ar cr L R) := boxed h1 h2 _
  have HBY : Hid (Boxed (w.alloc (.cells #[.slice ao L.length co, .slice ar R.length cr] 25)) ((w.alloc (.cells #[.slice ao L.length co, .slice ar R.length cr] 25)).alloc (.cells #[.slice a2 L.length c2, .slice r2 R.length d2] 25)) (w.alloc (.cells #[.slice ao L.length co, .slice ar R.length cr] 25)).heap.size a2 c2 r2 d2 L R) := boxed (h3.below HBX.out.below) (h4.below HBX.out.below) _
  have HB2 : Hid (Boxed w ((w.alloc (.cells #[.slice ao L.length co, .slice ar R.length cr] 25)).alloc (.cells #[.slice a2 L.length c2, .slice r2 R.length d2] 25)) w.heap.size ao co ar cr L R) := HBX.out.later ((Below.refl _ _).alloc (Nat.le_refl _) _)
  have HSZ : Hid ((w.alloc (.cells #[.slice ao L.length co, .slice ar R.length cr] 25)).heap.size = w.heap.size + 1) := by unfold Hid; simp
  have hd0 := HB2.out.outs
  have hd1 := HB2.out.roots
  have he0 : ((w.alloc (.cells #[.slice ao L.length co, .slice ar R.length cr] 25)).alloc (.cells #[.slice a2 L.length c2, .slice r2 R.length d2] 25)).cell? ⟨w.heap.size + 1, 0, none⟩ = some (.slice a2 L.length c2) := by rw [← HSZ.out]; exact HBY.out.outs
  have he1 : ((w.alloc (.cells #[.slice ao L.length co, .slice ar R.length cr] 25)).alloc (.cells #[.slice a2 L.length c2, .slice r2 R.length d2] 25)).cell? ⟨w.heap.size + 1, 1, none⟩ = some (.slice r2 R.length d2) := by rw [← HSZ.out]; exact HBY.out.roots
  have HR1 : Hid (IsInts ((w.alloc (.cells #[.slice ao L.length co, .slice ar R.length cr] 25)).alloc (.cells #[.slice a2 L.length c2, .slice r2 R.length d2] 25)) (.slice ar R.length cr) R) := HB2.out.ints
  have HR2 : Hid (IsInts ((w.alloc (.cells #[.slice ao L.length co, .slice ar R.length cr] 25)).alloc (.cells #[.slice a2 L.length c2, .slice r2 R.length d2] 25)) (.slice r2 R.length d2) R) := HBY.out.ints
  have HO1 : Hid (IsRows ((w.alloc (.cells #[.slice ao L.length co, .slice ar R.length cr] 25)).alloc (.cells #[.slice a2 L.length c2, .slice r2 R.length d2] 25)) (.slice ao L.length co) L) := HB2.out.rows
  have HO2 : Hid (IsRows ((w.alloc (.cells #[.slice ao L.length co, .slice ar R.length cr] 25)).alloc (.cells #[.slice a2 L.length c2, .slice r2 R.length d2] 25)) (.slice a2 L.length c2) L) := HBY.out.rows
  have HBE : Hid (Below w.heap.size w ((w.alloc (.cells #[.slice ao L.length co, .slice ar R.length cr] 25)).alloc (.cells #[.slice a2 L.length c2, .slice r2 R.length d2] 25))) := HB2.out.below
  clear hv hv2 h1 h2 h3 h4 HBX HBY HB2 HSZ
  go_enter Tryd.func10, Tryd.ntmps10
  go_wp2_with fail
  generalize (w.alloc (.cells #[.slice ao L.length co, .slice ar R.length cr] 25)).alloc (.cells #[.slice a2 L.length c2, .slice r2 R.length d2] 25) = w2 at *
  refine (ints_same _ _ R _ HR1.out HR2.out).mono ?_
  rintro e w3 ⟨rfl, q, rfl⟩
  have HP1 : Hid (IsRows (w2.drewN q) (.slice ao L.length co) L) := HO1.out.heap rfl
  have HP2 : Hid (IsRows (w2.drewN q) (.slice a2 L.length c2) L) := HO2.out.heap rfl
  go_wp2_with (go_at_call 17; fail)
  refine (rows_same _ _ L _ HP1.out HP2.out).mono ?_
  rintro e w4 ⟨rfl, q4, rfl⟩
  go_wp2
  go_ret
  exact ⟨rfl, below_drewN HBE.out _⟩
end Go.Proofs.YtennlinnclcngaaDoor
