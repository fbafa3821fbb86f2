/- The walk of the laws' fact. -/
import Derived.Test.YtmibnceadciidaaCStep
namespace Go.Proofs.Ytmibnceadciidaa
set_option maxRecDepth 100000
open Go.RowKit Go.Sort

set_option maxHeartbeats 1000000 in
theorem cfact_any (w : World) :
    Calls Try.prog 7 #[] w fun e w' => e = .returned (.bool true) ∧ Below w.heap.size w w' := by
  have g0 := start_good
  have k1 : (⟨[], [], []⟩ : KS).doK 0 0 0 = (⟨[[]], [0], [true]⟩, 0, 0) := by kernel_rfl
  have k2 : (⟨[[]], [0], [true]⟩ : KS).doK 0 0 0 = (⟨[[], []], [0, 1], [true, true]⟩, 1, 0) := by kernel_rfl
  have k3 : (⟨[[], []], [0, 1], [true, true]⟩ : KS).doK 3 0 0 = (⟨[[0], []], [0, 1], [true, true]⟩, 0, 0) := by kernel_rfl
  have k4 : (⟨[[0], []], [0, 1], [true, true]⟩ : KS).doK 2 0 0 = (⟨[[0], []], [1], [true, true]⟩, 0, 0) := by kernel_rfl
  have k5 : (⟨[[0], []], [1], [true, true]⟩ : KS).doK 2 1 0 = (⟨[[0], []], [], [true, false]⟩, 0, 0) := by kernel_rfl
  have k6 : hereB ⟨[[0], []], [], [true, false]⟩ = 1 := by kernel_rfl
  have k7 : (⟨[[0], []], [], [true, false]⟩ : KS).count 0 = 1 := by kernel_rfl
  have g1 := do_good g0 0 0 0
  rw [k1] at g1
  have g2 := do_good g1 0 0 0
  rw [k2] at g2
  have g3 := do_good g2 3 0 0
  rw [k3] at g3
  have g4 := do_good g3 2 0 0
  rw [k4] at g4
  have g5 := do_good g4 2 1 0
  rw [k5] at g5
  have G : Hid (KGood ⟨[], [], []⟩ ∧ KGood ⟨[[]], [0], [true]⟩ ∧ KGood ⟨[[], []], [0, 1], [true, true]⟩ ∧ KGood ⟨[[0], []], [0, 1], [true, true]⟩ ∧ KGood ⟨[[0], []], [1], [true, true]⟩ ∧ KGood ⟨[[0], []], [], [true, false]⟩) := ⟨g0, g1, g2, g3, g4, g5⟩
  have K : Hid (((⟨[], [], []⟩ : KS).doK 0 0 0 = (⟨[[]], [0], [true]⟩, 0, 0)) ∧ ((⟨[[]], [0], [true]⟩ : KS).doK 0 0 0 = (⟨[[], []], [0, 1], [true, true]⟩, 1, 0)) ∧ ((⟨[[], []], [0, 1], [true, true]⟩ : KS).doK 3 0 0 = (⟨[[0], []], [0, 1], [true, true]⟩, 0, 0)) ∧ ((⟨[[0], []], [0, 1], [true, true]⟩ : KS).doK 2 0 0 = (⟨[[0], []], [1], [true, true]⟩, 0, 0)) ∧ ((⟨[[0], []], [1], [true, true]⟩ : KS).doK 2 1 0 = (⟨[[0], []], [], [true, false]⟩, 0, 0)) ∧ hereB ⟨[[0], []], [], [true, false]⟩ = 1 ∧ (⟨[[0], []], [], [true, false]⟩ : KS).count 0 = 1) := ⟨k1, k2, k3, k4, k5, k6, k7⟩
  clear g0 g1 g2 g3 g4 g5 k1 k2 k3 k4 k5 k6 k7
  go_enter Try.func7, Try.ntmps7
  go_wp2_with (go_at_call 23; fail)
  refine (newC_any _).mono ?_
  rintro e w1 ⟨a, S0, rfl, h0, hs0, hb0⟩
  have H0 : Hid (Obj w w1 S0 a ⟨[], [], []⟩) := ⟨h0, hs0, hb0, G.out.1⟩
  clear h0 hs0 hb0
  go_wp2_with (go_at_call 24; fail)
  refine (makeP_any S0 a _ 0 0 _ H0.out.heap H0.out.good).mono ?_
  rintro e w2 ⟨rfl, hd⟩
  rw [K.out.1] at hd ⊢
  obtain ⟨S1, h1⟩ := H0.out.done hd G.out.2.1
  have H1 : Hid _ := h1
  clear H0 h1 hd
  rw [show errV 0 = .nilIface from rfl]
  go_wp2_with (go_at_call 24; fail)
  refine (makeP_any S1 a _ 0 0 _ H1.out.heap H1.out.good).mono ?_
  rintro e w3 ⟨rfl, hd⟩
  rw [K.out.2.1] at hd ⊢
  obtain ⟨S2, h2⟩ := H1.out.done hd G.out.2.2.1
  have H2 : Hid _ := h2
  clear H1 h2 hd
  rw [show errV 0 = .nilIface from rfl]
  go_wp2_with (go_at_call 18; fail)
  refine (linkP_any S2 a _ 0 0 _ H2.out.heap H2.out.good).mono ?_
  rintro e w4 ⟨rfl, hd⟩
  rw [K.out.2.2.1] at hd ⊢
  obtain ⟨S3, h3⟩ := H2.out.done hd G.out.2.2.2.1
  have H3 : Hid _ := h3
  clear H2 h3 hd
  rw [show errV 0 = .nilIface from rfl]
  go_wp2_with (go_at_call 17; fail)
  refine (dropP_any S3 a _ 0 0 _ H3.out.heap H3.out.good).mono ?_
  rintro e w5 ⟨rfl, hd⟩
  rw [K.out.2.2.2.1] at hd ⊢
  obtain ⟨S4, h4⟩ := H3.out.done hd G.out.2.2.2.2.1
  have H4 : Hid _ := h4
  clear H3 h4 hd
  rw [show errV 0 = .nilIface from rfl]
  go_wp2_with (go_at_call 17; fail)
  refine (dropP_any S4 a _ 1 0 _ H4.out.heap H4.out.good).mono ?_
  rintro e w6 ⟨rfl, hd⟩
  rw [K.out.2.2.2.2.1] at hd ⊢
  obtain ⟨S5, h5⟩ := H4.out.done hd G.out.2.2.2.2.2
  have H5 : Hid _ := h5
  clear H4 h5 hd
  rw [show errV 0 = .nilIface from rfl]
  go_wp2_with (first | (go_at_call 10; go_must (refine (hereP_any S5 a _ _ H5.out.heap H5.out.good).mono ?_; rintro e w' ⟨rfl, hw⟩; have hw := hw.symm; subst hw; rw [K.out.2.2.2.2.2.1])) | (go_at_call 12; go_must (refine (countP_any S5 a _ 0 _ H5.out.heap H5.out.good.mid).mono ?_; rintro e w' ⟨rfl, hw⟩; have hw := hw.symm; subst hw; rw [K.out.2.2.2.2.2.2])))
  go_ret
  exact ⟨rfl, H5.out.below⟩
end Go.Proofs.Ytmibnceadciidaa
