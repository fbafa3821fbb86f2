/- The walk of GraphSays. -/
import Derived.Test.YtafjaeoelpelnaaDoorRHeap
import Derived.Test.YtafjaeoelpelnaaDoorRRounds
import Derived.Test.YtafjaeoelpelnaaDoorGReach
import Derived.Test.YtafjaeoelpelnaaDoorTold
import Derived.Test.YtafjaeoelpelnaaDoorArgHeap
namespace Go.Proofs.YtafjaeoelpelnaaDoor
set_option maxRecDepth 100000
open Go.RowKit Go.Sort

theorem num_from {L : List (List Int)} {R S A : List Int} {m : Nat} (hf : FineH L R) (hS : ∀ x, x ∈ S → 0 ≤ x ∧ x < L.length) (hA : IsFrom (gOf L) S A) (hm : Comes L S m) : setN A = m := by
  obtain ⟨h1, h2⟩ := hA.mem
  have h16 : allIn A := fun x hx => by have := hf.come hS ((h2 x).1 hx); have := hf.few; omega
  have hk := setN_msk h1 h16
  refine Nat.eq_of_testBit_eq fun i => ?_
  by_cases hi : i < 16
  · rw [Bool.eq_iff_iff, hk.2 i hi, hm.2 i hi, h2]
  · rw [Nat.testBit_lt_two_pow (Nat.lt_of_lt_of_le hk.1 (Nat.pow_le_pow_right (n := 2) (by omega) (show 16 ≤ i by omega))), Nat.testBit_lt_two_pow (Nat.lt_of_lt_of_le hm.1 (Nat.pow_le_pow_right (n := 2) (by omega) (show 16 ≤ i by omega)))]
theorem num_rounds {L : List (List Int)} {R l : List Int} {m : Nat} (hf : FineH L R) (hl : RlD L L.length l) (hm : RingsOf L m) : setN l = m := by
  have h16 : allIn l := fun x hx => by have := (hl.2.2 x).1 hx; have := hf.few; omega
  have hk := setN_msk hl.2.1 h16
  refine Nat.eq_of_testBit_eq fun i => ?_
  by_cases hi : i < 16
  · rw [Bool.eq_iff_iff, hk.2 i hi, hm.2 i hi, hl.2.2]
    constructor
    · exact fun h => h.2.2
    · intro hr
      have := hf.come (fun x hx => hf.step hx) hr
      exact ⟨this.1, this.2, hr⟩
  · rw [Nat.testBit_lt_two_pow (Nat.lt_of_lt_of_le hk.1 (Nat.pow_le_pow_right (n := 2) (by omega) (show 16 ≤ i by omega))), Nat.testBit_lt_two_pow (Nat.lt_of_lt_of_le hm.1 (Nat.pow_le_pow_right (n := 2) (by omega) (show 16 ≤ i by omega)))]
set_option maxHeartbeats 2000000 in
theorem gsays_any (v : Value) (L : List (List Int)) (R : List Int) (w : World) (hv : IsHeap w v L R) (_ : CameH w v R) (hg : Handle w) :
    Calls Tryd.prog 3 #[v] w fun e w' => e = .returned (.bool true) ∧ Below w.heap.size w w' := by
  obtain ⟨ao, co, ar, cr, rfl, h1, h2⟩ := hv.form
  have HBX : Hid (Boxed w (w.alloc (.cells #[.slice ao L.length co, .slice ar R.length cr] 25)) w.heap.size ao co ar cr L R) := boxed h1 h2 _
  have HG : Hid (Handle w) := hg
  have hd0 : (w.alloc (.cells #[.slice ao L.length co, .slice ar R.length cr] 25)).cell? ⟨w.heap.size, 0, none⟩ = some (.slice ao L.length co) := HBX.out.outs
  have hd1 : (w.alloc (.cells #[.slice ao L.length co, .slice ar R.length cr] 25)).cell? ⟨w.heap.size, 1, none⟩ = some (.slice ar R.length cr) := HBX.out.roots
  clear hv h1 h2 hg
  go_enter Tryd.func3, Tryd.ntmps3
  go_wp2_with (go_at_call 4; fail)
  generalize w.alloc (.cells #[.slice ao L.length co, .slice ar R.length cr] 25) = W at *
  refine (rheap_any _ L R _ HBX.out.isHeap).mono ?_
  rintro e w1 ⟨rfl, hb1⟩
  have HB1 : Hid (Boxed w w1 w.heap.size ao co ar cr L R) := HBX.out.later hb1
  clear HBX hb1 hd0 hd1
  have hd0 : w1.cell? ⟨w.heap.size, 0, none⟩ = some (.slice ao L.length co) := HB1.out.outs
  have hd1 : w1.cell? ⟨w.heap.size, 1, none⟩ = some (.slice ar R.length cr) := HB1.out.roots
  obtain ⟨c, hc⟩ : ∃ c, chkH L R = c := ⟨_, rfl⟩
  have HC : Hid (chkH L R = c) := hc
  rw [hc]
  clear hc
  go_wp2_with (go_at_call 6; fail)
  refine (gcheck_any _ L R _ HB1.out.isHeap).mono ?_
  rintro e w2 ⟨rfl, hb2⟩
  have HB2 : Hid (Boxed w w2 w.heap.size ao co ar cr L R) := HB1.out.later hb2
  rw [HC.out]
  clear HB1 hb2 hd0 hd1
  have hd0 : w2.cell? ⟨w.heap.size, 0, none⟩ = some (.slice ao L.length co) := HB2.out.outs
  have hd1 : w2.cell? ⟨w.heap.size, 1, none⟩ = some (.slice ar R.length cr) := HB2.out.roots
  have HE : Hid (∃ q, q = errV c) := ⟨_, rfl⟩
  go_wp2_with (go_at_call 5; fail)
  refine (error_same c _ (HG.out.below HB2.out.below)).mono ?_
  rintro e w3 ⟨rfl, hb3⟩
  have HB3 : Hid (Boxed w w3 w.heap.size ao co ar cr L R) := HB2.out.later hb3
  clear HB2 hb3 hd0 hd1 HE
  have hd0 : w3.cell? ⟨w.heap.size, 0, none⟩ = some (.slice ao L.length co) := HB3.out.outs
  have hd1 : w3.cell? ⟨w.heap.size, 1, none⟩ = some (.slice ar R.length cr) := HB3.out.roots
  by_cases h0 : c = 0
  · subst h0
    have HF : Hid (FineH L R) := chkH_zero.1 HC.out
    have hl12 := HF.out.few
    have hz : (((0 : Nat) : Int) == 0) = true := rfl
    go_wp2_with (go_at_call 8; fail)
    refine (rfrom_any _ _ L R R _ HB3.out.rows HB3.out.ints HF.out HF.out.root).mono ?_
    rintro e w4 ⟨v4, rfl, A, hO4, HFR, hb4⟩
    have HB4 : Hid (Boxed w w4 w.heap.size ao co ar cr L R) := HB3.out.later hb4
    have hmem := HFR.out.mem
    have HA16 : Hid (allIn A) := fun x hx => by have := HF.out.come HF.out.root ((hmem.2 x).1 hx); omega
    have hAl : A.length ≤ 40 := by
      have := below_length (n := L.length) hmem.1 fun x hx => HF.out.come HF.out.root ((hmem.2 x).1 hx)
      omega
    have HO4 : Hid (IsInts w4 v4 A) := hO4.isInts
    clear HB3 hb4 hd0 hd1 hmem hO4
    have hd0 : w4.cell? ⟨w.heap.size, 0, none⟩ = some (.slice ao L.length co) := HB4.out.outs
    have hd1 : w4.cell? ⟨w.heap.size, 1, none⟩ = some (.slice ar R.length cr) := HB4.out.roots
    go_wp2_with (first | (go_at_call 7; go_must (refine (refset_any _ A _ HO4.out HA16.out hAl).mono ?_; rintro e w' ⟨rfl, hw⟩; have hw := hw.symm; subst hw)) | (go_at_call 9; fail))
    refine (rrounds_any _ L R _ HB4.out.isHeap HF.out).mono ?_
    rintro e w5 ⟨⟨l, rfl, hl⟩, hb5⟩
    have HL : Hid (RlD L L.length l) := hl
    have HB5 : Hid (Boxed w w5 w.heap.size ao co ar cr L R) := HB4.out.later hb5
    clear HB4 hb5 hd0 hd1 hl HO4
    have hd0 : w5.cell? ⟨w.heap.size, 0, none⟩ = some (.slice ao L.length co) := HB5.out.outs
    have hd1 : w5.cell? ⟨w.heap.size, 1, none⟩ = some (.slice ar R.length cr) := HB5.out.roots
    go_wp2_with (go_at_call 10; fail)
    refine (reach_any _ L R _ HB5.out.isHeap).mono ?_
    rintro e w6 ⟨⟨m, rfl, hm⟩, hb6⟩
    unfold ReachIs at hm
    rw [if_pos HC.out] at hm
    have HB6 : Hid (Boxed w w6 w.heap.size ao co ar cr L R) := HB5.out.later hb6
    rw [HC.out, num_from HF.out HF.out.root HFR.out hm]
    clear HB5 hb6 hd0 hd1 hm HFR HA16
    have hd0 : w6.cell? ⟨w.heap.size, 0, none⟩ = some (.slice ao L.length co) := HB6.out.outs
    have hd1 : w6.cell? ⟨w.heap.size, 1, none⟩ = some (.slice ar R.length cr) := HB6.out.roots
    go_wp2_with (go_at_call 5; fail)
    refine (error_same 0 _ (HG.out.below HB6.out.below)).mono ?_
    rintro e w7 ⟨rfl, hb7⟩
    have HB7 : Hid (Boxed w w7 w.heap.size ao co ar cr L R) := HB6.out.later hb7
    clear HB6 hb7 hd0 hd1
    have hd0 : w7.cell? ⟨w.heap.size, 0, none⟩ = some (.slice ao L.length co) := HB7.out.outs
    have hd1 : w7.cell? ⟨w.heap.size, 1, none⟩ = some (.slice ar R.length cr) := HB7.out.roots
    have hmm : ((m : Int) == m) = true := by simp
    go_wp2_with (go_at_call 11; fail)
    refine (rounds_any _ L R _ HB7.out.isHeap).mono ?_
    rintro e w8 ⟨⟨m2, rfl, hm⟩, hb8⟩
    unfold RoundsIs at hm
    rw [if_pos HC.out] at hm
    have HB8 : Hid (Boxed w w8 w.heap.size ao co ar cr L R) := HB7.out.later hb8
    rw [HC.out, num_rounds HF.out HL.out hm]
    clear HB7 hb8 hd0 hd1 hm HL
    go_wp2_with (go_at_call 5; fail)
    refine (error_same 0 _ (HG.out.below HB8.out.below)).mono ?_
    rintro e w9 ⟨rfl, hb9⟩
    have HB9 : Hid (Below w.heap.size w w9) := HB8.out.below.trans (hb9.mono HB8.out.below.size)
    clear hb9 HB8
    have hmm2 : ((m2 : Int) == m2) = true := by simp
    go_wp2
    go_ret
    exact ⟨rfl, HB9.out⟩
  · have hz : ((c : Int) == 0) = false := by rw [beq_eq_false_iff_ne]; omega
    have HN : Hid (chkH L R ≠ 0) := by unfold Hid; rw [HC.out]; exact h0
    clear h0
    go_wp2_with (go_at_call 10; fail)
    refine (reach_any _ L R _ HB3.out.isHeap).mono ?_
    rintro e w6 ⟨⟨m, rfl, hm⟩, hb6⟩
    unfold ReachIs at hm
    rw [if_neg HN.out] at hm
    subst hm
    have HB6 : Hid (Boxed w w6 w.heap.size ao co ar cr L R) := HB3.out.later hb6
    rw [HC.out]
    clear HB3 hb6 hd0 hd1
    have hd0 : w6.cell? ⟨w.heap.size, 0, none⟩ = some (.slice ao L.length co) := HB6.out.outs
    have hd1 : w6.cell? ⟨w.heap.size, 1, none⟩ = some (.slice ar R.length cr) := HB6.out.roots
    go_wp2_with (go_at_call 5; fail)
    refine (error_same c _ (HG.out.below HB6.out.below)).mono ?_
    rintro e w7 ⟨rfl, hb7⟩
    have HB7 : Hid (Boxed w w7 w.heap.size ao co ar cr L R) := HB6.out.later hb7
    clear HB6 hb7 hd0 hd1
    have hd0 : w7.cell? ⟨w.heap.size, 0, none⟩ = some (.slice ao L.length co) := HB7.out.outs
    have hd1 : w7.cell? ⟨w.heap.size, 1, none⟩ = some (.slice ar R.length cr) := HB7.out.roots
    go_wp2_with (go_at_call 11; fail)
    refine (rounds_any _ L R _ HB7.out.isHeap).mono ?_
    rintro e w8 ⟨⟨m2, rfl, hm⟩, hb8⟩
    unfold RoundsIs at hm
    rw [if_neg HN.out] at hm
    subst hm
    have HB8 : Hid (Boxed w w8 w.heap.size ao co ar cr L R) := HB7.out.later hb8
    rw [HC.out]
    clear HB7 hb8 hd0 hd1
    go_wp2_with (go_at_call 5; fail)
    refine (error_same c _ (HG.out.below HB8.out.below)).mono ?_
    rintro e w9 ⟨rfl, hb9⟩
    have HB9 : Hid (Below w.heap.size w w9) := HB8.out.below.trans (hb9.mono HB8.out.below.size)
    clear hb9 HB8
    go_wp2
    go_ret
    exact ⟨rfl, HB9.out⟩
end Go.Proofs.YtafjaeoelpelnaaDoor
