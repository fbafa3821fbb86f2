/- Part of OptBegin: for every list of requests, every number of slots and every place, in whatever memory and on every schedule, it returns true and leaves its argument as it was: a beginning costs no more than the whole, and the whole no more than both parts alone. No condition. -/
import Derived.Test.YtkhjpelghlchnaaOptFact
import Derived.Test.YtkhjpelghlchnaaLawIn
import Derived.Test.YtkhjpelghlchnaaLawkit
namespace Go.Proofs.Ytkhjpelghlchnaa
open Go.ChangeShapes Go.WideShapes Go.ChangeAt Go.RowKit Go.Sort

theorem chk_part {l m : List Int} {s : Int} (h : chk l s = 0) (hm : ∀ x, x ∈ m → x ∈ l) (hl : m.length ≤ l.length) : chk m s = 0 := by
  obtain ⟨h40, h1, h8⟩ := chk_zero h
  have hp := chk_pages h
  refine chk_ok (by omega) ?_ ⟨h1, h8⟩
  rw [List.any_eq_false]
  intro x hx
  have := hp x (hm x hx)
  simp [bad]; omega
theorem begin_all {l : List Int} {s : Int} {n : Nat} (h : chk l s = 0) (hn : n ≤ l.length) : Hid (chk (l.take n) s = 0) ∧ Hid (chk (l.drop n) s = 0) ∧
    Hid (missed (optB (l.take n) s) (optB (l.take n) s).length ≤ missed (optB l s) (optB l s).length ∧ missed (optB l s) (optB l s).length ≤ missed (optB (l.take n) s) (optB (l.take n) s).length + missed (optB (l.drop n) s) (optB (l.drop n) s).length ∧ missed (optB (l.take n) s) (optB (l.take n) s).length ≤ 40 ∧ missed (optB (l.drop n) s) (optB (l.drop n) s).length ≤ 40) := by
  have h1 : chk (l.take n) s = 0 := chk_part h (fun x hx => List.mem_of_mem_take hx) (by rw [List.length_take]; omega)
  have h2 : chk (l.drop n) s = 0 := chk_part h (fun x hx => List.mem_of_mem_drop hx) (by rw [List.length_drop]; omega)
  obtain ⟨h40, hs1, hs8⟩ := chk_zero h
  refine ⟨h1, h2, ?_⟩
  unfold Hid
  rw [optB_ok h, optB_ok h1, optB_ok h2]
  have hb := omiss_begin (s := s.toNat) (n := n) (by omega) (chk_pages h) hn
  have m1 := missed_le (marks (ohit s.toNat (l.take n)) (l.take n).length) (marks (ohit s.toNat (l.take n)) (l.take n).length).length
  have m2 := missed_le (marks (ohit s.toNat (l.drop n)) (l.drop n).length) (marks (ohit s.toNat (l.drop n)) (l.drop n).length).length
  have e1 := marks_length (ohit s.toNat (l.take n)) (l.take n).length
  have e2 := marks_length (ohit s.toNat (l.drop n)) (l.drop n).length
  have l1 : (l.take n).length ≤ 40 := by rw [List.length_take]; omega
  have l2 : (l.drop n).length ≤ 40 := by rw [List.length_drop]; omega
  exact ⟨hb.1, hb.2, by omega, by omega⟩

set_option maxHeartbeats 2000000 in
theorem begin_mid (b off cap n : Nat) (l : List Int) (s : Int) (w : World) (hnl : n ≤ l.length) (hcn : cap ≠ n) (hlc : l.length ≤ cap) (_hcap : cap ≤ 2 ^ 63 - 1) (HV : Hid (IsInts w (.slice (some ⟨b, off, none⟩) l.length cap) l)) (HP : Hid (IsInts w (.slice (some ⟨b, off, none⟩) n cap) (l.take n))) (HD : Hid (IsInts w (.slice (some ⟨b, off + n, none⟩) (l.length - n) (cap - n)) (l.drop n))) (HIN : Hid (within (n : Int) 0 (l.length : Int) = true)) :
    Calls Try.prog 7 #[.slice (some ⟨b, off, none⟩) l.length cap, .int .i64 s, .int .i64 n] w fun e w' => e = .returned (.bool true) ∧ Below w.heap.size w w' := by
  go_enter Try.func7, Try.ntmps7
  go_wp2_with (first | (go_at_call 15; go_must (refine (later_any _).mono ?_; rintro e w1 ⟨rfl, hb1⟩)) | (go_at_call 20; go_must (refine (within_any _ _ _ _).mono ?_; rintro e w' ⟨rfl, hw⟩; have hw := hw.symm; subst hw; rw [HIN.out])) | (go_at_call 13; fail))
  have HB1 : Hid (Below w.heap.size w w1) := hb1
  clear hb1
  refine (opt_any _ (l.take n) s _ (HP.out.below HB1.out)).mono ?_
  rintro e w2 ⟨va, vo2, vh2, rfl, hA, _, _, hb2⟩
  have HB2 : Hid (Below w.heap.size w w2) := HB1.out.trans (hb2.mono HB1.out.size)
  have HA2 : Hid (IsBools w2 va (optB (l.take n) s)) := hA.isBools
  clear hA hb2
  by_cases hc : chk l s = 0
  · obtain ⟨HC1, HC2, HM⟩ := begin_all hc hnl
    rw [HC1.out, show errV 0 = .nilIface from rfl]
    have HC : Hid (chk l s = 0) := hc
    clear hc
    go_wp2_with (go_at_call 13; fail)
    refine (opt_any _ (l.drop n) s _ (HD.out.below HB2.out)).mono ?_
    rintro e w3 ⟨vb, vo3, vh3, rfl, hB, _, _, hb3⟩
    rw [HC2.out, show errV 0 = .nilIface from rfl]
    have HB3 : Hid (Below w.heap.size w w3) := HB2.out.trans (hb3.mono HB2.out.size)
    have HA3 : Hid (IsBools w3 va (optB (l.take n) s)) := HA2.out.below hb3
    have HBB3 : Hid (IsBools w3 vb (optB (l.drop n) s)) := hB.isBools
    clear hB hb3 HA2
    go_wp2_with (go_at_call 13; fail)
    refine (opt_any _ l s _ (HV.out.below HB3.out)).mono ?_
    rintro e w4 ⟨vc, vo4, vh4, rfl, hC, _, _, hb4⟩
    rw [HC.out, show errV 0 = .nilIface from rfl]
    have HB4 : Hid (Below w.heap.size w w4) := HB3.out.trans (hb4.mono HB3.out.size)
    have HA4 : Hid (IsBools w4 va (optB (l.take n) s)) := HA3.out.below hb4
    have HBB4 : Hid (IsBools w4 vb (optB (l.drop n) s)) := HBB3.out.below hb4
    have HCC4 : Hid (IsBools w4 vc (optB l s)) := hC.isBools
    clear hC hb4 HA3 HBB3
    generalize hma : missed (optB (l.take n) s) (optB (l.take n) s).length = ma at HM
    generalize hmb : missed (optB (l.drop n) s) (optB (l.drop n) s).length = mb at HM
    generalize hmc : missed (optB l s) (optB l s).length = mc at HM
    have HMA : Hid (missed (optB (l.take n) s) (optB (l.take n) s).length = ma) := hma
    have HMB : Hid (missed (optB (l.drop n) s) (optB (l.drop n) s).length = mb) := hmb
    have HMC : Hid (missed (optB l s) (optB l s).length = mc) := hmc
    clear hma hmb hmc
    have hm1 : (ma : Int) ≤ (mc : Int) := by have := HM.out.1; omega
    have hm2 : (mc : Int) ≤ (ma : Int) + (mb : Int) := by have := HM.out.2.1; omega
    have hm3 : ma ≤ 40 := HM.out.2.2.1
    have hm4 : mb ≤ 40 := HM.out.2.2.2
    go_wp2_with (go_at_call 16; fail)
    refine (misses_any _ _ _ HA4.out).mono ?_
    rintro e w5 ⟨rfl, hw⟩
    have hw := hw.symm
    subst hw
    rw [HMA.out]
    go_wp2_with (go_at_call 16; fail)
    refine (misses_any _ _ _ HCC4.out).mono ?_
    rintro e w5 ⟨rfl, hw⟩
    have hw := hw.symm
    subst hw
    rw [HMC.out]
    go_wp2_with (go_at_call 16; fail)
    refine (misses_any _ _ _ HCC4.out).mono ?_
    rintro e w5 ⟨rfl, hw⟩
    have hw := hw.symm
    subst hw
    rw [HMC.out]
    go_wp2_with (go_at_call 16; fail)
    refine (misses_any _ _ _ HA4.out).mono ?_
    rintro e w5 ⟨rfl, hw⟩
    have hw := hw.symm
    subst hw
    rw [HMA.out]
    go_wp2_with (go_at_call 16; fail)
    refine (misses_any _ _ _ HBB4.out).mono ?_
    rintro e w5 ⟨rfl, hw⟩
    have hw := hw.symm
    subst hw
    rw [HMB.out]
    go_wp2
    go_ret
    exact ⟨rfl, HB4.out⟩
  · have HE : Hid (errV (chk l s) = .iface 61 (.int .i64 (chk l s))) := errV_pos hc
    clear hc
    have hE1 := errV_cases (chk (l.take n) s)
    generalize errV (chk (l.take n) s) = e1 at *
    have hE2 := errV_cases (chk (l.drop n) s)
    rcases hE1 with rfl | ⟨m1, rfl⟩
    all_goals
      go_wp2_with (go_at_call 13; fail)
      refine (opt_any _ (l.drop n) s _ (HD.out.below HB2.out)).mono ?_
      rintro e w3 ⟨vb, vo3, vh3, rfl, hB, _, _, hb3⟩
      have HB3 : Hid (Below w.heap.size w w3) := HB2.out.trans (hb3.mono HB2.out.size)
      clear hB hb3
      generalize errV (chk (l.drop n) s) = e2 at *
      rcases hE2 with rfl | ⟨m2, rfl⟩
      all_goals
        go_wp2_with (go_at_call 13; fail)
        refine (opt_any _ l s _ (HV.out.below HB3.out)).mono ?_
        rintro e w4 ⟨vc, vo4, vh4, rfl, hC, _, _, hb4⟩
        have HB4 : Hid (Below w.heap.size w w4) := HB3.out.trans (hb4.mono HB3.out.size)
        clear hC hb4
        generalize chk l s = c at *
        rw [HE.out]
        go_wp2
        go_ret
        exact ⟨rfl, HB4.out⟩

set_option maxHeartbeats 2000000 in
theorem begin_cap (b off cap : Nat) (l : List Int) (s : Int) (w : World) (hnl : cap ≤ l.length) (hlc : l.length ≤ cap) (_hcap : cap ≤ 2 ^ 63 - 1) (HV : Hid (IsInts w (.slice (some ⟨b, off, none⟩) l.length cap) l)) (HP : Hid (IsInts w (.slice (some ⟨b, off, none⟩) cap cap) (l.take cap))) (HD : Hid (IsInts w (.slice (some ⟨b, off, none⟩) 0 0) (l.drop cap))) (HIN : Hid (within (cap : Int) 0 (l.length : Int) = true)) :
    Calls Try.prog 7 #[.slice (some ⟨b, off, none⟩) l.length cap, .int .i64 s, .int .i64 cap] w fun e w' => e = .returned (.bool true) ∧ Below w.heap.size w w' := by
  go_enter Try.func7, Try.ntmps7
  go_wp2_with (first | (go_at_call 15; go_must (refine (later_any _).mono ?_; rintro e w1 ⟨rfl, hb1⟩)) | (go_at_call 20; go_must (refine (within_any _ _ _ _).mono ?_; rintro e w' ⟨rfl, hw⟩; have hw := hw.symm; subst hw; rw [HIN.out])) | (go_at_call 13; fail))
  have HB1 : Hid (Below w.heap.size w w1) := hb1
  clear hb1
  refine (opt_any _ (l.take cap) s _ (HP.out.below HB1.out)).mono ?_
  rintro e w2 ⟨va, vo2, vh2, rfl, hA, _, _, hb2⟩
  have HB2 : Hid (Below w.heap.size w w2) := HB1.out.trans (hb2.mono HB1.out.size)
  have HA2 : Hid (IsBools w2 va (optB (l.take cap) s)) := hA.isBools
  clear hA hb2
  by_cases hc : chk l s = 0
  · obtain ⟨HC1, HC2, HM⟩ := begin_all hc hnl
    rw [HC1.out, show errV 0 = .nilIface from rfl]
    have HC : Hid (chk l s = 0) := hc
    clear hc
    go_wp2_with (go_at_call 13; fail)
    refine (opt_any _ (l.drop cap) s _ (HD.out.below HB2.out)).mono ?_
    rintro e w3 ⟨vb, vo3, vh3, rfl, hB, _, _, hb3⟩
    rw [HC2.out, show errV 0 = .nilIface from rfl]
    have HB3 : Hid (Below w.heap.size w w3) := HB2.out.trans (hb3.mono HB2.out.size)
    have HA3 : Hid (IsBools w3 va (optB (l.take cap) s)) := HA2.out.below hb3
    have HBB3 : Hid (IsBools w3 vb (optB (l.drop cap) s)) := hB.isBools
    clear hB hb3 HA2
    go_wp2_with (go_at_call 13; fail)
    refine (opt_any _ l s _ (HV.out.below HB3.out)).mono ?_
    rintro e w4 ⟨vc, vo4, vh4, rfl, hC, _, _, hb4⟩
    rw [HC.out, show errV 0 = .nilIface from rfl]
    have HB4 : Hid (Below w.heap.size w w4) := HB3.out.trans (hb4.mono HB3.out.size)
    have HA4 : Hid (IsBools w4 va (optB (l.take cap) s)) := HA3.out.below hb4
    have HBB4 : Hid (IsBools w4 vb (optB (l.drop cap) s)) := HBB3.out.below hb4
    have HCC4 : Hid (IsBools w4 vc (optB l s)) := hC.isBools
    clear hC hb4 HA3 HBB3
    generalize hma : missed (optB (l.take cap) s) (optB (l.take cap) s).length = ma at HM
    generalize hmb : missed (optB (l.drop cap) s) (optB (l.drop cap) s).length = mb at HM
    generalize hmc : missed (optB l s) (optB l s).length = mc at HM
    have HMA : Hid (missed (optB (l.take cap) s) (optB (l.take cap) s).length = ma) := hma
    have HMB : Hid (missed (optB (l.drop cap) s) (optB (l.drop cap) s).length = mb) := hmb
    have HMC : Hid (missed (optB l s) (optB l s).length = mc) := hmc
    clear hma hmb hmc
    have hm1 : (ma : Int) ≤ (mc : Int) := by have := HM.out.1; omega
    have hm2 : (mc : Int) ≤ (ma : Int) + (mb : Int) := by have := HM.out.2.1; omega
    have hm3 : ma ≤ 40 := HM.out.2.2.1
    have hm4 : mb ≤ 40 := HM.out.2.2.2
    go_wp2_with (go_at_call 16; fail)
    refine (misses_any _ _ _ HA4.out).mono ?_
    rintro e w5 ⟨rfl, hw⟩
    have hw := hw.symm
    subst hw
    rw [HMA.out]
    go_wp2_with (go_at_call 16; fail)
    refine (misses_any _ _ _ HCC4.out).mono ?_
    rintro e w5 ⟨rfl, hw⟩
    have hw := hw.symm
    subst hw
    rw [HMC.out]
    go_wp2_with (go_at_call 16; fail)
    refine (misses_any _ _ _ HCC4.out).mono ?_
    rintro e w5 ⟨rfl, hw⟩
    have hw := hw.symm
    subst hw
    rw [HMC.out]
    go_wp2_with (go_at_call 16; fail)
    refine (misses_any _ _ _ HA4.out).mono ?_
    rintro e w5 ⟨rfl, hw⟩
    have hw := hw.symm
    subst hw
    rw [HMA.out]
    go_wp2_with (go_at_call 16; fail)
    refine (misses_any _ _ _ HBB4.out).mono ?_
    rintro e w5 ⟨rfl, hw⟩
    have hw := hw.symm
    subst hw
    rw [HMB.out]
    go_wp2
    go_ret
    exact ⟨rfl, HB4.out⟩
  · have HE : Hid (errV (chk l s) = .iface 61 (.int .i64 (chk l s))) := errV_pos hc
    clear hc
    have hE1 := errV_cases (chk (l.take cap) s)
    generalize errV (chk (l.take cap) s) = e1 at *
    have hE2 := errV_cases (chk (l.drop cap) s)
    rcases hE1 with rfl | ⟨m1, rfl⟩
    all_goals
      go_wp2_with (go_at_call 13; fail)
      refine (opt_any _ (l.drop cap) s _ (HD.out.below HB2.out)).mono ?_
      rintro e w3 ⟨vb, vo3, vh3, rfl, hB, _, _, hb3⟩
      have HB3 : Hid (Below w.heap.size w w3) := HB2.out.trans (hb3.mono HB2.out.size)
      clear hB hb3
      generalize errV (chk (l.drop cap) s) = e2 at *
      rcases hE2 with rfl | ⟨m2, rfl⟩
      all_goals
        go_wp2_with (go_at_call 13; fail)
        refine (opt_any _ l s _ (HV.out.below HB3.out)).mono ?_
        rintro e w4 ⟨vc, vo4, vh4, rfl, hC, _, _, hb4⟩
        have HB4 : Hid (Below w.heap.size w w4) := HB3.out.trans (hb4.mono HB3.out.size)
        clear hC hb4
        generalize chk l s = c at *
        rw [HE.out]
        go_wp2
        go_ret
        exact ⟨rfl, HB4.out⟩

set_option maxHeartbeats 2000000 in
theorem begin_nil (ao : Option Addr) (cap : Nat) (s : Int) (w : World) (_hcap : cap ≤ 2 ^ 63 - 1) (l : List Int) (HV : Hid (IsInts w (.slice ao 0 cap) l)) (HP : Hid (IsInts w (.slice ao 0 cap) (l.take 0))) (HD : Hid (IsInts w (.slice ao 0 cap) (l.drop 0))) (HIN : Hid (within 0 0 0 = true)) :
    Calls Try.prog 7 #[.slice ao 0 cap, .int .i64 s, .int .i64 0] w fun e w' => e = .returned (.bool true) ∧ Below w.heap.size w w' := by
  go_enter Try.func7, Try.ntmps7
  go_wp2_with (first | (go_at_call 15; go_must (refine (later_any _).mono ?_; rintro e w1 ⟨rfl, hb1⟩)) | (go_at_call 20; go_must (refine (within_any _ _ _ _).mono ?_; rintro e w' ⟨rfl, hw⟩; have hw := hw.symm; subst hw; rw [HIN.out])) | (go_at_call 13; fail))
  have HB1 : Hid (Below w.heap.size w w1) := hb1
  clear hb1
  refine (opt_any _ (l.take 0) s _ (HP.out.below HB1.out)).mono ?_
  rintro e w2 ⟨va, vo2, vh2, rfl, hA, _, _, hb2⟩
  have HB2 : Hid (Below w.heap.size w w2) := HB1.out.trans (hb2.mono HB1.out.size)
  have HA2 : Hid (IsBools w2 va (optB (l.take 0) s)) := hA.isBools
  clear hA hb2
  by_cases hc : chk l s = 0
  · obtain ⟨HC1, HC2, HM⟩ := begin_all (n := 0) hc (Nat.zero_le _)
    rw [HC1.out, show errV 0 = .nilIface from rfl]
    have HC : Hid (chk l s = 0) := hc
    clear hc
    go_wp2_with (go_at_call 13; fail)
    refine (opt_any _ (l.drop 0) s _ (HD.out.below HB2.out)).mono ?_
    rintro e w3 ⟨vb, vo3, vh3, rfl, hB, _, _, hb3⟩
    rw [HC2.out, show errV 0 = .nilIface from rfl]
    have HB3 : Hid (Below w.heap.size w w3) := HB2.out.trans (hb3.mono HB2.out.size)
    have HA3 : Hid (IsBools w3 va (optB (l.take 0) s)) := HA2.out.below hb3
    have HBB3 : Hid (IsBools w3 vb (optB (l.drop 0) s)) := hB.isBools
    clear hB hb3 HA2
    go_wp2_with (go_at_call 13; fail)
    refine (opt_any _ l s _ (HV.out.below HB3.out)).mono ?_
    rintro e w4 ⟨vc, vo4, vh4, rfl, hC, _, _, hb4⟩
    rw [HC.out, show errV 0 = .nilIface from rfl]
    have HB4 : Hid (Below w.heap.size w w4) := HB3.out.trans (hb4.mono HB3.out.size)
    have HA4 : Hid (IsBools w4 va (optB (l.take 0) s)) := HA3.out.below hb4
    have HBB4 : Hid (IsBools w4 vb (optB (l.drop 0) s)) := HBB3.out.below hb4
    have HCC4 : Hid (IsBools w4 vc (optB l s)) := hC.isBools
    clear hC hb4 HA3 HBB3
    generalize hma : missed (optB (l.take 0) s) (optB (l.take 0) s).length = ma at HM
    generalize hmb : missed (optB (l.drop 0) s) (optB (l.drop 0) s).length = mb at HM
    generalize hmc : missed (optB l s) (optB l s).length = mc at HM
    have HMA : Hid (missed (optB (l.take 0) s) (optB (l.take 0) s).length = ma) := hma
    have HMB : Hid (missed (optB (l.drop 0) s) (optB (l.drop 0) s).length = mb) := hmb
    have HMC : Hid (missed (optB l s) (optB l s).length = mc) := hmc
    clear hma hmb hmc
    have hm1 : (ma : Int) ≤ (mc : Int) := by have := HM.out.1; omega
    have hm2 : (mc : Int) ≤ (ma : Int) + (mb : Int) := by have := HM.out.2.1; omega
    have hm3 : ma ≤ 40 := HM.out.2.2.1
    have hm4 : mb ≤ 40 := HM.out.2.2.2
    go_wp2_with (go_at_call 16; fail)
    refine (misses_any _ _ _ HA4.out).mono ?_
    rintro e w5 ⟨rfl, hw⟩
    have hw := hw.symm
    subst hw
    rw [HMA.out]
    go_wp2_with (go_at_call 16; fail)
    refine (misses_any _ _ _ HCC4.out).mono ?_
    rintro e w5 ⟨rfl, hw⟩
    have hw := hw.symm
    subst hw
    rw [HMC.out]
    go_wp2_with (go_at_call 16; fail)
    refine (misses_any _ _ _ HCC4.out).mono ?_
    rintro e w5 ⟨rfl, hw⟩
    have hw := hw.symm
    subst hw
    rw [HMC.out]
    go_wp2_with (go_at_call 16; fail)
    refine (misses_any _ _ _ HA4.out).mono ?_
    rintro e w5 ⟨rfl, hw⟩
    have hw := hw.symm
    subst hw
    rw [HMA.out]
    go_wp2_with (go_at_call 16; fail)
    refine (misses_any _ _ _ HBB4.out).mono ?_
    rintro e w5 ⟨rfl, hw⟩
    have hw := hw.symm
    subst hw
    rw [HMB.out]
    go_wp2
    go_ret
    exact ⟨rfl, HB4.out⟩
  · have HE : Hid (errV (chk l s) = .iface 61 (.int .i64 (chk l s))) := errV_pos hc
    clear hc
    have hE1 := errV_cases (chk (l.take 0) s)
    generalize errV (chk (l.take 0) s) = e1 at *
    have hE2 := errV_cases (chk (l.drop 0) s)
    rcases hE1 with rfl | ⟨m1, rfl⟩
    all_goals
      go_wp2_with (go_at_call 13; fail)
      refine (opt_any _ (l.drop 0) s _ (HD.out.below HB2.out)).mono ?_
      rintro e w3 ⟨vb, vo3, vh3, rfl, hB, _, _, hb3⟩
      have HB3 : Hid (Below w.heap.size w w3) := HB2.out.trans (hb3.mono HB2.out.size)
      clear hB hb3
      generalize errV (chk (l.drop 0) s) = e2 at *
      rcases hE2 with rfl | ⟨m2, rfl⟩
      all_goals
        go_wp2_with (go_at_call 13; fail)
        refine (opt_any _ l s _ (HV.out.below HB3.out)).mono ?_
        rintro e w4 ⟨vc, vo4, vh4, rfl, hC, _, _, hb4⟩
        have HB4 : Hid (Below w.heap.size w w4) := HB3.out.trans (hb4.mono HB3.out.size)
        clear hC hb4
        generalize chk l s = c at *
        rw [HE.out]
        go_wp2
        go_ret
        exact ⟨rfl, HB4.out⟩

end Go.Proofs.Ytkhjpelghlchnaa
