/- The walks of package wset: Check, pagesOf, Sets, Miss. -/
import Derived.Test.YtbnhlnjbgimibaaDoorWsetN
import Derived.Test.YtbnhlnjbgimibaaDoorOnes
import Derived.Test.YtbnhlnjbgimibaaDoorCheck
import Derived.Test.YtbnhlnjbgimibaaDoorPart
import Derived.Test.YtbnhlnjbgimibaaDoorOwnCells
namespace Go.Proofs.YtbnhlnjbgimibaaDoor
open Go.RowKit Go.Sort

set_option maxHeartbeats 1000000 in
theorem wcheck_any (v : Value) (l : List Int) (win : Int) (w : World) (hv : IsInts w v l) :
    Calls Tryd.prog 7 #[v, .int .i64 win] w fun e w' => e = .returned (errV (wchk l win)) ∧ w' = w := by
  have HV : Hid (IsInts w v l) := hv
  clear hv
  rcases chk_cases l 8 with h | h
  · have HCK : Hid (chk l 8 = 0) := h
    rcases (by omega : win < 1 ∨ (1 ≤ win ∧ win ≤ 40) ∨ 40 < win) with g | ⟨g1, g2⟩ | g
    · have HW : Hid (wchk l win = 1) := wchk_out h (.inl g)
      clear h
      go_enter Tryd.func7, Tryd.ntmps7
      go_wp2_with (go_at_call 17; go_must (refine (check_any _ l 8 _ HV.out).mono ?_; rintro e w' ⟨rfl, hw⟩; have hw := hw.symm; subst hw; rw [HCK.out]; simp only [errV, if_true]))
      go_ret
      exact ⟨by rw [HW.out]; rfl, rfl⟩
    · have HW : Hid (wchk l win = 0) := wchk_in h g1 g2
      clear h
      go_enter Tryd.func7, Tryd.ntmps7
      go_wp2_with (go_at_call 17; go_must (refine (check_any _ l 8 _ HV.out).mono ?_; rintro e w' ⟨rfl, hw⟩; have hw := hw.symm; subst hw; rw [HCK.out]; simp only [errV, if_true]))
      go_ret
      exact ⟨by rw [HW.out]; rfl, rfl⟩
    · have HW : Hid (wchk l win = 1) := wchk_out h (.inr g)
      clear h
      go_enter Tryd.func7, Tryd.ntmps7
      go_wp2_with (go_at_call 17; go_must (refine (check_any _ l 8 _ HV.out).mono ?_; rintro e w' ⟨rfl, hw⟩; have hw := hw.symm; subst hw; rw [HCK.out]; simp only [errV, if_true]))
      go_ret
      exact ⟨by rw [HW.out]; rfl, rfl⟩
  · have hne : chk l 8 ≠ 0 := by omega
    have HW : Hid (wchk l win = chk l 8) := wchk_bad hne
    have HE : Hid (errV (chk l 8) = .iface 38 (.int .i64 (chk l 8))) := errV_pos hne
    clear h hne
    go_enter Tryd.func7, Tryd.ntmps7
    go_wp2_with (go_at_call 17; go_must (refine (check_any _ l 8 _ HV.out).mono ?_; rintro e w' ⟨rfl, hw⟩; have hw := hw.symm; subst hw; rw [HE.out]))
    go_ret
    exact ⟨by rw [HW.out, HE.out]; rfl, rfl⟩

theorem i64_or_nat (a b : Nat) (ha : a < 9223372036854775808) (hb : b < 9223372036854775808) : bits .or .i64 (a : Int) (b : Int) = ((a ||| b : Nat) : Int) :=
  (bits_nat .i64 63 (by decide) wraps_i63 a b ha hb).2

set_option maxHeartbeats 1000000 in
theorem pagesof_any (v : Value) (l : List Int) (w : World) (hv : IsInts w v l) (hl : allIn l) :
    Calls Tryd.prog 18 #[v] w fun e w' => ∃ m : Nat, e = .returned (.int .i64 m) ∧ Msk m l ∧ w' = w := by
  have HA : Hid (allIn l) := hl
  clear hl
  rcases hv with ⟨rfl, ao, cap, rfl, hcap⟩ | ⟨b, off, cap, rfl, hpos, hlc, hcap, hc⟩
  · go_enter Tryd.func18, Tryd.ntmps18
    go_wp2
    go_loop [3, 8] (fun n i => i = .int .i64 0 ∧ n = .int .i64 0) (fun _ _ => 0)
    case atStart => exact ⟨rfl, rfl⟩
    case round =>
      obtain ⟨rfl, rfl⟩ := hrel
      go_wp2
      go_ret
      exact ⟨0, rfl, msk_nil, rfl⟩
  · unfold maxLen at hcap
    have HC : Hid (∀ j, j < l.length → w.cell? ⟨b, off + j, none⟩ = some (.int .i64 (l[j]?.getD 0))) := hc
    clear hc
    go_enter Tryd.func18, Tryd.ntmps18
    go_wp2
    go_loop [3, 8] (fun n i => ∃ k m : Nat, k ≤ l.length ∧ i = .int .i64 k ∧ n = .int .i64 m ∧ Msk m (l.take k)) (fun _ i => l.length - (intOf i).toNat)
    case atStart => exact ⟨0, 0, by omega, rfl, rfl, msk_nil⟩
    case round =>
      obtain ⟨k, m, hk, rfl, rfl, hm⟩ := hrel
      by_cases hlt : k < l.length
      · have hck := HC.out k hlt
        have hp : 0 ≤ l[k]?.getD 0 ∧ l[k]?.getD 0 < 16 := by rw [List.getElem?_eq_getElem hlt]; exact HA.out _ (List.getElem_mem _)
        have HM : Hid (Msk (m ||| 2 ^ (l[k]?.getD 0).toNat) (l.take (k+1))) := by
          have := msk_or hm hp.1 hp.2
          unfold Hid
          rwa [List.take_succ_eq_append_getElem hlt, ← Option.getD_some (a := l[k]) (b := 0), ← List.getElem?_eq_getElem hlt]
        have hm16 : m < 65536 := hm.1
        have h2 := two_pow_lt hp.1 hp.2
        obtain ⟨hp0, hp1⟩ := hp
        have HW : Hid (wrap64 (2 ^ (l[k]?.getD 0).toNat) = ((2 ^ (l[k]?.getD 0).toNat : Nat) : Int)) := by
          have e : (2 : Int) ^ (l[k]?.getD 0).toNat = ((2 ^ (l[k]?.getD 0).toNat : Nat) : Int) := by rw [Int.natCast_pow]; rfl
          unfold Hid
          rw [e]
          generalize 2 ^ (l[k]?.getD 0).toNat = x at *
          unfold wrap64
          omega
        have HQ : Hid (bits .or .i64 (m : Int) ((2 ^ (l[k]?.getD 0).toNat : Nat) : Int) = ((m ||| 2 ^ (l[k]?.getD 0).toNat : Nat) : Int)) := i64_or_nat _ _ (by omega) (by omega)
        clear hm h2
        generalize l[k]?.getD 0 = p at *
        go_wp2
        go_round
        case rel => exact ⟨k + 1, m ||| 2 ^ p.toNat, by omega, by go_num, by rw [HW.out, HQ.out], HM.out⟩
        case measure => simp [intOf]; omega
      · have HM : Hid (Msk m l) := by rw [List.take_of_length_le (by omega)] at hm; exact hm
        clear hm
        go_wp2
        go_ret
        exact ⟨m, rfl, HM.out, rfl⟩

theorem sets_new {w : World} {l : List Int} {n : Nat} (h40 : l.length ≤ 40) : OwnI (w.alloc (.cells (madeCells #[.int .i64 0] l.length) 3)) w.heap.size (.slice (some ⟨w.heap.size, 0, none⟩) l.length l.length) (setsTo n l l.length 0) := by
  have hl : (setsTo n l l.length 0).length = l.length := setsTo_length (Nat.zero_le _)
  refine ⟨by rw [List.length_map, Nat.mul_one], .inr ⟨w.heap.size, l.length, madeCells #[.int .i64 0] l.length, by rw [hl], Nat.le_refl _, heap_alloc_new _ _, by rw [hl]; exact Nat.le_refl _, by unfold maxLen; omega, by rw [size_madeCells, Nat.mul_one], ?_⟩⟩
  rw [hl, Nat.mul_one, toList_madeCells_one, setsTo_zero, List.map_replicate, List.take_of_length_le (by rw [List.length_replicate]; exact Nat.le_refl _)]

theorem OwnI.storedN {w w0 : World} {g n cap : Nat} {l : List Int} (h : OwnI w w0.heap.size (.slice (some ⟨g, 0, none⟩) n cap) l) (hn : l.length = n) (hb : Below w0.heap.size w0 w) (j : Nat) (x : Int) :
    OwnI (w.setCell ⟨g, j, none⟩ (.int .i64 x)) w0.heap.size (.slice (some ⟨g, 0, none⟩) n cap) (l.set j x) ∧ Below w0.heap.size w0 (w.setCell ⟨g, j, none⟩ (.int .i64 x)) := by
  subst hn
  have h1 := World.ownsRow.stored h j (.int .i64 x)
  refine ⟨?_, ?_⟩
  · unfold OwnI
    rw [List.length_set, List.map_set]
    exact h1.1
  · rcases h.2 with ⟨h0, _⟩ | ⟨g', cap', cur, hv, hbg, hg, _⟩
    · simp at h0
    · simp at hv
      obtain ⟨rfl, rfl⟩ := hv
      exact hb.setCell hbg _

set_option maxHeartbeats 1000000 in
theorem sets_ok (v : Value) (l : List Int) (n : Nat) (w : World) (hv : IsInts w v l) (hform : ∃ ao cap, v = .slice ao l.length cap) (hc : wchk l n = 0) :
    Calls Tryd.prog 11 #[v, .int .i64 n] w fun e w' => ∃ vs, e = .returned (.tuple #[vs, .nilIface]) ∧ OwnI w' w.heap.size vs (setsOf n l l.length) ∧ Below w.heap.size w w' := by
  have HV : Hid (IsInts w v l) := hv
  have HCK : Hid (wchk l n = 0) := hc
  obtain ⟨hc8, hn1, hn40⟩ := wchk_zero hc
  obtain ⟨h40, _, _⟩ := chk_zero hc8
  have HA : Hid (allIn l) := chk_allIn hc8
  have HN0 : Hid (OwnI (w.alloc (.cells (madeCells #[.int .i64 0] l.length) 3)) w.heap.size (.slice (some ⟨w.heap.size, 0, none⟩) l.length l.length) (setsTo n l l.length 0)) := sets_new h40
  have hmk : ∀ w, (Instr.makeSlice 22 (.int .i64 l.length) (.int .i64 l.length)).run Tryd.prog w = .ok (.slice (some ⟨w.heap.size, 0, none⟩) l.length l.length) (w.alloc (.cells (madeCells #[.int .i64 0] l.length) 3)) := fun w => by
    obtain ⟨i0, hi, hz0, hz1, hz2⟩ := info_parts Tryd.info3
    have := run_make (P := Tryd.prog) w 22 3 i0 (.int .i64 0) Tryd.underlying22 hi hz0 .i64 .i64 l.length l.length (by omega) (Int.le_refl _) (by rw [hz2]; omega) (by omega)
    rw [this, hz1, Int.toNat_natCast, Nat.mul_one]; rfl
  clear hv hc hc8
  obtain ⟨ao, cap, rfl⟩ := hform
  go_enter Tryd.func11, Tryd.ntmps11
  go_wp2_with (go_at_call 7; go_must (refine (wcheck_any _ l n _ HV.out).mono ?_; rintro e w' ⟨rfl, hw⟩; have hw := hw.symm; subst hw; rw [HCK.out]; simp only [errV, if_true]))
  have HB0 : Hid (Below w.heap.size w (w.alloc (.cells (madeCells #[.int .i64 0] l.length) 3))) := (Below.refl _ _).alloc (Nat.le_refl _) _
  generalize w.alloc (.cells (madeCells #[.int .i64 0] l.length) 3) = w2 at *
  generalize hg : w.heap.size = g at *
  have HG : Hid (w.heap.size = g) := hg
  clear hg hmk
  go_loopw [8, 20] (fun _ i wr => ∃ k : Nat, k ≤ l.length ∧ i = .int .i64 k ∧ OwnI wr w.heap.size (.slice (some ⟨g, 0, none⟩) l.length l.length) (setsTo n l l.length k) ∧ Below w.heap.size w wr) (fun _ i _ => l.length - (intOf i).toNat)
  case atStart => exact ⟨0, by omega, rfl, by rw [HG.out]; exact HN0.out, by rw [HG.out]; exact HB0.out⟩
  case round =>
    obtain ⟨k, hk, rfl, hO, hbel⟩ := hrel
    have HO : Hid (OwnI wr w.heap.size (.slice (some ⟨g, 0, none⟩) l.length l.length) (setsTo n l l.length k)) := hO
    have HL : Hid ((setsTo n l l.length k).length = l.length) := setsTo_length hk
    clear hO
    by_cases hlt : k < l.length
    · have HS2 : Hid ((setsTo n l l.length k).set k (setN (wset n l (k+1)) : Int) = setsTo n l l.length (k+1)) := setsTo_set hlt
      have hcell := HO.out.cellN HL.out hlt
      have hfz := HO.out.softN HL.out k
      have hv2 := HV.out
      rcases hv2 with ⟨h0, _⟩ | ⟨b, off, cap2, hv3, hpos, hlc, hcap, hc⟩
      · subst h0; simp at hlt
      simp only [Value.slice.injEq, true_and] at hv3
      obtain ⟨rfl, rfl⟩ := hv3
      unfold maxLen at hcap
      have HP : Hid (IsInts wr (.slice (some ⟨b, off + (k + 1 - n), none⟩) (k + 1 - (k + 1 - n)) (cap - (k + 1 - n))) ((l.take (k+1)).drop (k + 1 - n))) := isInts_part (HV.out.below hbel) (by omega) (by omega)
      have HAP : Hid (allIn ((l.take (k+1)).drop (k + 1 - n))) := fun q hq => HA.out q (List.mem_of_mem_take (List.mem_of_mem_drop hq))
      clear hc
      generalize setsTo n l l.length k = C at *
      generalize C[k]?.getD 0 = c0 at *
      by_cases hkn : k + 1 ≤ n
      · have hi : (k : Int) + 1 ≤ (n : Int) := by omega
        rw [show k + 1 - n = 0 by omega] at HP HAP
        simp only [Nat.sub_zero, Nat.add_zero] at HP
        have HZ : Hid (k + 1 - n = 0) := by unfold Hid; omega
        clear hkn
        go_wp2_with (go_at_call 18; go_must (refine (pagesof_any _ _ _ HP.out HAP.out).mono ?_; rintro e w' ⟨m, rfl, hm, hw⟩; have hw := hw.symm; subst hw; have HM : Hid (m = setN (wset n l (k+1))) := setN_wset HA.out (by rw [HZ.out]; exact hm); clear hm))
        go_roundw
        case rel =>
          have R := HO.out.storedN HL.out hbel k (m : Int)
          exact ⟨k + 1, by omega, by go_num, by rw [← HS2.out, ← HM.out]; exact R.1, R.2⟩
        case measure => simp [intOf]; omega
      · have hi : (n : Int) < (k : Int) + 1 := by omega
        obtain ⟨a, ha⟩ : ∃ a : Nat, k + 1 - n = a := ⟨_, rfl⟩
        rw [ha] at HP HAP
        have HZ : Hid (k + 1 - n = a) := ha
        clear hkn
        go_wp2_with (go_at_call 18; go_must (refine (pagesof_any _ _ _ HP.out HAP.out).mono ?_; rintro e w' ⟨m, rfl, hm, hw⟩; have hw := hw.symm; subst hw; have HM : Hid (m = setN (wset n l (k+1))) := setN_wset HA.out (by rw [HZ.out]; exact hm); clear hm))
        go_roundw
        case rel =>
          have R := HO.out.storedN HL.out hbel k (m : Int)
          exact ⟨k + 1, by omega, by go_num, by rw [← HS2.out, ← HM.out]; exact R.1, R.2⟩
        case measure => simp [intOf]; omega
    · have HE : Hid (OwnI wr w.heap.size (.slice (some ⟨g, 0, none⟩) l.length l.length) (setsOf n l l.length)) := by have := HO.out; rw [show k = l.length by omega, setsTo_all] at this; exact this
      clear HO HL
      go_wp2
      go_ret2
      exact ⟨_, rfl, HE.out, hbel⟩

theorem sets_err (v : Value) (l : List Int) (win : Int) (w : World) (hv : IsInts w v l) (hc : wchk l win ≠ 0) :
    Calls Tryd.prog 11 #[v, .int .i64 win] w fun e w' => e = .returned (.tuple #[.slice none 0 0, errV (wchk l win)]) ∧ w' = w := by
  have HV : Hid (IsInts w v l) := hv
  have HE : Hid (errV (wchk l win) = .iface 38 (.int .i64 (wchk l win))) := errV_pos hc
  clear hc hv
  go_enter Tryd.func11, Tryd.ntmps11
  go_wp2_with (go_at_call 7; go_must (refine (wcheck_any _ l win _ HV.out).mono ?_; rintro e w' ⟨rfl, hw⟩; have hw := hw.symm; subst hw; rw [HE.out]))
  go_ret2
  exact ⟨by rw [HE.out]; rfl, rfl⟩

/-- What wset.Sets answers. -/
theorem sets_any (v : Value) (l : List Int) (win : Int) (w : World) (hv : IsInts w v l) :
    Calls Tryd.prog 11 #[v, .int .i64 win] w fun e w' => ∃ vs, e = .returned (.tuple #[vs, errV (wchk l win)]) ∧ OwnI w' w.heap.size vs (wsL l win) ∧ Below w.heap.size w w' := by
  by_cases h : wchk l win = 0
  · obtain ⟨_, h1, _⟩ := wchk_zero h
    obtain ⟨n, rfl⟩ : ∃ n : Nat, win = n := ⟨win.toNat, by omega⟩
    rw [wsL_ok h, h, Int.toNat_natCast]
    exact sets_ok v l n w hv hv.form h
  · rw [wsL_bad h]
    refine (sets_err v l win w hv h).mono ?_
    rintro e w' ⟨rfl, rfl⟩
    exact ⟨_, rfl, OwnI.nil _ _, Below.refl _ _⟩

theorem set_cells {w : World} {base n : Nat} {v : Value} {l : List Int} (h : OwnI w base v (setsOf n l l.length)) : ∃ ad dcp, v = .slice ad l.length dcp ∧ (0 < l.length → ∃ g, ad = some ⟨g, 0, none⟩ ∧ l.length ≤ dcp ∧ dcp ≤ maxLen ∧ ∀ j, j < l.length → w.cell? ⟨g, j, none⟩ = some (.int .i64 (setN (wset n l (j+1))))) := by
  obtain ⟨ad, dcp, hv⟩ := h.form
  have hl := setsOf_length n l l.length
  rw [hl] at hv
  refine ⟨ad, dcp, hv, fun hp => ?_⟩
  obtain ⟨g, cap, cur, hv2, _, _, _, hn, hm, _, _⟩ := h.block (by intro e; rw [e] at hl; simp at hl; omega)
  rw [hl] at hv2 hn
  rw [hv] at hv2
  simp only [Value.slice.injEq, true_and] at hv2
  obtain ⟨rfl, rfl⟩ := hv2
  subst hv
  exact ⟨g, rfl, hn, hm, fun j hj => by rw [h.cellN hl hj, setsOf_get hj]⟩

theorem and_one {m : Nat} (p : Nat) (hm : m < 65536) : bits .and .i64 ((m : Int) / 2 ^ p) 1 = ((m / 2 ^ p % 2 : Nat) : Int) := by
  have h1 : m / 2 ^ p ≤ m := Nat.div_le_self _ _
  have h2 := i64_and_nat (m / 2 ^ p) 1 (by omega) (by omega)
  rw [Nat.and_one_is_mod] at h2
  rw [← h2, Int.natCast_ediv, Int.natCast_pow]; rfl

set_option maxHeartbeats 1000000 in
theorem miss_ok (v : Value) (l : List Int) (n : Nat) (w : World) (hv : IsInts w v l) (hc : wchk l n = 0) :
    Calls Tryd.prog 13 #[v, .int .i64 n] w fun e w' => e = .returned (.tuple #[.int .i64 (mc (whit n l) l.length), .int .i64 (wsum n l l.length), .nilIface]) ∧ Below w.heap.size w w' := by
  have HV : Hid (IsInts w v l) := hv
  have HCK : Hid (wchk l n = 0) := hc
  have HS : Hid (wsL l n = setsOf n l l.length) := by have := wsL_ok hc; rwa [Int.toNat_natCast] at this
  obtain ⟨hc8, hn1, hn40⟩ := wchk_zero hc
  obtain ⟨h40, _, _⟩ := chk_zero hc8
  have HA : Hid (allIn l) := chk_allIn hc8
  obtain ⟨ao, cap, rfl⟩ := hv.form
  clear hv hc hc8
  go_enter Tryd.func13, Tryd.ntmps13
  go_wp2_with (go_at_call 11; fail)
  refine (sets_any _ l n _ HV.out).mono ?_
  rintro e w1 ⟨vs, rfl, hO, hb⟩
  rw [HCK.out, show errV 0 = .nilIface from rfl]
  rw [HS.out] at hO
  obtain ⟨ad, dcp, rfl, hD⟩ := set_cells hO
  have HD : Hid (0 < l.length → ∃ g, ad = some ⟨g, 0, none⟩ ∧ l.length ≤ dcp ∧ dcp ≤ maxLen ∧ ∀ j, j < l.length → w1.cell? ⟨g, j, none⟩ = some (.int .i64 (setN (wset n l (j+1))))) := hD
  clear hD
  have HB : Hid (Below w.heap.size w w1) := hb
  have HV1 : Hid (IsInts w1 (.slice ao l.length cap) l) := HV.out.below hb
  have HZ : Hid (setN (wset n l 0) = 0) := setN_zero n l
  clear hO hb HV HS
  go_wp2
  go_loop [4, 5, 8, 9, 10, 22] (fun a b c _ _ i => ∃ k : Nat, k ≤ l.length ∧ i = .int .i64 k ∧ a = .int .i64 (mc (whit n l) k) ∧ b = .int .i64 (wsum n l k) ∧ c = .int .i64 (setN (wset n l k))) (fun _ _ _ _ _ i => l.length - (intOf i).toNat)
  case atStart => exact ⟨0, by omega, rfl, rfl, rfl, by rw [HZ.out]; rfl⟩
  case round =>
    obtain ⟨k, hk, rfl, rfl, rfl, rfl⟩ := hrel
    have hmc : mc (whit n l) k ≤ 40 := by have := mc_most (whit n l) k; omega
    have hws : wsum n l k ≤ 1600 := by
      have h1 := wsum_le (w := n) (l := l) k hk
      have h2 : k * n ≤ 40 * 40 := Nat.mul_le_mul (by omega) (by omega)
      omega
    have hm16 : setN (wset n l k) < 65536 := setN_lt HA.out k
    by_cases hlt : k < l.length
    · have hq16 : setN (wset n l (k+1)) < 65536 := setN_lt HA.out (k+1)
      have HON : Hid (ones (setN (wset n l (k+1))) = (wset n l (k+1)).length) := ones_wset HA.out (k+1)
      have hlen : (wset n l (k+1)).length ≤ 40 := by have := wset_le (w := n) (l := l) (k := k+1) (by omega); omega
      have HWS : Hid (wsum n l (k+1) = wsum n l k + (wset n l (k+1)).length) := rfl
      have HBT := bit_whit (w := n) HA.out hlt
      have hp : 0 ≤ l[k]?.getD 0 ∧ l[k]?.getD 0 < 16 := by rw [List.getElem?_eq_getElem hlt]; exact HA.out _ (List.getElem_mem _)
      obtain ⟨hp0, hp1⟩ := hp
      obtain ⟨g, rfl, hg2, hg3, hcc⟩ := HD.out (by omega)
      have hcs := hcc k hlt
      clear hcc
      have hv2 := HV1.out
      rcases hv2 with ⟨h0, _⟩ | ⟨b, off, cap2, hv3, hpos, hlc, hcap, hc⟩
      · subst h0; simp at hlt
      simp only [Value.slice.injEq, true_and] at hv3
      obtain ⟨rfl, rfl⟩ := hv3
      unfold maxLen at hcap hg3
      have hck := hc k hlt
      clear hc
      generalize (wset n l (k+1)).length = d at *
      generalize hq : setN (wset n l (k+1)) = q at *
      have HQE : Hid (setN (wset n l (k+1)) = q) := hq
      clear hq
      generalize wsum n l k = ws at *
      generalize l[k]?.getD 0 = p at *
      generalize setN (wset n l k) = m at *
      cases hw : whit n l k
      · have HMC : Hid (mc (whit n l) (k+1) = mc (whit n l) k + 1) := by unfold Hid; rw [mc, hw]; rfl
        rw [hw] at HBT
        generalize mc (whit n l) k = mk at *
        clear hw
        have hbit : (bits .and .i64 ((m : Int) / 2 ^ p.toNat) 1 == 0) = true := by rw [and_one _ hm16, HBT]; rfl
        clear HBT
        go_wp2_with (go_at_call 19; go_must (refine (ones_any q hq16 _).mono ?_; rintro e w' ⟨rfl, hw⟩; have hw := hw.symm; subst hw; rw [HON.out]))
        go_round
        case rel => exact ⟨k + 1, by omega, by go_num, by rw [HMC.out]; go_num, by rw [HWS.out]; go_num, by rw [HQE.out]⟩
        case measure => simp [intOf]; omega
      · have HMC : Hid (mc (whit n l) (k+1) = mc (whit n l) k) := by unfold Hid; rw [mc, hw]; rfl
        rw [hw] at HBT
        generalize mc (whit n l) k = mk at *
        clear hw
        have hbit : (bits .and .i64 ((m : Int) / 2 ^ p.toNat) 1 == 0) = false := by rw [and_one _ hm16, HBT]; rfl
        clear HBT
        go_wp2_with (go_at_call 19; go_must (refine (ones_any q hq16 _).mono ?_; rintro e w' ⟨rfl, hw⟩; have hw := hw.symm; subst hw; rw [HON.out]))
        go_round
        case rel => exact ⟨k + 1, by omega, by go_num, by rw [HMC.out], by rw [HWS.out]; go_num, by rw [HQE.out]⟩
        case measure => simp [intOf]; omega
    · have HE : Hid (k = l.length) := by unfold Hid; omega
      go_wp2
      go_ret3
      rw [HE.out]
      exact ⟨rfl, HB.out⟩

theorem miss_err (v : Value) (l : List Int) (win : Int) (w : World) (hv : IsInts w v l) (hc : wchk l win ≠ 0) :
    Calls Tryd.prog 13 #[v, .int .i64 win] w fun e w' => e = .returned (.tuple #[.int .i64 0, .int .i64 0, errV (wchk l win)]) ∧ w' = w := by
  have HV : Hid (IsInts w v l) := hv
  have HC : Hid (wchk l win ≠ 0) := hc
  have HE : Hid (errV (wchk l win) = .iface 38 (.int .i64 (wchk l win))) := errV_pos hc
  clear hc hv
  go_enter Tryd.func13, Tryd.ntmps13
  go_wp2_with (go_at_call 11; go_must (refine (sets_err _ l win _ HV.out HC.out).mono ?_; rintro e w' ⟨rfl, hw⟩; have hw := hw.symm; subst hw; rw [HE.out]))
  go_ret3
  exact ⟨by rw [HE.out]; rfl, rfl⟩

/-- What wset.Miss answers. -/
theorem miss_any (v : Value) (l : List Int) (win : Int) (w : World) (hv : IsInts w v l) :
    Calls Tryd.prog 13 #[v, .int .i64 win] w fun e w' => e = .returned (.tuple #[.int .i64 (wsN l win), .int .i64 (wsS l win), errV (wchk l win)]) ∧ Below w.heap.size w w' := by
  by_cases h : wchk l win = 0
  · obtain ⟨_, h1, _⟩ := wchk_zero h
    obtain ⟨n, rfl⟩ : ∃ n : Nat, win = n := ⟨win.toNat, by omega⟩
    rw [wsN_ok h, wsS_ok h, h, Int.toNat_natCast]
    exact miss_ok v l n w hv h
  · rw [wsN_bad h, wsS_bad h]
    refine (miss_err v l win w hv h).mono ?_
    rintro e w' ⟨rfl, rfl⟩
    exact ⟨rfl, Below.refl _ _⟩
end Go.Proofs.YtbnhlnjbgimibaaDoor
