/- The walk of BuddyApart: blocks part the places. -/
import Derived.Test.YtmmeapaakdaemaaDoorApartL
import Derived.Test.YtmmeapaakdaemaaDoorBFact
import Derived.Test.YtmmeapaakdaemaaDoorOwnCells
import Derived.Laws.MakeOwn
namespace Go.Proofs.YtmmeapaakdaemaaDoor
open Go.RowKit Go.Maps Go.Sort

theorem freeI_length {L : List (Nat × Nat)} {k : Nat} (hk : k < 7) : (freeI L (k : Nat)).length = (freeL L k).length := by
  unfold freeI
  rw [if_neg (by omega), List.length_map]; rfl
theorem freeI_get {L : List (Nat × Nat)} {k i : Nat} (hk : k < 7) (h : i < (freeL L k).length) : (freeI L (k : Nat))[i]?.getD 0 = (((freeL L k)[i] : Nat) : Int) := by
  unfold freeI
  rw [if_neg (by omega), List.getElem?_map]
  show (Option.map _ ((freeL L k)[i]?)).getD 0 = _
  rw [List.getElem?_eq_getElem h]; rfl
theorem store_own {w : World} {base g n cap : Nat} {l : List Int} (h : OwnI w base (.slice (some ⟨g, 0, none⟩) n cap) l) (hn : l.length = n) (j : Nat) (x : Int) : OwnI (w.setCell ⟨g, j, none⟩ (.int .i64 x)) base (.slice (some ⟨g, 0, none⟩) n cap) (l.set j x) := by
  subst hn
  have h1 := World.ownsRow.stored h j (.int .i64 x)
  unfold OwnI
  rw [List.length_set, List.map_set]
  exact h1.1
/-- The next free block of an order: what is asked of it and the one ahead. -/
theorem step_fact {L : List (Nat × Nat)} {k i x y : Nat} (hk : k ≤ 6) (hi : 0 < i) (h : i < (freeL L k).length) (hx : (freeL L k)[i] = x) (hy : (freeL L k)[i-1]'(by omega) = y) : x < 64 ∧ y < x ∧ ((x : Int) - (y : Int) = ((2 ^ k : Nat) : Int) → y % 2 ^ (k+1) ≠ 0) := by
  have hm := (mem_freeL hk).1 (List.getElem_mem (l := freeL L k) (n := i) h)
  have hr := List.pairwise_iff_getElem.1 (freeL_rising L k) (i-1) i (by omega) h (by omega)
  rw [hx] at hm
  refine ⟨by have := hm.1.2.2; have := pow_pos2 k; omega, by rw [hx, hy] at hr; exact hr, fun hd => ?_⟩
  obtain ⟨j, rfl⟩ : ∃ j, i = j + 1 := ⟨i - 1, by omega⟩
  have := free_step hk h (by rw [hx]; have hy' : (freeL L k)[j] = y := hy; rw [hy']; omega)
  have hy' : (freeL L k)[j] = y := hy
  rw [hy'] at this
  exact this

set_option maxRecDepth 100000 in
set_option maxHeartbeats 4000000 in
theorem buddyApart_any (v : Value) (l : List Int) (w : World) (hv : IsInts w v l) (hform : ∃ ao cap, v = .slice ao l.length cap) (hT : Tabbed w) :
    Calls Tryd.prog 3 #[v] w fun e w' => e = .returned (.bool true) ∧ Below w.heap.size w w' := by
  have HT : Hid (Tabbed w) := hT
  have HTL : Hid (0 < w.heap.size) := hT.lt
  have HV : Hid (IsInts w v l) := hv
  have HFO : Hid (∃ ao cap, v = .slice ao l.length cap) := hform
  obtain ⟨i0, hi, hz0, hz1, hz2⟩ := info_parts Tryd.info3
  have HI0 : Hid (Tryd.prog.info? 3 = some i0 ∧ i0.zero = some (.int .i64 0) ∧ i0.size = 1 ∧ i0.bytes = 8) := ⟨hi, hz0, hz1, hz2⟩
  have hmk : ∀ w, (Instr.makeSlice 22 (.int .i64 64) (.int .i64 64)).run Tryd.prog w = .ok (.slice (some ⟨w.heap.size, 0, none⟩) 64 64) (w.alloc (.cells (madeCells #[.int .i64 0] 64) 3)) := fun w => by
    have := run_make (P := Tryd.prog) w 22 3 i0 (.int .i64 0) Tryd.underlying22 hi hz0 .i64 .i64 64 64 (by omega) (Int.le_refl _) (by rw [hz2]; omega) (by omega)
    rw [this, hz1]; rfl
  clear hT hv hform hi hz0 hz1 hz2
  go_enter Tryd.func3, Tryd.ntmps3
  go_wp2_with (go_at_call 7; fail)
  refine (fact_any _ HT.out).mono ?_
  rintro e w1 ⟨rfl, hb⟩
  have HB1 : Hid (Below w.heap.size w w1) := hb
  clear hb
  go_wp2_with (go_at_call 8; fail)
  refine (lent_some v l _ (HV.out.below HB1.out) HFO.out (HT.out.below HB1.out HTL.out)).mono ?_
  rintro e w2 ⟨a, rfl, ⟨b, L, hA⟩, hb⟩
  have HA2 : Hid (Arena Unit w2 w1.heap.size a b L) := hA
  have HB2 : Hid (Below w.heap.size w w2) := HB1.out.trans (hb.mono HB1.out.size)
  clear hA hb HB1 HV HFO
  go_wp2_with (go_at_call 9; fail)
  have HN3 : Hid (OwnI (w2.alloc (.cells (madeCells #[.int .i64 0] 64) 3)) w2.heap.size (.slice (some ⟨w2.heap.size, 0, none⟩) 64 64) (List.replicate 64 0)) := noughts w2
  have HA3 : Hid (Arena Unit (w2.alloc (.cells (madeCells #[.int .i64 0] 64) 3)) w1.heap.size a b L) := HA2.out.later ((Below.refl _ w2).alloc (Nat.le_refl _) _)
  have HB3 : Hid (Below w.heap.size w (w2.alloc (.cells (madeCells #[.int .i64 0] 64) 3))) := HB2.out.alloc HB2.out.size _
  have HS3 : Hid ((w2.alloc (.cells (madeCells #[.int .i64 0] 64) 3)).heap.size = w2.heap.size + 1) := by unfold Hid; simp
  have HWS : Hid (w.heap.size ≤ w2.heap.size) := HB2.out.size
  generalize w2.alloc (.cells (madeCells #[.int .i64 0] 64) 3) = w3 at *
  clear HA2 HB2
  generalize w2.heap.size = gn at *
  refine (lent_any Unit _ _ _ _ _ HA3.out).mono ?_
  rintro e w4 ⟨v1, v2, rfl, B, hB, ho1, ho2, hne, hb⟩
  have HTR : Hid (Tri w3 w4 (.slice none 0 0) v1 v2 [] (atsI L) (ordsI L)) := by
    refine ⟨OwnB.nil _ _, ho1, ownI_mono ho2 hB, ?_, hb⟩
    cases e1 : v1.ownBlock with
    | none => exact .inl rfl
    | some j =>
      refine .inr fun e2 => ?_
      have h1 := hne j e1
      have h2 := (World.ownsRow.lt ho2 j e2.symm).1
      omega
  have hL64 : L.length ≤ 64 := lent_most HA3.out.up HA3.out.okay
  obtain ⟨ao1, cap1, hv1⟩ := ho1.form
  obtain ⟨ao2, cap2, hv2⟩ := ho2.form
  rw [atsI_length] at hv1
  rw [ordsI_length] at hv2
  subst hv1 hv2
  clear ho1 ho2 hne hb hB
  go_wp2
  have HFR : Hid (∀ (k : Nat) (w0 : World), Below w3.heap.size w3 w0 → Calls Tryd.prog 10 #[.pointer (some ⟨a, 0, none⟩), .int .i64 (k : Nat)] w0 fun e w' => ∃ v, e = .returned v ∧ OwnI w' w0.heap.size v (freeI L (k : Nat)) ∧ Below w0.heap.size w0 w') := by
    intro k w0 h0
    exact free_any Unit _ _ _ _ (k : Nat) _ (HA3.out.later h0) (HT.out.below (HB3.out.trans (h0.mono HB3.out.size)) HTL.out)
  have HOL : Hid (Okay L) := HA3.out.okay
  go_loopw [6, 7, 8, 9, 10] (fun v6 v7 v8 _ _ wr => ∃ k : Nat, k ≤ 7 ∧ v8 = .int .i64 (k : Nat) ∧ Tri w3 wr (.slice none 0 0) v6 v7 [] (atsI (allTo L k)) (ordsI (allTo L k))) (fun _ _ v8 _ _ _ => 7 - (RowKit.intOf v8).toNat)
  case atStart => exact ⟨0, by omega, rfl, by rw [allTo_zero]; exact HTR.out⟩
  case round =>
    obtain ⟨k, hk, rfl, ht⟩ := hrel
    have HT1 : Hid (Tri w3 wr (.slice none 0 0) u6 u7 [] (atsI (allTo L k)) (ordsI (allTo L k))) := ht
    clear ht HTR
    by_cases hk7 : k = 7
    · have hk6 : ¬ (k : Int) ≤ 6 := by omega
      have HTA : Hid (Tri w3 wr (.slice none 0 0) u6 u7 [] (atsI (allB L)) (ordsI (allB L))) := by
        have := HT1.out
        rwa [hk7] at this
      have HNA : Hid (OwnI wr gn (.slice (some ⟨gn, 0, none⟩) 64 64) (cntR (allB L) 0)) := by
        have := HN3.out.later (HT1.out.below.mono (Nat.le_refl _))
        rwa [← cntR_zero (allB L)] at this
      have HBL : Hid (∀ b, b ∈ allB L → Blk b.1 b.2) := fun b hb => allB_blk HOL.out hb
      have HONE : Hid (∀ x, x < 64 → (allB L).countP (inB2 x) = 1) := fun x hx => buddy_apart HOL.out hx
      have hn600 : (allB L).length ≤ 600 := by
        have := allTo_most hL64 7
        have e : (allB L).length = (allTo L 7).length := rfl
        omega
      have hkk : 6 < k := by omega
      clear hk7 HT1 HN3 HFR HOL
      generalize allB L = B at *
      obtain ⟨wA, hwA⟩ : ∃ wA, wA = wr := ⟨_, rfl⟩
      subst hwA
      obtain ⟨a6, c6, hv6⟩ := HTA.out.p.form
      obtain ⟨a7, c7, hv7⟩ := HTA.out.a.form
      rw [atsI_length] at hv6
      rw [ordsI_length] at hv7
      subst hv6 hv7
      go_wp2
      go_loopw [11, 12] (fun v11 _ wq => ∃ i : Nat, i ≤ B.length ∧ v11 = .int .i64 (i : Nat) ∧ OwnI wq gn (.slice (some ⟨gn, 0, none⟩) 64 64) (cntR B i) ∧ Turn gn gn wA wq) (fun v11 _ _ => B.length - (RowKit.intOf v11).toNat)
      case atStart => exact ⟨0, Nat.zero_le _, rfl, HNA.out, Turn.refl _ _ _⟩
      case round =>
        obtain ⟨i, hi, rfl, hn, ht⟩ := hrel
        have HN5 : Hid (OwnI wr gn (.slice (some ⟨gn, 0, none⟩) 64 64) (cntR B i)) := hn
        have HT5 : Hid (Turn gn gn wA wr) := ht
        clear hn ht HNA
        by_cases hin : i = B.length
        · have hlt : ¬ (i : Int) < (B.length : Int) := by omega
          have HN6 : Hid (OwnI wr gn (.slice (some ⟨gn, 0, none⟩) 64 64) (cntR B B.length)) := by rw [← hin]; exact HN5.out
          have HBW : Hid (Below w.heap.size w wr) := by
            have h1 : Below w.heap.size w wA := HB3.out.trans (HTA.out.below.mono HB3.out.size)
            exact HT5.out.below h1 h1.size HWS.out HWS.out
          clear HN5 HT5 hin
          obtain ⟨wB, hwB⟩ : ∃ wB, wB = wr := ⟨_, rfl⟩
          subst hwB
          go_wp2
          go_loopw [13] (fun v13 wq => ∃ x : Nat, x ≤ 64 ∧ v13 = .int .i64 (x : Nat) ∧ wq = wB) (fun v13 _ => 64 - (RowKit.intOf v13).toNat)
          case atStart => exact ⟨0, by omega, rfl, rfl⟩
          case round =>
            obtain ⟨x, hx, rfl, rfl⟩ := hrel
            by_cases hx64 : x = 64
            · have hlt2 : ¬ (x : Int) < 64 := by omega
              go_wp2
              go_ret
              exact ⟨rfl, HBW.out⟩
            · have hlt2 : (x : Int) < 64 := by omega
              have hx64' : x < 64 := by omega
              have hc := HN6.out.cellN (cntR_length B _) hx64'
              rw [cntR_get hx64', HONE.out x hx64'] at hc
              go_wp2
              go_roundw
              case rel => exact ⟨x + 1, by omega, by go_num, trivial⟩
              case measure => simp [RowKit.intOf]; omega
        · have hin' : i < B.length := by omega
          have hlt : (i : Int) < (B.length : Int) := by omega
          obtain ⟨ga, rfl⟩ : ∃ ga, a6 = some ⟨ga, 0, none⟩ := by
            rcases HTA.out.p.2 with ⟨h, h0⟩ | ⟨g, cap, cur, h, _⟩
            · rw [atsI_length] at h0; omega
            · simp only [Value.slice.injEq] at h
              exact ⟨g, h.1⟩
          obtain ⟨gO, rfl⟩ : ∃ gO, a7 = some ⟨gO, 0, none⟩ := by
            rcases HTA.out.a.2 with ⟨h, h0⟩ | ⟨g, cap, cur, h, _⟩
            · rw [ordsI_length] at h0; omega
            · simp only [Value.slice.injEq] at h
              exact ⟨g, h.1⟩
          have hgn := HS3.out
          have hla := World.ownsRow.lt HTA.out.p ga rfl
          have hlo := World.ownsRow.lt HTA.out.a gO rfl
          have hga : ga ≠ gn := by omega
          have hgO : gO ≠ gn := by omega
          have hblk := HBL.out _ (List.getElem_mem hin')
          have hcq0 := HTA.out.p.cellN (atsI_length B) hin'
          rw [atsI_get hin'] at hcq0
          have hco0 := HTA.out.a.cellN (ordsI_length B) hin'
          rw [ordsI_get hin'] at hco0
          have HCQ : Hid (∀ wq, Turn gn gn wA wq → wq.cell? ⟨ga, i, none⟩ = some (.int .i64 ((B[i]).1 : Nat))) := fun wq h => (World.cell?_of_block (a := ⟨ga, i, none⟩) (h.block ga hla.2 hga hga)).trans hcq0
          have HCO : Hid (∀ wq, Turn gn gn wA wq → wq.cell? ⟨gO, i, none⟩ = some (.int .i64 ((B[i]).2 : Nat))) := fun wq h => (World.cell?_of_block (a := ⟨gO, i, none⟩) (h.block gO hlo.2 hgO hgO)).trans hco0
          have HEND : Hid (cntP B i (B[i]).1 ((B[i]).1 + 2 ^ (B[i]).2) = cntR B (i+1)) := cntP_end hin'
          clear hgn hla hlo hcq0 hco0
          generalize (B[i]).1 = q at *
          generalize (B[i]).2 = o at *
          obtain ⟨ho6, hq0, hq64⟩ := hblk
          have hpw := pow_pos2 o
          have hpl : (2 ^ o : Nat) ≤ 2 ^ 6 := pow_le ho6
          have HP0 : Hid (∀ w0 : World, Calls Tryd.prog 11 #[.int .i64 ((o : Nat) : Int)] w0 fun e w' => e = .returned (.int .i64 ((2 ^ o : Nat))) ∧ w' = w0) := fun w0 => pow_any o (by omega) w0
          have HI1 : Hid (∀ w0 : World, Calls Tryd.prog 12 #[.int .i64 ((o : Nat) : Int), .int .i64 0, .int .i64 6] w0 fun e w' => e = .returned (.bool true) ∧ w' = w0) := fun w0 => by
            have := in_range (o : Nat) 0 6 w0
            have e : (decide ((0 : Int) ≤ (o : Nat)) && decide (((o : Nat) : Int) ≤ 6)) = true := by
              rw [Bool.and_eq_true, decide_eq_true_eq, decide_eq_true_eq]; omega
            rwa [e] at this
          have HI2 : Hid (∀ w0 : World, Calls Tryd.prog 12 #[.int .i64 ((q : Nat) : Int), .int .i64 0, .int .i64 63] w0 fun e w' => e = .returned (.bool true) ∧ w' = w0) := fun w0 => by
            have := in_range (q : Nat) 0 63 w0
            have e : (decide ((0 : Int) ≤ (q : Nat)) && decide (((q : Nat) : Int) ≤ 63)) = true := by
              rw [Bool.and_eq_true, decide_eq_true_eq, decide_eq_true_eq]; omega
            rwa [e] at this
          generalize (2 ^ o : Nat) = pw at *
          have hrem : (((q : Int) % (pw : Int)) != 0) = false := by
            have : (q : Int) % (pw : Int) = 0 := by omega
            rw [this]; rfl
          have hcq := HCQ.out wr HT5.out
          have hco := HCO.out wr HT5.out
          clear hq0
          go_wp2
          go_quiet (first | (go_at_call_of 12 (Value.int .i64 ((o : Nat) : Int)); exact Calls.quiet_of_same (HI1.out _)) | (go_at_call 12; exact Calls.quiet_of_same (HI2.out _)) | (go_at_call 11; exact Calls.quiet_of_same (HP0.out _)))
          have HN6 : Hid (OwnI (wr.drewN nq) gn (.slice (some ⟨gn, 0, none⟩) 64 64) (cntP B i q q)) := by
            rw [cntP_start]
            exact HN5.out.later (below_drewN (Below.refl _ _) _)
          have HT6 : Hid (Turn gn gn wA (wr.drewN nq)) := HT5.out.trans (Turn.drewN _ _)
          clear HN5 HT5 hrem hcq hco HI1 HI2
          generalize wr.drewN nq = w6 at *
          have hcq := HCQ.out w6 HT6.out
          go_wp2
          clear hcq
          go_loopw [12] (fun v12 wq => ∃ p : Nat, q ≤ p ∧ p ≤ q + pw ∧ v12 = .int .i64 (p : Nat) ∧ OwnI wq gn (.slice (some ⟨gn, 0, none⟩) 64 64) (cntP B i q p) ∧ Turn gn gn wA wq) (fun v12 _ => q + pw - (RowKit.intOf v12).toNat)
          case atStart => exact ⟨q, Nat.le_refl _, by omega, rfl, HN6.out, HT6.out⟩
          case round =>
            obtain ⟨p, hp1, hp2, rfl, hn, ht⟩ := hrel
            have HN7 : Hid (OwnI wr gn (.slice (some ⟨gn, 0, none⟩) 64 64) (cntP B i q p)) := hn
            have HT7 : Hid (Turn gn gn wA wr) := ht
            clear hn ht HN6 HT6
            have hcq := HCQ.out wr HT7.out
            have hco := HCO.out wr HT7.out
            by_cases hpe : p = q + pw
            · have HN8 : Hid (∀ n, OwnI (wr.drewN n) gn (.slice (some ⟨gn, 0, none⟩) 64 64) (cntR B (i+1))) := fun n => by
                have := HN7.out
                rw [hpe, HEND.out] at this
                exact this.later (below_drewN (Below.refl _ _) _)
              have hge : ¬ (p : Int) < (q : Int) + (pw : Int) := by omega
              have HPE : Hid (p = q + pw) := hpe
              clear hpe
              go_wp2
              go_quiet (first | (go_at_call 11; exact Calls.quiet_of_same (HP0.out _)))
              go_wp2
              go_roundw
              case rel => exact ⟨i + 1, by omega, by go_num, HN8.out _, HT7.out.trans (Turn.drewN _ _)⟩
              case measure => simp [RowKit.intOf]; omega
            · have hlt2 : (p : Int) < (q : Int) + (pw : Int) := by omega
              have hp64 : p < 64 := by omega
              have hp63 : ¬ (63 : Int) < (p : Int) := by omega
              have hcp := HN7.out.cellN (cntP_length B i q p) hp64
              rw [cntP_get hp64] at hcp
              have hfp := HN7.out.softN (cntP_length B i q p) p
              have hst := cntP_step (B := B) (i := i) hp64 hp1
              have hfew := cnt_few B i p
              generalize (B.take i).countP (inB2 p) = c at *
              have HST : Hid ((cntP B i q p).set p ((c : Int) + 1) = cntP B i q (p+1)) := hst
              clear hst hpe
              go_wp2
              go_quiet (first | (go_at_call 11; exact Calls.quiet_of_same (HP0.out _)))
              have HN8 : Hid (OwnI (wr.drewN nq) gn (.slice (some ⟨gn, 0, none⟩) 64 64) (cntP B i q p)) := HN7.out.later (below_drewN (Below.refl _ _) _)
              have HT8 : Hid (Turn gn gn wA (wr.drewN nq)) := HT7.out.trans (Turn.drewN _ _)
              have hcp9 : (wr.drewN nq).cell? ⟨gn, p, none⟩ = some (.int .i64 (c : Nat)) := hcp
              have hfp9 : (wr.drewN nq).frozen? ⟨gn, p, none⟩ = false := hfp
              clear hcp hfp hcq hco HN7 HT7
              generalize wr.drewN nq = w9 at *
              have HN9 : Hid (OwnI (w9.setCell ⟨gn, p, none⟩ (.int .i64 ((c : Int) + 1))) gn (.slice (some ⟨gn, 0, none⟩) 64 64) (cntP B i q (p+1))) := by
                have := store_own HN8.out (cntP_length B i q p) p ((c : Int) + 1)
                rwa [HST.out] at this
              have HT9 : Hid (Turn gn gn wA (w9.setCell ⟨gn, p, none⟩ (.int .i64 ((c : Int) + 1)))) := HT8.out.trans (Turn.setCell _ _ _ rfl)
              go_wp2
              go_roundw
              case rel => exact ⟨p + 1, by omega, by omega, by go_num, HN9.out, HT9.out⟩
              case measure => simp [RowKit.intOf]; omega
    · have hk6 : (k : Int) ≤ 6 := by omega
      have hk6n : k ≤ 6 := by omega
      go_wp2_with (go_at_call 10; fail)
      refine (HFR.out k _ HT1.out.below).mono ?_
      rintro e w5 ⟨vl, rfl, ho, hb⟩
      obtain ⟨al, capl, hvl⟩ := ho.form
      rw [freeI_length (by omega)] at hvl
      subst hvl
      have HF : Hid (Four w3 w5 u6 u7 (.slice al (freeL L k).length capl) (atsI (allTo L k)) (ordsI (allTo L k)) (freeI L (k : Nat))) := four_of HT1.out ho hb
      have hfm := freeL_most L k
      clear ho hb HT1
      obtain ⟨wA, hwA⟩ : ∃ wA, wA = wr := ⟨_, rfl⟩
      subst hwA
      go_wp2
      go_loopw [6, 7, 10] (fun v6 v7 v10 wq => ∃ i : Nat, i ≤ (freeL L k).length ∧ v10 = .int .i64 (i : Nat) ∧ Four w3 wq v6 v7 (.slice al (freeL L k).length capl) (atsI (allIn L k i)) (ordsI (allIn L k i)) (freeI L (k : Nat))) (fun _ _ v10 _ => (freeL L k).length - (RowKit.intOf v10).toNat)
      case atStart => exact ⟨0, Nat.zero_le _, rfl, by rw [allIn_zero]; exact HF.out⟩
      case round =>
        obtain ⟨i, hi, rfl, hf⟩ := hrel
        have HF2 : Hid (Four w3 wr u6 u7 (.slice al (freeL L k).length capl) (atsI (allIn L k i)) (ordsI (allIn L k i)) (freeI L (k : Nat))) := hf
        clear hf HF
        by_cases hin : i = (freeL L k).length
        · have HTN : Hid (Tri w3 wr (.slice none 0 0) u6 u7 [] (atsI (allTo L (k+1))) (ordsI (allTo L (k+1)))) := by
            have := HF2.out.tri
            rwa [hin, allIn_end] at this
          have hlt : ¬ (i : Int) < ((freeL L k).length : Int) := by omega
          clear HF2 hin
          go_wp2
          go_roundw
          case rel => exact ⟨k + 1, by omega, by go_num, HTN.out⟩
          case measure => simp [RowKit.intOf]; omega
        · have hin' : i < (freeL L k).length := by omega
          have hlt : (i : Int) < ((freeL L k).length : Int) := by omega
          obtain ⟨gl, rfl⟩ : ∃ gl, al = some ⟨gl, 0, none⟩ := by
            rcases HF2.out.l.2 with ⟨h, h0⟩ | ⟨g, cap, cur, h, _⟩
            · rw [freeI_length (by omega)] at h0; omega
            · simp only [Value.slice.injEq] at h
              exact ⟨g, h.1⟩
          have hcx := HF2.out.l.cellN (freeI_length (by omega)) hin'
          rw [freeI_get (by omega) hin'] at hcx
          have HX : Hid ((freeL L k)[i] = (freeL L k)[i]) := rfl
          have hcapn : (freeL L k).length ≤ 64 := freeL_most L k
          obtain ⟨x, hx⟩ : ∃ x, x = (freeL L k)[i] := ⟨_, rfl⟩
          have HXE : Hid ((freeL L k)[i] = x) := hx.symm
          rw [← hx] at hcx
          clear hx HX
          have HAI : Hid (atsI (allIn L k (i+1)) = atsI (allIn L k i) ++ [(x : Int)]) := by unfold Hid; rw [allIn_succ hin', HXE.out, atsI_add]
          have HOI : Hid (ordsI (allIn L k (i+1)) = ordsI (allIn L k i) ++ [(k : Int)]) := by unfold Hid; rw [allIn_succ hin', HXE.out, ordsI_add]
          have hm6 := allIn_most hL64 (k := k) (i := i) (by omega)
          have hla : (atsI (allIn L k i)).length = (allIn L k i).length := atsI_length _
          have hlo : (ordsI (allIn L k i)).length = (allIn L k i).length := ordsI_length _
          generalize atsI (allIn L k i) = la at *
          generalize ordsI (allIn L k i) = lo at *
          generalize (allIn L k i).length = m6 at *
          obtain ⟨a6, c6, hv6⟩ := HF2.out.tri.p.form
          obtain ⟨a7, c7, hv7⟩ := HF2.out.tri.a.form
          rw [hla] at hv6
          rw [hlo] at hv7
          subst hv6 hv7
          have HLA : Hid (la.length = m6) := hla
          have HLO : Hid (lo.length = m6) := hlo
          clear hla hlo
          go_wp2_with (first | (at_builtin; refine wpList_append_own_at _ rfl _ _ 22 rfl w3.heap.size 3 i0 (.int .i64 0) 1 8 Tryd.underlying22 HI0.out.1 HI0.out.2.1 HI0.out.2.2.1 HI0.out.2.2.2 rfl (by decide) _ m6 (la.map (Value.int .i64)) rfl (World.ownsRow.alloc (HF2.out.tri.p.rows HLA.out rfl) _) ⟨wr.heap.size, 0, none⟩ 1 1 [.int .i64 (x : Nat)] rfl rfl (by exact new_one _ _ _) (one_cell _) (by unfold maxLen; omega) (by omega) (by have := HF2.out.tri.below.size; simp; omega) ?_; intro v8 w8 hown' hgrow _ hat; have HF3 : Hid (Four w3 w8 v8 (.slice a7 m6 c7) (.slice (some ⟨gl, 0, none⟩) (freeL L k).length capl) (la ++ [(x : Int)]) lo (freeI L (k : Nat))) := HF2.out.pages HLA.out hown' hgrow hat; clear HF2; clear hown' hgrow hat) | (at_builtin; go_must (refine wpList_append_own_at _ rfl _ _ 22 rfl w3.heap.size 3 i0 (.int .i64 0) 1 8 Tryd.underlying22 HI0.out.1 HI0.out.2.1 HI0.out.2.2.1 HI0.out.2.2.2 rfl (by decide) _ m6 (lo.map (Value.int .i64)) rfl (World.ownsRow.alloc (HF3.out.tri.a.rows HLO.out rfl) _) ⟨w8.heap.size, 0, none⟩ 1 1 [.int .i64 (k : Nat)] rfl rfl (by exact new_one _ _ _) (one_cell _) (by unfold maxLen; omega) (by omega) (by have := HF3.out.tri.below.size; simp; omega) ?_; intro v9 w9 hown' hgrow _ hat; have HF4 : Hid (Four w3 w9 v8 v9 (.slice (some ⟨gl, 0, none⟩) (freeL L k).length capl) (la ++ [(x : Int)]) (lo ++ [(k : Int)]) (freeI L (k : Nat))) := HF3.out.asked HLO.out hown' hgrow hat; clear HF3; clear hown' hgrow hat)))
          have hcx9 := HF4.out.l.cellN (freeI_length (by omega)) hin'
          rw [freeI_get (by omega) hin', HXE.out] at hcx9
          have HP0 : Hid (∀ w0 : World, Calls Tryd.prog 11 #[.int .i64 ((k : Nat) : Int)] w0 fun e w' => e = .returned (.int .i64 ((2 ^ k : Nat))) ∧ w' = w0) := fun w0 => pow_any k (by omega) w0
          have HP1 : Hid (∀ w0 : World, Calls Tryd.prog 11 #[.int .i64 ((k : Int) + 1)] w0 fun e w' => e = .returned (.int .i64 ((2 ^ (k+1) : Nat))) ∧ w' = w0) := fun w0 => pow_any (k+1) (by omega) w0
          have hp0 : (2 ^ k : Nat) ≤ 2 ^ 6 := Nat.pow_le_pow_right (by decide) (by omega)
          have hp1 : (2 ^ (k+1) : Nat) ≤ 2 ^ 7 := Nat.pow_le_pow_right (by decide) (by omega)
          have hp2 := pow_pos2 (k+1)
          by_cases hi0 : i = 0
          · have hni : ¬ 0 < i := by omega
            have hnb : decide (0 < i) = false := by simpa using hi0
            clear hcx
            generalize (2 ^ k : Nat) = pk at *
            generalize (2 ^ (k+1) : Nat) = pk1 at *
            have HI00 : Hid (i = 0) := hi0
            clear hi0
            go_quiet (first | (go_at_call_of 11 (Value.int .i64 ((k : Nat) : Int)); exact Calls.quiet_of_same (HP0.out _)) | (go_at_call 11; exact Calls.quiet_of_same (HP1.out _)))
            go_wp2
            go_roundw
            case rel => exact ⟨i + 1, by omega, by go_num, by rw [HAI.out, HOI.out]; exact HF4.out.later (below_drewN (Below.refl _ _) _)⟩
            case measure => simp [RowKit.intOf]; omega
          · obtain ⟨y, hy⟩ : ∃ y, y = (freeL L k)[i-1]'(by omega) := ⟨_, rfl⟩
            obtain ⟨hx64, hyx, hst⟩ := step_fact hk6n (by omega) hin' HXE.out hy.symm
            have hcy9 := HF4.out.l.cellN (freeI_length (by omega)) (show i - 1 < (freeL L k).length by omega)
            rw [freeI_get (by omega) (by omega), ← hy] at hcy9
            have hpi : 0 < i := by omega
            have hpb : decide (0 < i) = true := by simpa using hpi
            obtain ⟨i1, hi1⟩ : ∃ i1, i1 + 1 = i := ⟨i - 1, by omega⟩
            rw [show i - 1 = i1 by omega] at hcy9
            have hwi : IntKind.i64.wrap ((i : Int) - 1) = (i1 : Nat) := by rw [IntKind.wrap_i64]; omega
            have HI1 : Hid (i1 + 1 = i) := hi1
            have hi1l : i1 < (freeL L k).length := by omega
            clear hcx hy hi0 hi1
            generalize (2 ^ k : Nat) = pk at *
            generalize (2 ^ (k+1) : Nat) = pk1 at *
            by_cases hd : (x : Int) - (y : Int) = (pk : Int)
            · have hdb : ((x : Int) - (y : Int) == (pk : Int)) = true := by simpa using hd
              have hrem : (((y : Int) % (pk1 : Int)) == 0) = false := by
                rw [beq_eq_false_iff_ne]
                have := hst hd
                omega
              clear hst hd
              go_quiet (first | (go_at_call_of 11 (Value.int .i64 ((k : Nat) : Int)); exact Calls.quiet_of_same (HP0.out _)) | (go_at_call 11; exact Calls.quiet_of_same (HP1.out _)))
              go_wp2
              go_roundw
              case rel => exact ⟨i + 1, by omega, by go_num, by rw [HAI.out, HOI.out]; exact HF4.out.later (below_drewN (Below.refl _ _) _)⟩
              case measure => simp [RowKit.intOf]; omega
            · have hdb : ((x : Int) - (y : Int) == (pk : Int)) = false := by simpa using hd
              clear hst hd
              go_quiet (first | (go_at_call_of 11 (Value.int .i64 ((k : Nat) : Int)); exact Calls.quiet_of_same (HP0.out _)) | (go_at_call 11; exact Calls.quiet_of_same (HP1.out _)))
              go_wp2
              go_roundw
              case rel => exact ⟨i + 1, by omega, by go_num, by rw [HAI.out, HOI.out]; exact HF4.out.later (below_drewN (Below.refl _ _) _)⟩
              case measure => simp [RowKit.intOf]; omega
end Go.Proofs.YtmmeapaakdaemaaDoor
