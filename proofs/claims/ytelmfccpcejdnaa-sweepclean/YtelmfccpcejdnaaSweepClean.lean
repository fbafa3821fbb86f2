/- SweepClean is proved: of whatever heap, in whatever memory and on every schedule, it returns true and leaves its argument as it was: what is left is all come to: swept again nothing is gone; what is left is as many as were come to, with as many pointers each, to the same. No condition. -/
import Derived.Test.YtelmfccpcejdnaaSFact
import Derived.Test.YtelmfccpcejdnaaInRange
import Derived.Test.YtelmfccpcejdnaaRCount
import Derived.Test.YtelmfccpcejdnaaArgHeap
namespace Go.Proofs.Ytelmfccpcejdnaa
set_option maxRecDepth 100000
open Go.ChangeShapes Go.WideShapes Go.ChangeAt Go.RowKit Go.Sort

/-- The heap that is left is as well. -/
theorem left_fine {L : List (List Int)} {R N : List Int} (hf : FineH L R) (h : Left L R N) : FineH (anewO L N) (R.map (plc N)) := by
  have hN := (h.inn hf).few
  have hl := anew_length L N
  refine ⟨by rw [hl]; have := hf.few; omega, by rw [List.length_map]; exact hf.roots, fun x hx => ?_, fun r hr => ?_, fun r hr x hx => ?_⟩
  · obtain ⟨y, hy, rfl⟩ := List.mem_map.1 hx
    rw [hl]
    exact plc_lt (h.shut.root y hy)
  · obtain ⟨y, hy, rfl⟩ := List.mem_map.1 hr
    rw [List.length_map]
    have hyl := (h.inn hf).2 y hy
    have e : gOf L y = L[y.toNat]?.getD [] := by unfold gOf; rw [if_pos hyl.1]
    rw [e, List.getElem?_eq_getElem (by omega)]
    exact hf.outs _ (List.getElem_mem _)
  · obtain ⟨y, hy, rfl⟩ := List.mem_map.1 hr
    obtain ⟨z, hz, rfl⟩ := List.mem_map.1 hx
    rw [hl]
    exact plc_lt (h.shut.outs y hy z hz)
/-- All of it is come to. -/
theorem left_again {L : List (List Int)} {R N M : List Int} (h : Left L R N) (h2 : Left (anewO L N) (R.map (plc N)) M) : M = upTo N.length := by
  refine up_unique h2.up (upTo_up _) fun x => ?_
  rw [h2.mem, anew_all h.shut fun x hx => (h.mem x).1 hx]
theorem left_same {L : List (List Int)} {R N : List Int} (h : Left L R N) : anewO (anewO L N) (upTo N.length) = anewO L N ∧ (R.map (plc N)).map (plc (upTo N.length)) = R.map (plc N) := by
  have hs : Shut (anewO L N) (R.map (plc N)) (upTo (anewO L N).length) := by rw [anew_length]; exact anew_shut h.shut
  have := anew_same hs
  rwa [anew_length] at this
set_option maxHeartbeats 4000000 in
theorem swclean_any (v : Value) (L : List (List Int)) (R : List Int) (w : World) (hv : IsHeap w v L R) (_ : CameH w v R) :
    Calls Try.prog 5 #[v] w fun e w' => e = .returned (.bool true) ∧ Below w.heap.size w w' := by
  obtain ⟨ao, co, ar, cr, rfl, h1, h2⟩ := hv.form
  have HBX : Hid (Boxed w (w.alloc (.cells #[.slice ao L.length co, .slice ar R.length cr] 25)) w.heap.size ao co ar cr L R) := boxed h1 h2 _
  clear hv h1 h2
  go_enter Try.func5, Try.ntmps5
  go_wp2_with (go_at_call 6; fail)
  generalize w.alloc (.cells #[.slice ao L.length co, .slice ar R.length cr] 25) = W at *
  refine (sfact_any _).mono ?_
  rintro e w1 ⟨rfl, hb1⟩
  have HB1 : Hid (Boxed w w1 w.heap.size ao co ar cr L R) := HBX.out.later hb1
  clear HBX hb1
  have hd0 : w1.cell? ⟨w.heap.size, 0, none⟩ = some (.slice ao L.length co) := HB1.out.outs
  have hd1 : w1.cell? ⟨w.heap.size, 1, none⟩ = some (.slice ar R.length cr) := HB1.out.roots
  go_wp2_with (go_at_call 16; fail)
  refine (ssweep_any _ L R _ HB1.out.isHeap).mono ?_
  rintro e w2 ⟨⟨vl, vx, rfl, N, X, Y, hN, hX, hS⟩, hb2⟩
  have HB2 : Hid (Boxed w w2 w.heap.size ao co ar cr L R) := HB1.out.later hb2
  have HN2 : Hid (IsInts w2 vl N) := hN
  obtain ⟨aX, cX, aY, cY, rfl, hXr, hYr⟩ := hX.form
  obtain ⟨aN, cN, rfl, hcN, _⟩ := hN.opened
  unfold maxLen at hcN
  clear hd0 hd1 HB1 hb2 hN hX
  by_cases h0 : chkH L R = 0
  · have HF : Hid (FineH L R) := chkH_zero.1 h0
    have hl12 := HF.out.few
    unfold SweepIs at hS
    rw [if_pos h0] at hS
    obtain ⟨hLe, rfl, rfl⟩ := hS
    have HL : Hid (Left L R N) := hLe
    rw [anew_length] at hXr ⊢
    rw [List.length_map] at hYr ⊢
    rw [h0, show errV 0 = .nilIface from rfl]
    have hNL := (hLe.inn HF.out).few
    have HXL : Hid ((anewO L N).length = N.length) := anew_length L N
    have HYL : Hid ((R.map (plc N)).length = R.length) := List.length_map _
    have HFX : Hid (FineH (anewO L N) (R.map (plc N))) := left_fine HF.out hLe
    have HBX : Hid (Boxed w2 (w2.alloc (.cells #[.slice aX N.length cX, .slice aY R.length cY] 25)) w2.heap.size aX cX aY cY (anewO L N) (R.map (plc N))) := by
      have h := boxed (w := w2) (ao := aX) (ar := aY) (co := cX) (cr := cY) (L := anewO L N) (R := R.map (plc N)) (by rw [HXL.out]; exact hXr) (by rw [HYL.out]; exact hYr) 25
      rw [HXL.out, HYL.out] at h
      exact h
    have HAG : Hid (∀ M, Left (anewO L N) (R.map (plc N)) M → M = upTo N.length) := fun M hM => left_again hLe hM
    have HSA : Hid (anewO (anewO L N) (upTo N.length) = anewO L N ∧ (R.map (plc N)).map (plc (upTo N.length)) = R.map (plc N)) := left_same hLe
    have HRK : Hid (∀ k (hk : k < N.length), rowAt (anewO L N) k = (rowAt L (N[k]).toNat).map (plc N)) := fun k hk => by
      have hy := (hLe.inn HF.out).2 _ (List.getElem_mem hk)
      have e : gOf L (N[k]) = rowAt L (N[k]).toNat := by unfold gOf; rw [if_pos hy.1]; rfl
      rw [← e]
      unfold rowAt anewO
      rw [List.getElem?_map, List.getElem?_eq_getElem hk]; rfl
    clear h0 hXr hYr hLe
    generalize hXX : anewO L N = X at *
    generalize hYY : R.map (plc N) = Y at *
    have HH2 : Hid (IsHeap (w2.alloc (.cells #[.slice aX N.length cX, .slice aY R.length cY] 25)) (.agg #[.slice aX N.length cX, .slice aY R.length cY]) X Y) := by
      have h := HBX.out.isHeap
      rw [HXL.out, HYL.out] at h
      exact h
    go_wp2_with (go_at_call 16; fail)
    refine (ssweep_any _ X Y _ HH2.out).mono ?_
    rintro e w4 ⟨⟨vm, vy, rfl, M, X2, Y2, hM, hX2, hS2⟩, hb4⟩
    have HX0 : Hid (chkH X Y = 0) := chkH_zero.2 HFX.out
    unfold SweepIs at hS2
    rw [if_pos HX0.out] at hS2
    obtain ⟨hL2, rfl, rfl⟩ := hS2
    have hMM := HAG.out _ hL2
    subst hMM
    rw [HSA.out.1, HSA.out.2] at hX2
    have HB4 : Hid (Boxed w w4 w.heap.size ao co ar cr L R) := HB2.out.later (HBX.out.below.trans (hb4.mono HBX.out.below.size))
    have HBX4 : Hid (Boxed w2 w4 w2.heap.size aX cX aY cY X Y) := HBX.out.later hb4
    have HN4 : Hid (IsInts w4 (.slice aN N.length cN) N) := HN2.out.below (HBX.out.below.trans (hb4.mono HBX.out.below.size))
    have HM4 : Hid (IsInts w4 vm (upTo N.length)) := hM
    have HY4 : Hid (IsHeap w4 vy X Y) := hX2
    rw [HX0.out, show errV 0 = .nilIface from rfl]
    obtain ⟨aM, cM, rfl, _⟩ := HM4.out.opened
    obtain ⟨aP, cP, aQ, cQ, rfl, hPR, hQR⟩ := HY4.out.form
    have HPR : Hid (IsRows w4 (.slice aP X.length cP) X) := hPR
    have HQR : Hid (IsInts w4 (.slice aQ Y.length cQ) Y) := hQR
    clear hPR hQR
    clear hM hX2 hL2 hb4 HBX HB2 HN2 HAG HSA HH2
    have hx0 : w4.cell? ⟨w2.heap.size, 0, none⟩ = some (.slice aX N.length cX) := by rw [← HXL.out]; exact HBX4.out.outs
    have hx1 : w4.cell? ⟨w2.heap.size, 1, none⟩ = some (.slice aY R.length cY) := by rw [← HYL.out]; exact HBX4.out.roots
    have hd0 : w4.cell? ⟨w.heap.size, 0, none⟩ = some (.slice ao L.length co) := HB4.out.outs
    have HY5 : Hid (Boxed w4 (w4.alloc (.cells #[.slice aP X.length cP, .slice aQ Y.length cQ] 25)) w4.heap.size aP cP aQ cQ X Y) := boxed HPR.out HQR.out _
    go_wp2_with (go_at_call 17; fail)
    generalize w4.alloc (.cells #[.slice aP X.length cP, .slice aQ Y.length cQ] 25) = w5 at *
    refine (rcount_any N.length (by omega) _).mono ?_
    rintro e w6 ⟨vc, rfl, hc, hb6⟩
    have HB56 : Hid (Below w4.heap.size w4 w6) := HY5.out.below.trans (hb6.mono HY5.out.below.size)
    have HY6 : Hid (Boxed w4 w6 w4.heap.size aP cP aQ cQ X Y) := HY5.out.later hb6
    have HC6 : Hid (IsInts w6 vc (upTo N.length)) := hc.isInts
    have HM6 : Hid (IsInts w6 (.slice aM (upTo N.length).length cM) (upTo N.length)) := HM4.out.below HB56.out
    have HN6 : Hid (IsInts w6 (.slice aN N.length cN) N) := HN4.out.below HB56.out
    have HX6 : Hid (Boxed w2 w6 w2.heap.size aX cX aY cY X Y) := HBX4.out.later HB56.out
    have HB6 : Hid (Boxed w w6 w.heap.size ao co ar cr L R) := HB4.out.later HB56.out
    clear hc hb6 HB56 HY5 HM4 HN4 HBX4 HB4 hx0 hx1 hd0
    go_wp2_with (go_at_call 14; fail)
    refine (ints_same _ _ (upTo N.length) _ HM6.out HC6.out).mono ?_
    rintro e w7 ⟨rfl, q, hw7⟩
    have HB67 : Hid (Below w6.heap.size w6 w7) := by rw [hw7]; exact below_drewN (Below.refl _ _) q
    have HY7 : Hid (Boxed w4 w7 w4.heap.size aP cP aQ cQ X Y) := HY6.out.later HB67.out
    have HN7 : Hid (IsInts w7 (.slice aN N.length cN) N) := HN6.out.below HB67.out
    have HX7 : Hid (Boxed w2 w7 w2.heap.size aX cX aY cY X Y) := HX6.out.later HB67.out
    have HB7 : Hid (Boxed w w7 w.heap.size ao co ar cr L R) := HB6.out.later HB67.out
    clear hw7 HB67 HY6 HN6 HX6 HB6 HM6 HC6
    have hy0 : w7.cell? ⟨w4.heap.size, 0, none⟩ = some (.slice aP X.length cP) := HY7.out.outs
    have hy1 : w7.cell? ⟨w4.heap.size, 1, none⟩ = some (.slice aQ Y.length cQ) := HY7.out.roots
    have hx0 : w7.cell? ⟨w2.heap.size, 0, none⟩ = some (.slice aX N.length cX) := by rw [← HXL.out]; exact HX7.out.outs
    have hx1 : w7.cell? ⟨w2.heap.size, 1, none⟩ = some (.slice aY R.length cY) := by rw [← HYL.out]; exact HX7.out.roots
    go_wp2_with (go_at_call 18; fail)
    have HXH : IsHeap w7 (.agg #[.slice aX N.length cX, .slice aY R.length cY]) X Y := by
      have h := HX7.out.isHeap
      rw [HXL.out, HYL.out] at h
      exact h
    refine (heaps_same _ _ X Y _ HXH HY7.out.isHeap).mono ?_
    rintro e w8 ⟨rfl, hb8⟩
    have HN8 : Hid (IsInts w8 (.slice aN N.length cN) N) := HN7.out.below hb8
    have HX8 : Hid (Boxed w2 w8 w2.heap.size aX cX aY cY X Y) := HX7.out.later hb8
    have HB8 : Hid (Boxed w w8 w.heap.size ao co ar cr L R) := HB7.out.later hb8
    clear hb8 HXH HY7 HN7 HX7 HB7 hx0 hx1 hy0 hy1
    have hx0 : w8.cell? ⟨w2.heap.size, 0, none⟩ = some (.slice aX N.length cX) := by rw [← HXL.out]; exact HX8.out.outs
    have hd0 : w8.cell? ⟨w.heap.size, 0, none⟩ = some (.slice ao L.length co) := HB8.out.outs
    have hNm : IntKind.i64.wrap ((N.length : Int) - 1) = (N.length : Int) - 1 := by rw [IntKind.wrap_i64]; omega
    have hLm : IntKind.i64.wrap ((L.length : Int) - 1) = (L.length : Int) - 1 := by rw [IntKind.wrap_i64]; omega
    go_wp2
    go_loopw [10] (fun i wr => ∃ k q : Nat, k ≤ N.length ∧ i = .int .i64 (k : Nat) ∧ wr = w8.drewN q) (fun i _ => N.length - (intOf i).toNat)
    case atStart => exact ⟨0, 0, Nat.zero_le _, rfl, rfl⟩
    case round =>
      obtain ⟨k, q1, hk, rfl, rfl⟩ := hrel
      have HQ : Hid (∀ n, ∃ q', (w8.drewN q1).drewN n = w8.drewN q') := fun n => ⟨q1 + n, by simp [World.drewN_drewN]⟩
      by_cases hlt : k < N.length
      · have hlt' : (k : Int) < (N.length : Int) := by omega
        obtain ⟨bN, offN, rfl, hlcN, hbsN, hcellN⟩ := HN8.out.open_at hlt
        have HCN : Hid (∀ j, j < N.length → w8.cell? ⟨bN, offN + j, none⟩ = some (.int .i64 (N[j]?.getD 0))) := hcellN
        have hck : (w8.drewN q1).cell? ⟨bN, offN + k, none⟩ = some (.int .i64 (N[k]?.getD 0)) := hcellN k hlt
        have hyr := (HL.out.inn HF.out).2 _ (List.getElem_mem hlt)
        have hrk := HRK.out k hlt
        have hsh := HL.out.shut.outs _ (List.getElem_mem hlt)
        rw [List.getElem?_eq_getElem hlt, Option.getD_some] at hck
        generalize N[k] = y at *
        obtain ⟨y, rfl⟩ : ∃ t : Nat, y = (t : Int) := ⟨y.toNat, by omega⟩
        rw [Int.toNat_natCast] at hrk
        rw [gOf_at] at hsh
        have HSH : Hid (∀ z, z ∈ rowAt L y → z ∈ N) := hsh
        have hyl : y < L.length := by omega
        have hyi : (y : Int) < (L.length : Int) := by omega
        obtain ⟨bX, offX, hX1, hX2, hX3, au, cu, hX4, hX5, hX6, hX7⟩ := (show IsRows w8 (.slice aX N.length cX) X by have h := HX8.out.rows; rw [HXL.out] at h; exact h).at (k := k) (by rw [HXL.out]; exact hlt)
        subst hX1
        rw [HXL.out] at hX2
        have hrl : (rowAt X k).length = (rowAt L y).length := by rw [hrk, List.length_map]
        rw [hrl] at hX4 hX5
        rw [hrk] at hX5
        have HIX : Hid (IsInts w8 (.slice au (rowAt L y).length cu) ((rowAt L y).map (plc N))) := hX5
        obtain ⟨bL, offL, rfl, hL2, hL3, av, cv, hL4, hL5, hL6, hL7⟩ := HB8.out.rows.at hyl
        have HIL : Hid (IsInts w8 (.slice av (rowAt L y).length cv) (rowAt L y)) := hL5
        have hxq : (w8.drewN q1).cell? ⟨w2.heap.size, 0, none⟩ = some (.slice (some ⟨bX, offX, none⟩) N.length cX) := hx0
        have hdq : (w8.drewN q1).cell? ⟨w.heap.size, 0, none⟩ = some (.slice (some ⟨bL, offL, none⟩) L.length co) := hd0
        have hXq : (w8.drewN q1).cell? ⟨bX, offX + k, none⟩ = some (.slice au (rowAt L y).length cu) := hX4
        have hLq : (w8.drewN q1).cell? ⟨bL, offL + y, none⟩ = some (.slice av (rowAt L y).length cv) := hL4
        have HIN : Hid (∀ W, Calls Try.prog 9 #[.int .i64 (y : Nat), .int .i64 0, .int .i64 ((L.length : Int) - 1)] W fun e w' => e = .returned (.bool true) ∧ w' = W) := fun W => by
          have h := in_range (y : Nat) 0 ((L.length : Int) - 1) W
          rwa [decide_eq_true (show (0 : Int) ≤ (y : Nat) by omega), decide_eq_true (show ((y : Nat) : Int) ≤ (L.length : Int) - 1 by omega)] at h
        have hnn : (((rowAt L y).length : Int) != (rowAt L y).length) = false := by simp
        have h4 : (rowAt L y).length ≤ 4 := HF.out.outs _ (rowAt_mem hyl)
        have HHP : Hid ((w8.drewN q1).heap = w8.heap) := rfl
        clear hcellN hyr hrk hsh hX3 hX4 hX5 hrl hL3 hL4 hL5 hx0 hd0
        generalize w8.drewN q1 = wq at *
        go_wp2
        go_quiet (first | (go_at_call 9; exact Calls.quiet_of_same (HIN.out _)))
        go_wp2
        have HQE : Hid (∀ W, (∃ q2, W = wq.drewN q2) → ∃ q', W = w8.drewN q') := fun W h => by
          obtain ⟨q2, rfl⟩ := h
          exact HQ.out q2
        go_loopw [11] (fun i wr => ∃ i2 q2 : Nat, i2 ≤ (rowAt L y).length ∧ i = .int .i64 (i2 : Nat) ∧ wr = wq.drewN q2) (fun i _ => (rowAt L y).length - (intOf i).toNat)
        case atStart => exact ⟨0, nq, Nat.zero_le _, rfl, rfl⟩
        case round =>
          obtain ⟨i2, q2, hi2, rfl, rfl⟩ := hrel
          have HQ2 : Hid (∀ n, ∃ q', (wq.drewN q2).drewN n = wq.drewN q') := fun n => ⟨q2 + n, by simp [World.drewN_drewN]⟩
          have hxq2 : (wq.drewN q2).cell? ⟨w2.heap.size, 0, none⟩ = some (.slice (some ⟨bX, offX, none⟩) N.length cX) := hxq
          have hdq2 : (wq.drewN q2).cell? ⟨w.heap.size, 0, none⟩ = some (.slice (some ⟨bL, offL, none⟩) L.length co) := hdq
          have hXq2 : (wq.drewN q2).cell? ⟨bX, offX + k, none⟩ = some (.slice au (rowAt L y).length cu) := hXq
          have hLq2 : (wq.drewN q2).cell? ⟨bL, offL + y, none⟩ = some (.slice av (rowAt L y).length cv) := hLq
          have hck2 : (wq.drewN q2).cell? ⟨bN, offN + k, none⟩ = some (.int .i64 (y : Nat)) := hck
          have HHP2 : Hid ((wq.drewN q2).heap = w8.heap) := HHP.out
          clear hxq hdq hXq hLq hck HIN
          have HWI : Hid (∃ q2', wq.drewN q2 = wq.drewN q2') := ⟨q2, rfl⟩
          generalize wq.drewN q2 = wi at *
          by_cases hil : i2 < (rowAt L y).length
          · have hil' : (i2 : Int) < ((rowAt L y).length : Int) := by omega
            obtain ⟨bu, offu, rfl, hlu, _, hcu⟩ := (HIX.out.heap HHP2.out).open_at (k := i2) (by rw [List.length_map]; exact hil)
            obtain ⟨bv, offv, rfl, hlv, _, hcv⟩ := (HIL.out.heap HHP2.out).open_at hil
            rw [List.length_map] at hlu
            have hcu2 := hcu i2 (by rw [List.length_map]; exact hil)
            have hcv2 := hcv i2 hil
            rw [List.getElem?_map, List.getElem?_eq_getElem hil] at hcu2
            rw [List.getElem?_eq_getElem hil, Option.getD_some] at hcv2
            have hzN := HSH.out _ (List.getElem_mem hil)
            simp only [Option.map_some, Option.getD_some] at hcu2
            generalize (rowAt L y)[i2] = z at *
            have hpl := plc_lt hzN
            have hpb := plc_back hzN
            obtain ⟨p, hp⟩ : ∃ p : Nat, plc N z = (p : Int) := ⟨(plc N z).toNat, by omega⟩
            rw [hp] at hcu2 hpl hpb
            rw [Int.toNat_natCast] at hpb
            have hpN : p < N.length := by omega
            have hpi : (p : Int) < (N.length : Int) := by omega
            have hcp : wi.cell? ⟨bN, offN + p, none⟩ = some (.int .i64 z) := by
              have h := HCN.out p hpN
              rw [hpb, Option.getD_some] at h
              unfold World.cell? at h ⊢
              rw [HHP2.out]; exact h
            have HIP : Hid (∀ W, Calls Try.prog 9 #[.int .i64 (p : Nat), .int .i64 0, .int .i64 ((N.length : Int) - 1)] W fun e w' => e = .returned (.bool true) ∧ w' = W) := fun W => by
              have h := in_range (p : Nat) 0 ((N.length : Int) - 1) W
              rwa [decide_eq_true (show (0 : Int) ≤ (p : Nat) by omega), decide_eq_true (show ((p : Nat) : Int) ≤ (N.length : Int) - 1 by omega)] at h
            have hzz : (z != z) = false := by simp
            clear hcu hcv hzN hpb hp hpl
            go_wp2
            go_quiet (first | (go_at_call 9; exact Calls.quiet_of_same (HIP.out _)))
            go_wp2
            go_roundw
            case rel =>
              obtain ⟨q', hq'⟩ := HQ2.out nq
              exact ⟨i2 + 1, q', by omega, by go_num, hq'⟩
            case measure => simp [intOf]; omega
          · have hil' : ¬ (i2 : Int) < ((rowAt L y).length : Int) := by omega
            have HQ3 : Hid (∃ q', wi = w8.drewN q') := HQE.out _ HWI.out
            go_wp2
            go_roundw
            case rel =>
              obtain ⟨q', hq'⟩ := HQ3.out
              exact ⟨k + 1, q', by omega, by go_num, hq'⟩
            case measure => simp [intOf]; omega
      · have hlt' : ¬ (k : Int) < (N.length : Int) := by omega
        go_wp2
        go_ret
        exact ⟨rfl, below_drewN HB8.out.below _⟩
  · have HE : Hid (errV (chkH L R) = .iface 56 (.int .i64 (chkH L R))) := errV_pos h0
    rw [HE.out]
    unfold SweepIs at hS
    rw [if_neg h0] at hS
    obtain ⟨rfl, rfl, rfl⟩ := hS
    clear h0 hXr hYr
    go_wp2
    go_ret
    exact ⟨rfl, HB2.out.below.alloc HB2.out.below.size _⟩

theorem sweepClean_own : ownKnob Try.prog.godebug = none := by kernel_rfl
theorem sweepClean_laidOut : laidOutB Try.prog = true := by kernel_rfl

set_option maxRecDepth 100000 in
theorem sweepClean_lifted (os : Os) (started : os.Started) (H : Type) (enc : TypeId × Value → H) :
    ReturnsInHanded {} Try.checked os 5 .any (Rows.sweepCleanSpec.pre6 enc Try.prog Try.f5 Rows.sweepCleanRow.domain false) (Rows.sweepCleanSpec.post enc Try.prog Try.f5 false true false false) := by
  refine returnsInHanded_of_change (C := Try.checked) sweepClean_own started (by kernel_rfl) Try.func5
    (ChangeSpec.witness6 (enc := enc) (C := Try.checked) false ⟨#[], #[.agg #[.slice none 0 0, .slice none 0 0]], []⟩ 8 (by kernel_rfl) (by kernel_rfl) (by kernel_rfl) (by kernel_rfl)) ?_
  intro W base args ds gs before hval0 hW _ _
  have hval : ∀ (j : Nat) t v, Try.f5.params[j]? = some t → args[j]? = some v → Value.okWide Try.prog W .any base t v := hval0
  have hW' : DataW.Whole enc Try.prog Try.f5.params.toList Rows.sweepCleanSpec.vars false W args.toList ds gs before := hW
  obtain ⟨p, q, hA0, hV, rfl, hfz, hnd⟩ := hW
  have hA : DataW.TrodAll enc Try.prog W 0 (fun _ => true) true Try.f5.params.toList args.toList ds p := hA0
  rw [Try.params5] at hA hval
  obtain ⟨v0, vs0, d0, ds0, p0, q0, hargs, rfl, rfl, h0, r0⟩ := trodAll_cons hA
  obtain ⟨rfl, rfl, rfl⟩ := trodAll_nil r0
  obtain rfl : args = #[v0] := by cases args; simp_all
  obtain ⟨rfl, rfl⟩ := trodVars_none hV
  obtain ⟨l0, rt0, hl0, hc0⟩ := arg_heap (hval 0 25 v0 rfl rfl) h0
  clear hA0 hval0
  refine (swclean_any v0 l0 rt0 W hl0 hc0).mono fun e W' ⟨he, hb⟩ => ?_
  subst he
  exact ⟨_, rfl, law_post hW' hb sweepClean_laidOut rfl (by kernel_rfl) (by kernel_rfl) Try.underlying4 rfl rfl rfl⟩

theorem sweepClean_holds : Rows.SweepCleanSaid :=
  OpenClaim.holds_of_wide 5 Try.f5 rfl rfl rfl rfl rfl rfl rfl ⟨rfl, rfl, rfl, rfl, rfl⟩ rfl rfl rfl rfl rfl (by kernel_rfl) Try.func5 (by kernel_rfl)
    (of_decide_eq_true (by kernel_rfl)) (by unfold Func.isWrapper; first | (rw [if_pos (by decide +kernel)]; kernel_rfl) | (rw [if_neg (by decide +kernel)]; exact ⟨rfl, rfl⟩))
    (fun os started H enc _ => sweepClean_lifted os started H enc)
end Go.Proofs.Ytelmfccpcejdnaa
