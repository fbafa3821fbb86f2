/- CheneySame is proved: of whatever heap, in whatever memory and on every schedule, it returns true and leaves its argument as it was: the copy is the same heap, and all that can be come to is there, once. No condition. -/
import Derived.Test.YtennlinnclcngaaYFact
import Derived.Test.YtennlinnclcngaaYLaw
import Derived.Test.YtennlinnclcngaaInRange
import Derived.Test.YtennlinnclcngaaHasAt
import Derived.Test.YtennlinnclcngaaRefSet
import Derived.Test.YtennlinnclcngaaNumL
import Derived.Test.YtennlinnclcngaaArgHeap
namespace Go.Proofs.Ytennlinnclcngaa
set_option maxRecDepth 100000
open Go.ChangeShapes Go.WideShapes Go.ChangeAt Go.RowKit Go.Sort

set_option maxHeartbeats 4000000 in
theorem ysame_any (v : Value) (L : List (List Int)) (R : List Int) (w : World) (hv : IsHeap w v L R) (_ : CameH w v R) :
    Calls Try.prog 3 #[v] w fun e w' => e = .returned (.bool true) ∧ Below w.heap.size w w' := by
  obtain ⟨ao, co, ar, cr, rfl, h1, h2⟩ := hv.form
  have HBX : Hid (Boxed w (w.alloc (.cells #[.slice ao L.length co, .slice ar R.length cr] 25)) w.heap.size ao co ar cr L R) := boxed h1 h2 _
  clear hv h1 h2
  go_enter Try.func3, Try.ntmps3
  go_wp2_with (go_at_call 5; fail)
  generalize w.alloc (.cells #[.slice ao L.length co, .slice ar R.length cr] 25) = W at *
  refine (yfact_any _).mono ?_
  rintro e w1 ⟨rfl, hb1⟩
  have HB1 : Hid (Boxed w w1 w.heap.size ao co ar cr L R) := HBX.out.later hb1
  clear HBX hb1
  have hd0 : w1.cell? ⟨w.heap.size, 0, none⟩ = some (.slice ao L.length co) := HB1.out.outs
  have hd1 : w1.cell? ⟨w.heap.size, 1, none⟩ = some (.slice ar R.length cr) := HB1.out.roots
  go_wp2_with (go_at_call 6; fail)
  refine (ycopy_any _ L R _ HB1.out.isHeap).mono ?_
  rintro e w2 ⟨⟨vl, vx, rfl, N, X, Y, hN, hX, hS⟩, hb2⟩
  have HB2 : Hid (Boxed w w2 w.heap.size ao co ar cr L R) := HB1.out.later hb2
  have HN2 : Hid (IsInts w2 vl N) := hN
  obtain ⟨aX, cX, aY, cY, rfl, hXr, hYr⟩ := hX.form
  obtain ⟨aN, cN, rfl, hcN, _⟩ := hN.opened
  unfold maxLen at hcN
  have HBX : Hid (Boxed w2 (w2.alloc (.cells #[.slice aX X.length cX, .slice aY Y.length cY] 25)) w2.heap.size aX cX aY cY X Y) := boxed hXr hYr 25
  have HB3 : Hid (Boxed w (w2.alloc (.cells #[.slice aX X.length cX, .slice aY Y.length cY] 25)) w.heap.size ao co ar cr L R) := HB2.out.later HBX.out.below
  have HN3 : Hid (IsInts (w2.alloc (.cells #[.slice aX X.length cX, .slice aY Y.length cY] 25)) (.slice aN N.length cN) N) := HN2.out.below HBX.out.below
  clear hd0 hd1 HB1 hb2 hN hX hXr hYr HB2 HN2
  have hd0 : (w2.alloc (.cells #[.slice aX X.length cX, .slice aY Y.length cY] 25)).cell? ⟨w.heap.size, 0, none⟩ = some (.slice ao L.length co) := HB3.out.outs
  have hd1 : (w2.alloc (.cells #[.slice aX X.length cX, .slice aY Y.length cY] 25)).cell? ⟨w.heap.size, 1, none⟩ = some (.slice ar R.length cr) := HB3.out.roots
  go_wp2_with (go_at_call 7; fail)
  generalize w2.alloc (.cells #[.slice aX X.length cX, .slice aY Y.length cY] 25) = w3 at *
  refine (reach_any _ L R _ HB3.out.isHeap).mono ?_
  rintro e w8 ⟨⟨n, rfl, hn⟩, hb8⟩
  have HB8 : Hid (Boxed w w8 w.heap.size ao co ar cr L R) := HB3.out.later hb8
  have HX8 : Hid (Boxed w2 w8 w2.heap.size aX cX aY cY X Y) := HBX.out.later hb8
  have HN8 : Hid (IsInts w8 (.slice aN N.length cN) N) := HN3.out.below hb8
  clear hd0 hd1 HB3 hb8 HBX HN3
  by_cases h0 : chkH L R = 0
  · have HF : Hid (FineH L R) := chkH_zero.1 h0
    have hl12 := HF.out.few
    unfold CopyIs at hS
    rw [if_pos h0] at hS
    obtain ⟨hFr, rfl, rfl⟩ := hS
    unfold ReachIs at hn
    rw [if_pos h0] at hn
    have hn16 : n < 65536 := hn.1
    have HI : Hid (Inn L N) := hFr.inn HF.out
    have HS : Hid (Shut L R N) := from_shut hFr
    have HSN : Hid (setN N = n) := num_come HF.out HF.out.root hFr.mem.1 hFr.mem.2 hn
    have HN16 : Hid (allIn N) := fun x hx => by have := HI.out.2 x hx; omega
    have hNL := HI.out.few
    have HXL : Hid ((anewO L N).length = N.length) := anew_length L N
    have HYL : Hid ((R.map (plc N)).length = R.length) := List.length_map _
    have hR12 := HF.out.roots
    have HRK : Hid (∀ k (hk : k < N.length), rowAt (anewO L N) k = (rowAt L (N[k]).toNat).map (plc N)) := fun k hk => by
      have hy := HI.out.2 _ (List.getElem_mem hk)
      have e : gOf L (N[k]) = rowAt L (N[k]).toNat := by unfold gOf; rw [if_pos hy.1]; rfl
      rw [← e]
      unfold rowAt anewO
      rw [List.getElem?_map, List.getElem?_eq_getElem hk]; rfl
    rw [h0, show errV 0 = .nilIface from rfl]
    rw [HXL.out, HYL.out]
    clear h0 hFr hn
    generalize anewO L N = X at *
    have hx0 : w8.cell? ⟨w2.heap.size, 0, none⟩ = some (.slice aX N.length cX) := by rw [← HXL.out]; exact HX8.out.outs
    have hx1 : w8.cell? ⟨w2.heap.size, 1, none⟩ = some (.slice aY R.length cY) := by rw [← HYL.out]; exact HX8.out.roots
    have hd0 : w8.cell? ⟨w.heap.size, 0, none⟩ = some (.slice ao L.length co) := HB8.out.outs
    have hd1 : w8.cell? ⟨w.heap.size, 1, none⟩ = some (.slice ar R.length cr) := HB8.out.roots
    have hNm : IntKind.i64.wrap ((N.length : Int) - 1) = (N.length : Int) - 1 := by rw [IntKind.wrap_i64]; omega
    have hLm : IntKind.i64.wrap ((L.length : Int) - 1) = (L.length : Int) - 1 := by rw [IntKind.wrap_i64]; omega
    have hnN : ((N.length : Int) != N.length) = false := by simp
    have hnR : ((R.length : Int) != R.length) = false := by simp
    have hgt : ¬ (L.length : Int) < (N.length : Int) := by omega
    go_wp2
    go_loopw [9] (fun i wr => ∃ k q : Nat, k ≤ N.length ∧ i = .int .i64 (k : Nat) ∧ wr = w8.drewN q) (fun i _ => N.length - (intOf i).toNat)
    case atStart => exact ⟨0, 0, Nat.zero_le _, rfl, rfl⟩
    case round =>
      obtain ⟨k, q1, hk, rfl, rfl⟩ := hrel
      have HQ : Hid (∀ n, ∃ q', (w8.drewN q1).drewN n = w8.drewN q') := fun n => ⟨q1 + n, by simp [World.drewN_drewN]⟩
      by_cases hlt : k < N.length
      · have hlt' : (k : Int) < (N.length : Int) := by omega
        obtain ⟨bN, offN, rfl, hlcN, hbsN, hcellN⟩ := HN8.out.open_at hlt
        have HCN : Hid (∀ j, j < N.length → w8.cell? ⟨bN, offN + j, none⟩ = some (.int .i64 (N[j]?.getD 0))) := hcellN
        have hck : (w8.drewN q1).cell? ⟨bN, offN + k, none⟩ = some (.int .i64 (N[k]?.getD 0)) := hcellN k hlt
        have hyr := HI.out.2 _ (List.getElem_mem hlt)
        have hrk := HRK.out k hlt
        have hsh := HS.out.outs _ (List.getElem_mem hlt)
        have hnt := nodup_take HI.out.1 hlt
        have HPRE : Hid (IsInts (w8.drewN q1) (.slice (some ⟨bN, offN, none⟩) k cN) (N.take k)) := (isInts_prefix HN8.out rfl hk).heap rfl
        rw [List.getElem?_eq_getElem hlt, Option.getD_some] at hck
        generalize N[k] = y at *
        obtain ⟨y, rfl⟩ : ∃ t : Nat, y = (t : Int) := ⟨y.toNat, by omega⟩
        have HCO : Hid ((N.take k).contains (y : Int) = false) := by
          unfold Hid
          rw [Bool.eq_false_iff]
          exact fun h => hnt (List.contains_iff_mem.1 h)
        have HHA : Hid (∀ W : World, W.heap = (w8.drewN q1).heap → Calls Try.prog 9 #[.slice (some ⟨bN, offN, none⟩) k cN, .int .i64 (y : Nat)] W fun e w' => e = .returned (.bool false) ∧ w' = W) := fun W hW => has_at HPRE.out HCO.out W hW
        rw [Int.toNat_natCast] at hrk
        rw [gOf_at] at hsh
        have HSH : Hid (∀ z, z ∈ rowAt L y → z ∈ N) := hsh
        have hyl : y < L.length := by omega
        have hyi : (y : Int) < (L.length : Int) := by omega
        obtain ⟨bX, offX, hX1, hX2, hX3, au, cu, hX4, hX5, hX6, hX7⟩ := (show IsRows w8 (.slice aX N.length cX) X by have h := HX8.out.rows; rw [HXL.out] at h; exact h).at (k := k) (by rw [HXL.out]; exact hlt)
        subst hX1
        rw [HXL.out] at hX2
        have hrl : (rowAt X k).length = (rowAt L y).length := by rw [hrk, List.length_map]
        rw [hrl] at hX4 hX5
        rw [hrk] at hX5
        have HIX : Hid (IsInts w8 (.slice au (rowAt L y).length cu) ((rowAt L y).map (plc N))) := hX5
        obtain ⟨bL, offL, rfl, hL2, hL3, av, cv, hL4, hL5, hL6, hL7⟩ := HB8.out.rows.at hyl
        have HIL : Hid (IsInts w8 (.slice av (rowAt L y).length cv) (rowAt L y)) := hL5
        have hxq : (w8.drewN q1).cell? ⟨w2.heap.size, 0, none⟩ = some (.slice (some ⟨bX, offX, none⟩) N.length cX) := hx0
        have hdq : (w8.drewN q1).cell? ⟨w.heap.size, 0, none⟩ = some (.slice (some ⟨bL, offL, none⟩) L.length co) := hd0
        have hXq : (w8.drewN q1).cell? ⟨bX, offX + k, none⟩ = some (.slice au (rowAt L y).length cu) := hX4
        have hLq : (w8.drewN q1).cell? ⟨bL, offL + y, none⟩ = some (.slice av (rowAt L y).length cv) := hL4
        have HIN : Hid (∀ W, Calls Try.prog 8 #[.int .i64 (y : Nat), .int .i64 0, .int .i64 ((L.length : Int) - 1)] W fun e w' => e = .returned (.bool true) ∧ w' = W) := fun W => by
          have h := in_range (y : Nat) 0 ((L.length : Int) - 1) W
          rwa [decide_eq_true (show (0 : Int) ≤ (y : Nat) by omega), decide_eq_true (show ((y : Nat) : Int) ≤ (L.length : Int) - 1 by omega)] at h
        have hnn : (((rowAt L y).length : Int) != (rowAt L y).length) = false := by simp
        have h4 : (rowAt L y).length ≤ 4 := HF.out.outs _ (rowAt_mem hyl)
        have HHP : Hid ((w8.drewN q1).heap = w8.heap) := rfl
        clear hcellN hyr hrk hsh hX3 hX4 hX5 hrl hL3 hL4 hL5 hx0 hd0 hx1 hd1 hnt HPRE HCO
        generalize w8.drewN q1 = wq at *
        go_wp2
        go_quiet (first | (go_at_call 8; exact Calls.quiet_of_same (HIN.out _)) | (go_at_call 9; exact Calls.quiet_of_same (HHA.out _ (by rfl))))
        go_wp2
        have HQE : Hid (∀ W, (∃ q2, W = wq.drewN q2) → ∃ q', W = w8.drewN q') := fun W h => by
          obtain ⟨q2, rfl⟩ := h
          exact HQ.out q2
        go_loopw [10] (fun i wr => ∃ i2 q2 : Nat, i2 ≤ (rowAt L y).length ∧ i = .int .i64 (i2 : Nat) ∧ wr = wq.drewN q2) (fun i _ => (rowAt L y).length - (intOf i).toNat)
        case atStart => exact ⟨0, nq, Nat.zero_le _, rfl, rfl⟩
        case round =>
          obtain ⟨i2, q2, hi2, rfl, rfl⟩ := hrel
          have HQ2 : Hid (∀ n, ∃ q', (wq.drewN q2).drewN n = wq.drewN q') := fun n => ⟨q2 + n, by simp [World.drewN_drewN]⟩
          have hxq2 : (wq.drewN q2).cell? ⟨w2.heap.size, 0, none⟩ = some (.slice (some ⟨bX, offX, none⟩) N.length cX) := hxq
          have hdq2 : (wq.drewN q2).cell? ⟨w.heap.size, 0, none⟩ = some (.slice (some ⟨bL, offL, none⟩) L.length co) := hdq
          have hXq2 : (wq.drewN q2).cell? ⟨bX, offX + k, none⟩ = some (.slice au (rowAt L y).length cu) := hXq
          have hLq2 : (wq.drewN q2).cell? ⟨bL, offL + y, none⟩ = some (.slice av (rowAt L y).length cv) := hLq
          have hck2 : (wq.drewN q2).cell? ⟨bN, offN + k, none⟩ = some (.int .i64 (y : Nat)) := hck
          have HHP2 : Hid ((wq.drewN q2).heap = w8.heap) := HHP.out
          clear hxq hdq hXq hLq hck HIN HHA
          have HWI : Hid (∃ q2', wq.drewN q2 = wq.drewN q2') := ⟨q2, rfl⟩
          generalize wq.drewN q2 = wi at *
          by_cases hil : i2 < (rowAt L y).length
          · have hil' : (i2 : Int) < ((rowAt L y).length : Int) := by omega
            obtain ⟨bu, offu, rfl, hlu, _, hcu⟩ := (HIX.out.heap HHP2.out).open_at (k := i2) (by rw [List.length_map]; exact hil)
            obtain ⟨bv, offv, rfl, hlv, _, hcv⟩ := (HIL.out.heap HHP2.out).open_at hil
            rw [List.length_map] at hlu
            have hcu2 := hcu i2 (by rw [List.length_map]; exact hil)
            have hcv2 := hcv i2 hil
            rw [List.getElem?_map, List.getElem?_eq_getElem hil] at hcu2
            rw [List.getElem?_eq_getElem hil, Option.getD_some] at hcv2
            have hzN := HSH.out _ (List.getElem_mem hil)
            simp only [Option.map_some, Option.getD_some] at hcu2
            generalize (rowAt L y)[i2] = z at *
            have hpl := plc_lt hzN
            have hpb := plc_back hzN
            obtain ⟨p, hp⟩ : ∃ p : Nat, plc N z = (p : Int) := ⟨(plc N z).toNat, by omega⟩
            rw [hp] at hcu2 hpl hpb
            rw [Int.toNat_natCast] at hpb
            have hpN : p < N.length := by omega
            have hpi : (p : Int) < (N.length : Int) := by omega
            have hcp : wi.cell? ⟨bN, offN + p, none⟩ = some (.int .i64 z) := by
              have h := HCN.out p hpN
              rw [hpb, Option.getD_some] at h
              unfold World.cell? at h ⊢
              rw [HHP2.out]; exact h
            have HIP : Hid (∀ W, Calls Try.prog 8 #[.int .i64 (p : Nat), .int .i64 0, .int .i64 ((N.length : Int) - 1)] W fun e w' => e = .returned (.bool true) ∧ w' = W) := fun W => by
              have h := in_range (p : Nat) 0 ((N.length : Int) - 1) W
              rwa [decide_eq_true (show (0 : Int) ≤ (p : Nat) by omega), decide_eq_true (show ((p : Nat) : Int) ≤ (N.length : Int) - 1 by omega)] at h
            have hzz : (z != z) = false := by simp
            clear hcu hcv hzN hpb hp hpl
            go_wp2
            go_quiet (first | (go_at_call 8; exact Calls.quiet_of_same (HIP.out _)))
            go_wp2
            go_roundw
            case rel =>
              obtain ⟨q', hq'⟩ := HQ2.out nq
              exact ⟨i2 + 1, q', by omega, by go_num, hq'⟩
            case measure => simp [intOf]; omega
          · have hil' : ¬ (i2 : Int) < ((rowAt L y).length : Int) := by omega
            have HQ3 : Hid (∃ q', wi = w8.drewN q') := HQE.out _ HWI.out
            go_wp2
            go_roundw
            case rel =>
              obtain ⟨q', hq'⟩ := HQ3.out
              exact ⟨k + 1, q', by omega, by go_num, hq'⟩
            case measure => simp [intOf]; omega
      · have hlt' : ¬ (k : Int) < (N.length : Int) := by omega
        have hx1q : (w8.drewN q1).cell? ⟨w2.heap.size, 1, none⟩ = some (.slice aY R.length cY) := hx1
        have hd1q : (w8.drewN q1).cell? ⟨w.heap.size, 1, none⟩ = some (.slice ar R.length cr) := hd1
        have HHP : Hid ((w8.drewN q1).heap = w8.heap) := rfl
        have HB9 : Hid (Below w.heap.size w (w8.drewN q1)) := below_drewN HB8.out.below _
        have HN9 : Hid (IsInts (w8.drewN q1) (.slice aN N.length cN) N) := HN8.out.heap rfl
        have HY9 : Hid (IsInts (w8.drewN q1) (.slice aY R.length cY) (R.map (plc N))) := by
          have h := HX8.out.ints
          rw [HYL.out] at h
          exact h.heap rfl
        have HR9 : Hid (IsInts (w8.drewN q1) (.slice ar R.length cr) R) := HB8.out.ints.heap rfl
        clear hx0 hx1 hd0 hd1 HQ
        generalize w8.drewN q1 = w9 at *
        go_wp2
        go_loopw [11] (fun i wr => ∃ k q : Nat, k ≤ R.length ∧ i = .int .i64 (k : Nat) ∧ wr = w9.drewN q) (fun i _ => R.length - (intOf i).toNat)
        case atStart => exact ⟨0, 0, Nat.zero_le _, rfl, rfl⟩
        case round =>
          obtain ⟨k2, q2, hk2, rfl, rfl⟩ := hrel
          have HQ : Hid (∀ n, ∃ q', (w9.drewN q2).drewN n = w9.drewN q') := fun n => ⟨q2 + n, by simp [World.drewN_drewN]⟩
          have hx1r : (w9.drewN q2).cell? ⟨w2.heap.size, 1, none⟩ = some (.slice aY R.length cY) := hx1q
          have hd1r : (w9.drewN q2).cell? ⟨w.heap.size, 1, none⟩ = some (.slice ar R.length cr) := hd1q
          have HHQ : Hid ((w9.drewN q2).heap = w9.heap) := rfl
          have HBQ : Hid (Below w.heap.size w (w9.drewN q2)) := below_drewN HB9.out _
          clear hx1q hd1q
          generalize w9.drewN q2 = wi at *
          by_cases hil : k2 < R.length
          · have hil' : (k2 : Int) < (R.length : Int) := by omega
            obtain ⟨bu, offu, rfl, hlu, _, hcu⟩ := (HY9.out.heap HHQ.out).open_at (k := k2) (by rw [List.length_map]; exact hil)
            obtain ⟨bv, offv, rfl, hlv, _, hcv⟩ := (HR9.out.heap HHQ.out).open_at hil
            rw [List.length_map] at hlu
            have hcu2 := hcu k2 (by rw [List.length_map]; exact hil)
            have hcv2 := hcv k2 hil
            rw [List.getElem?_map, List.getElem?_eq_getElem hil] at hcu2
            rw [List.getElem?_eq_getElem hil, Option.getD_some] at hcv2
            have hzN := HS.out.root _ (List.getElem_mem hil)
            simp only [Option.map_some, Option.getD_some] at hcu2
            generalize R[k2] = z at *
            have hpl := plc_lt hzN
            have hpb := plc_back hzN
            obtain ⟨p, hp⟩ : ∃ p : Nat, plc N z = (p : Int) := ⟨(plc N z).toNat, by omega⟩
            rw [hp] at hcu2 hpl hpb
            rw [Int.toNat_natCast] at hpb
            have hpN : p < N.length := by omega
            have hpi : (p : Int) < (N.length : Int) := by omega
            obtain ⟨bN, offN, rfl, hlcN, _, hcN2⟩ := (HN9.out.heap HHQ.out).open_at hpN
            have hcp := hcN2 p hpN
            rw [hpb, Option.getD_some] at hcp
            have HIP : Hid (∀ W, Calls Try.prog 8 #[.int .i64 (p : Nat), .int .i64 0, .int .i64 ((N.length : Int) - 1)] W fun e w' => e = .returned (.bool true) ∧ w' = W) := fun W => by
              have h := in_range (p : Nat) 0 ((N.length : Int) - 1) W
              rwa [decide_eq_true (show (0 : Int) ≤ (p : Nat) by omega), decide_eq_true (show ((p : Nat) : Int) ≤ (N.length : Int) - 1 by omega)] at h
            have hzz : (z != z) = false := by simp
            clear hcu hcv hzN hpb hp hpl hcN2
            go_wp2
            go_quiet (first | (go_at_call 8; exact Calls.quiet_of_same (HIP.out _)))
            go_wp2
            go_roundw
            case rel =>
              obtain ⟨q', hq'⟩ := HQ.out nq
              exact ⟨k2 + 1, q', by omega, by go_num, hq'⟩
            case measure => simp [intOf]; omega
          · have hil' : ¬ (k2 : Int) < (R.length : Int) := by omega
            have HCQ : Hid (IsInts wi (.slice aN N.length cN) N) := HN9.out.heap HHQ.out
            have hnnn : ((n : Int) == n) = true := by simp
            go_wp2_with (go_at_call 10; go_must (refine (refset_any _ N _ HCQ.out HN16.out (by omega)).mono ?_; rintro e w' ⟨rfl, hw⟩; have hw := hw.symm; subst hw; rw [HSN.out]))
            go_ret
            exact ⟨rfl, HBQ.out⟩
  · have HE : Hid (errV (chkH L R) = .iface 47 (.int .i64 (chkH L R))) := errV_pos h0
    rw [HE.out]
    unfold CopyIs at hS
    rw [if_neg h0] at hS
    obtain ⟨rfl, rfl, rfl⟩ := hS
    clear h0 hn
    go_wp2
    go_ret
    exact ⟨rfl, HB8.out.below⟩

theorem cheneySame_own : ownKnob Try.prog.godebug = none := by kernel_rfl
theorem cheneySame_laidOut : laidOutB Try.prog = true := by kernel_rfl

set_option maxRecDepth 100000 in
theorem cheneySame_lifted (os : Os) (started : os.Started) (H : Type) (enc : TypeId × Value → H) :
    ReturnsInHanded {} Try.checked os 3 .any (Rows.cheneySameSpec.pre6 enc Try.prog Try.f3 Rows.cheneySameRow.domain false) (Rows.cheneySameSpec.post enc Try.prog Try.f3 false true false false) := by
  refine returnsInHanded_of_change (C := Try.checked) cheneySame_own started (by kernel_rfl) Try.func3
    (ChangeSpec.witness6 (enc := enc) (C := Try.checked) false ⟨#[], #[.agg #[.slice none 0 0, .slice none 0 0]], []⟩ 8 (by kernel_rfl) (by kernel_rfl) (by kernel_rfl) (by kernel_rfl)) ?_
  intro W base args ds gs before hval0 hW _ _
  have hval : ∀ (j : Nat) t v, Try.f3.params[j]? = some t → args[j]? = some v → Value.okWide Try.prog W .any base t v := hval0
  have hW' : DataW.Whole enc Try.prog Try.f3.params.toList Rows.cheneySameSpec.vars false W args.toList ds gs before := hW
  obtain ⟨p, q, hA0, hV, rfl, hfz, hnd⟩ := hW
  have hA : DataW.TrodAll enc Try.prog W 0 (fun _ => true) true Try.f3.params.toList args.toList ds p := hA0
  rw [Try.params3] at hA hval
  obtain ⟨v0, vs0, d0, ds0, p0, q0, hargs, rfl, rfl, h0, r0⟩ := trodAll_cons hA
  obtain ⟨rfl, rfl, rfl⟩ := trodAll_nil r0
  obtain rfl : args = #[v0] := by cases args; simp_all
  obtain ⟨rfl, rfl⟩ := trodVars_none hV
  obtain ⟨l0, rt0, hl0, hc0⟩ := arg_heap (hval 0 25 v0 rfl rfl) h0
  clear hA0 hval0
  refine (ysame_any v0 l0 rt0 W hl0 hc0).mono fun e W' ⟨he, hb⟩ => ?_
  subst he
  exact ⟨_, rfl, law_post hW' hb cheneySame_laidOut rfl (by kernel_rfl) (by kernel_rfl) Try.underlying4 rfl rfl rfl⟩

theorem cheneySame_holds : Rows.CheneySameSaid :=
  OpenClaim.holds_of_wide 3 Try.f3 rfl rfl rfl rfl rfl rfl rfl ⟨rfl, rfl, rfl, rfl, rfl⟩ rfl rfl rfl rfl rfl (by kernel_rfl) Try.func3 (by kernel_rfl)
    (of_decide_eq_true (by kernel_rfl)) (by unfold Func.isWrapper; first | (rw [if_pos (by decide +kernel)]; kernel_rfl) | (rw [if_neg (by decide +kernel)]; exact ⟨rfl, rfl⟩))
    (fun os started H enc _ => cheneySame_lifted os started H enc)
end Go.Proofs.Ytennlinnclcngaa
