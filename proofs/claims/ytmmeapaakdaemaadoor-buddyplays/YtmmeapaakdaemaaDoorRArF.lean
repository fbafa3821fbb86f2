/- The walk of the document's Free (larderwickref2): free blocks of an order. -/
import Derived.Test.YtmmeapaakdaemaaDoorRAr
namespace Go.Proofs.YtmmeapaakdaemaaDoor
open Go.RowKit Go.Maps Go.Sort

/-- The free blocks among the first j of an order. -/
def outJ (L : List (Nat × Nat)) (o j : Nat) : List Nat := ((List.range j).map (· * 2 ^ o)).filter (maxT L · o)
theorem outJ_succ (L : List (Nat × Nat)) (o j : Nat) : outJ L o (j+1) = outJ L o j ++ (if maxT L (j * 2 ^ o) o = true then [j * 2 ^ o] else []) := by
  unfold outJ
  rw [List.range_succ, List.map_append, List.filter_append, List.map_singleton, List.filter_cons, List.filter_nil]
theorem outJ_all (L : List (Nat × Nat)) (o : Nat) : outJ L o (64 / 2 ^ o) = freeL L o := rfl
theorem outJ_most (L : List (Nat × Nat)) (o j : Nat) : (outJ L o j).length ≤ j := by
  unfold outJ
  refine Nat.le_trans (List.length_filter_le _ _) ?_
  rw [List.length_map, List.length_range]
  exact Nat.le_refl _
theorem grid {o : Nat} (ho : o ≤ 6) : 64 / 2 ^ o * 2 ^ o = 64 := by
  rcases six ho with rfl | rfl | rfl | rfl | rfl | rfl | rfl <;> decide

set_option maxRecDepth 100000 in
set_option maxHeartbeats 4000000 in
theorem rfreeL_any (L : List (Nat × Nat)) (hO : Okay L) (v : Value) (B : Nat) (k : Int) (w : World) (hv : IsAr w B v L) :
    Calls Tryd.prog 20 #[v, .int .i64 k] w fun e w' => ∃ u, e = .returned u ∧ OwnI w' w.heap.size u (freeI L k) ∧ Below w.heap.size w w' := by
  obtain ⟨va, vo, rfl, h1, h2⟩ := hv
  have HB1 : Hid (Below w.heap.size w (w.alloc (.cells #[va, vo] 44))) := (Below.refl _ w).alloc (Nat.le_refl _) _
  have HC1 : Hid ((w.alloc (.cells #[va, vo] 44)).heap[w.heap.size]? = some (.cells #[va, vo] 44 (0, 0))) := heap_alloc_new w _
  have HS1 : Hid ((w.alloc (.cells #[va, vo] 44)).heap.size = w.heap.size + 1) := by unfold Hid; simp
  have HA1 : Hid (IsAr (w.alloc (.cells #[va, vo] 44)) B (.agg #[va, vo]) L) := ⟨va, vo, rfl, World.ownsRow.alloc h1 _, World.ownsRow.alloc h2 _⟩
  have HOK : Hid (Okay L) := hO
  clear h1 h2 hO
  by_cases hk : k < 0 ∨ 6 < k
  · have HI : Hid (freeI L k = []) := if_pos hk
    have hb : (decide (k < 0) || decide (6 < k)) = true := by simpa using hk
    by_cases hk0 : k < 0
    · clear hk
      go_enter Tryd.func20, Tryd.ntmps20
      go_wp2
      go_ret
      exact ⟨_, rfl, by rw [HI.out]; exact OwnI.nil _ _, HB1.out⟩
    · have hk6 : 6 < k := by omega
      clear hk
      go_enter Tryd.func20, Tryd.ntmps20
      go_wp2
      go_ret
      exact ⟨_, rfl, by rw [HI.out]; exact OwnI.nil _ _, HB1.out⟩
  · obtain ⟨o, rfl⟩ : ∃ o : Nat, k = o := ⟨k.toNat, by omega⟩
    have ho : o ≤ 6 := by omega
    have ho0 : ¬ (o : Int) < 0 := by omega
    have ho6 : ¬ (6 : Int) < (o : Int) := by omega
    have HI : Hid (freeI L (o : Nat) = (freeL L o).map fun x : Nat => (x : Int)) := if_neg hk
    obtain ⟨i0, hi, hz0, hz1, hz2⟩ := info_parts Tryd.info3
    have HI0 : Hid (Tryd.prog.info? 3 = some i0 ∧ i0.zero = some (.int .i64 0) ∧ i0.size = 1 ∧ i0.bytes = 8) := ⟨hi, hz0, hz1, hz2⟩
    clear hk hi hz0 hz1 hz2
    have hg := grid ho
    have hpw := pow_most (show o ≤ 7 by omega)
    have hpp := pow_pos2 o
    have HOA : Hid (outJ L o (64 / 2 ^ o) = freeL L o) := outJ_all L o
    go_enter Tryd.func20, Tryd.ntmps20
    go_wp2
    generalize w.alloc (.cells #[va, vo] 44) = w1 at *
    have HZ : Hid ((0 : Int) = ((0 * 2 ^ o : Nat) : Int)) := by simp [Hid]
    go_loopw [5, 6, 7] (fun v5 v6 _ wr => ∃ j : Nat, j ≤ 64 / 2 ^ o ∧ v6 = .int .i64 ((j * 2 ^ o : Nat)) ∧ OwnI wr w1.heap.size v5 ((outJ L o j).map fun x : Nat => (x : Int)) ∧ Below w1.heap.size w1 wr) (fun _ v6 _ _ => 64 - (RowKit.intOf v6).toNat)
    case atStart => exact ⟨0, Nat.zero_le _, by rw [HZ.out], OwnI.nil _ _, Below.refl _ _⟩
    case round =>
      obtain ⟨j, hj, rfl, hown, hb⟩ := hrel
      have HR : Hid (OwnI wr w1.heap.size u5 ((outJ L o j).map fun x : Nat => (x : Int))) := hown
      have HB2 : Hid (Below w1.heap.size w1 wr) := hb
      clear hown hb
      have HCR : Hid (wr.heap[w.heap.size]? = some (.cells #[va, vo] 44 (0, 0))) := by
        unfold Hid
        rw [HB2.out.block _ (by have := HS1.out; omega)]
        exact HC1.out
      have HAR : Hid (IsAr wr B (.agg #[va, vo]) L) := HA1.out.later HB2.out
      by_cases hjn : j = 64 / 2 ^ o
      · have HR2 : Hid (OwnI wr w1.heap.size u5 ((freeL L o).map fun x : Nat => (x : Int))) := by
          have := HR.out
          rwa [hjn, HOA.out] at this
        have h64 : j * 2 ^ o = 64 := by rw [hjn]; exact hg
        have hlt : ¬ ((j * 2 ^ o : Nat) : Int) < 64 := by omega
        have HW1 : Hid (w.heap.size ≤ w1.heap.size) := HB1.out.size
        clear hjn h64 HR
        generalize j * 2 ^ o = q at *
        go_wp2
        go_ret
        exact ⟨_, rfl, by rw [HI.out]; exact ownI_mono HR2.out HW1.out, HB1.out.trans (HB2.out.mono HW1.out)⟩
      · have hj' : j < 64 / 2 ^ o := by omega
        have hq64 : (j + 1) * 2 ^ o ≤ 64 := by
          rw [← hg]
          exact Nat.mul_le_mul_right _ hj'
        rw [Nat.add_mul, Nat.one_mul] at hq64
        have hbq : Blk (j * 2 ^ o) o := ⟨ho, Nat.mul_mod_left _ _, by omega⟩
        have HNX : Hid ((j + 1) * 2 ^ o = j * 2 ^ o + 2 ^ o) := by unfold Hid; rw [Nat.add_mul, Nat.one_mul]
        have HOS := outJ_succ L o j
        have hom := outJ_most L o j
        have hn64 : 64 / 2 ^ o ≤ 64 := Nat.div_le_self _ _
        have HP0 : Hid (∀ w0 : World, Calls Tryd.prog 11 #[.int .i64 ((o : Nat) : Int)] w0 fun e w' => e = .returned (.int .i64 ((2 ^ o : Nat))) ∧ w' = w0) := pow_int o (by omega)
        have HP1 : Hid (∀ w0 : World, Calls Tryd.prog 11 #[.int .i64 ((o : Int) + 1)] w0 fun e w' => e = .returned (.int .i64 ((2 ^ (o+1) : Nat))) ∧ w' = w0) := pow_int (o+1) (by omega)
        have hp2 := pow_most (show o + 1 ≤ 7 by omega)
        have hp20 := pow_pos2 (o+1)
        have HUP : Hid (up (j * 2 ^ o) o = j * 2 ^ o - j * 2 ^ o % 2 ^ (o+1)) := rfl
        have hupl : j * 2 ^ o % 2 ^ (o+1) ≤ j * 2 ^ o := Nat.mod_le _ _
        have HMX : Hid (maxT L (j * 2 ^ o) o = (freeT L (j * 2 ^ o) o && (o == 6 || !freeT L (up (j * 2 ^ o) o) (o+1)))) := rfl
        have hui : ((j * 2 ^ o : Nat) : Int) - ((j * 2 ^ o : Nat) : Int) % ((2 ^ (o+1) : Nat) : Int) = (up (j * 2 ^ o) o : Nat) := by
          rw [HUP.out, ← Int.natCast_emod]; omega
        have hul : up (j * 2 ^ o) o ≤ 64 := by rw [HUP.out]; omega
        have hlo : ((outJ L o j).map fun x : Nat => (x : Int)).length = (outJ L o j).length := List.length_map _
        have HOY : Hid (maxT L (j * 2 ^ o) o = true → ((outJ L o (j+1)).map fun x : Nat => (x : Int)) = ((outJ L o j).map fun x : Nat => (x : Int)) ++ [((j * 2 ^ o : Nat) : Int)]) := by
          intro h
          rw [HOS, if_pos h, List.map_append]
          rfl
        have HON : Hid (maxT L (j * 2 ^ o) o = false → ((outJ L o (j+1)).map fun x : Nat => (x : Int)) = ((outJ L o j).map fun x : Nat => (x : Int))) := by
          intro h
          rw [HOS, if_neg (by simp [h]), List.append_nil]
        have hlt : ((j * 2 ^ o : Nat) : Int) < 64 := by omega
        clear HOS HUP hupl hbq HI HOA
        generalize ((outJ L o j).map fun x : Nat => (x : Int)) = lo at *
        generalize (outJ L o j).length = m at *
        have HLO : Hid (lo.length = m) := hlo
        clear hlo
        generalize up (j * 2 ^ o) o = u at *
        generalize hqe : j * 2 ^ o = q at *
        have HQE : Hid (j * 2 ^ o = q) := hqe
        clear hqe
        generalize (2 ^ o : Nat) = pw at *
        generalize (2 ^ (o+1) : Nat) = pw2 at *
        obtain ⟨hca, hcb⟩ : wr.cell? ⟨w.heap.size, 0, none⟩ = some va ∧ wr.cell? ⟨w.heap.size, 1, none⟩ = some vo := by
          constructor <;> (unfold World.cell?; rw [show wr.heap[(⟨w.heap.size, _, none⟩ : Addr).block]? = _ from HCR.out]; rfl)
        go_wp2_with (first | (go_at_call_of 11 (Value.int .i64 ((o : Nat) : Int)); refine (HP0.out _).mono ?_; rintro e w9 ⟨rfl, hw9⟩; have hw9 := hw9.symm; subst hw9) | (go_at_call 11; refine (HP1.out _).mono ?_; rintro e w9 ⟨rfl, hw9⟩; have hw9 := hw9.symm; subst hw9) | (go_at_call 33; fail))
        refine (rfree_any L HOK.out _ B q o (by omega) (by omega) _ HAR.out).mono ?_
        rintro e w2 ⟨rfl, hb2⟩
        have HBX : Hid (Below w1.heap.size w1 w2) := HB2.out.trans (hb2.mono HB2.out.size)
        have HRX : Hid (OwnI w2 w1.heap.size u5 lo) := HR.out.later hb2
        have HAX : Hid (IsAr w2 B (.agg #[va, vo]) L) := HAR.out.later hb2
        have hlt0 : w.heap.size < wr.heap.size := (Array.getElem?_eq_some_iff.1 HCR.out).1
        have hda : w2.cell? ⟨w.heap.size, 0, none⟩ = some va := (hb2.cell (p := ⟨w.heap.size, 0, none⟩) hlt0).trans hca
        have hdb : w2.cell? ⟨w.heap.size, 1, none⟩ = some vo := (hb2.cell (p := ⟨w.heap.size, 1, none⟩) hlt0).trans hcb
        clear hb2 HR HB2 HAR HCR hca hcb hlt0
        cases hf : freeT L q o with
        | false =>
          have HOZ : Hid ((outJ L o (j+1)).map (fun x : Nat => (x : Int)) = lo) := HON.out (by rw [HMX.out, hf]; rfl)
          clear hf HMX HOY HON
          go_wp2_with (first | (go_at_call_of 11 (Value.int .i64 ((o : Nat) : Int)); refine (HP0.out _).mono ?_; rintro e w9 ⟨rfl, hw9⟩; have hw9 := hw9.symm; subst hw9))
          go_roundw
          case rel => exact ⟨j + 1, by omega, by rw [HNX.out]; go_num, by rw [HOZ.out]; exact HRX.out, HBX.out⟩
          case measure => simp [RowKit.intOf]; omega
        | true =>
          by_cases ho66 : o = 6
          · have HOZ : Hid ((outJ L o (j+1)).map (fun x : Nat => (x : Int)) = lo ++ [(q : Int)]) := HOY.out (by rw [HMX.out, hf, ho66]; rfl)
            have hoi : ((o : Int) == 6) = true := by simp [ho66]
            clear hf HMX HOY HON ho66
            obtain ⟨a5, c5, hv5⟩ := HRX.out.form
            rw [HLO.out] at hv5
            subst hv5
            go_wp2_with (first | (go_at_call_of 11 (Value.int .i64 ((o : Nat) : Int)); refine (HP0.out _).mono ?_; rintro e w9 ⟨rfl, hw9⟩; have hw9 := hw9.symm; subst hw9) | (at_builtin; go_must (refine wpList_append_own _ rfl _ _ 22 rfl w1.heap.size 3 i0 (.int .i64 0) 1 8 Tryd.underlying22 HI0.out.1 HI0.out.2.1 HI0.out.2.2.1 HI0.out.2.2.2 rfl (by decide) _ m (lo.map (Value.int .i64)) rfl (World.ownsRow.alloc (HRX.out.rows HLO.out rfl) _) ⟨w2.heap.size, 0, none⟩ 1 1 [.int .i64 (q : Nat)] rfl rfl (by exact new_one _ _ _) (one_cell _) (by unfold maxLen; omega) (by omega) (by have := HBX.out.size; simp; omega) ?_; intro v8 w8 hown' hgrow _; rw [← HLO.out] at hown'; have R := own_append HRX.out HBX.out (Nat.le_refl _) hown' hgrow; have HR8 : Hid (OwnI w8 w1.heap.size v8 (lo ++ [(q : Int)])) := R.1; have HB8 : Hid (Below w1.heap.size w1 w8) := R.2; clear hown' hgrow R)))
            go_roundw
            case rel => exact ⟨j + 1, by omega, by rw [HNX.out]; go_num, by rw [HOZ.out]; exact HR8.out, HB8.out⟩
            case measure => simp [RowKit.intOf]; omega
          · have hoi : ((o : Int) == 6) = false := by rw [beq_eq_false_iff_ne]; omega
            have hob : (o == 6) = false := by rw [beq_eq_false_iff_ne]; exact ho66
            go_wp2_with (go_at_call 33; fail)
            refine (rfree_any L HOK.out _ B u (o+1) (by omega) (by omega) _ HAX.out).mono ?_
            rintro e w3 ⟨rfl, hb3⟩
            have HBX2 : Hid (Below w1.heap.size w1 w3) := HBX.out.trans (hb3.mono HBX.out.size)
            have HRX2 : Hid (OwnI w3 w1.heap.size u5 lo) := HRX.out.later hb3
            clear hb3 HBX HRX HAX hda hdb
            have HBX := HBX2
            have HRX := HRX2
            clear HBX2 HRX2
            cases hf2 : freeT L u (o+1) with
            | true =>
              have HOZ : Hid ((outJ L o (j+1)).map (fun x : Nat => (x : Int)) = lo) := HON.out (by rw [HMX.out, hf, hob, hf2]; rfl)
              clear hf hf2 HMX HOY HON ho66
              go_wp2_with (first | (go_at_call_of 11 (Value.int .i64 ((o : Nat) : Int)); refine (HP0.out _).mono ?_; rintro e w9 ⟨rfl, hw9⟩; have hw9 := hw9.symm; subst hw9))
              go_roundw
              case rel => exact ⟨j + 1, by omega, by rw [HNX.out]; go_num, by rw [HOZ.out]; exact HRX.out, HBX.out⟩
              case measure => simp [RowKit.intOf]; omega
            | false =>
              have HOZ : Hid ((outJ L o (j+1)).map (fun x : Nat => (x : Int)) = lo ++ [(q : Int)]) := HOY.out (by rw [HMX.out, hf, hob, hf2]; rfl)
              clear hf hf2 HMX HOY HON ho66
              obtain ⟨a5, c5, hv5⟩ := HRX.out.form
              rw [HLO.out] at hv5
              subst hv5
              go_wp2_with (first | (go_at_call_of 11 (Value.int .i64 ((o : Nat) : Int)); refine (HP0.out _).mono ?_; rintro e w9 ⟨rfl, hw9⟩; have hw9 := hw9.symm; subst hw9) | (at_builtin; go_must (refine wpList_append_own _ rfl _ _ 22 rfl w1.heap.size 3 i0 (.int .i64 0) 1 8 Tryd.underlying22 HI0.out.1 HI0.out.2.1 HI0.out.2.2.1 HI0.out.2.2.2 rfl (by decide) _ m (lo.map (Value.int .i64)) rfl (World.ownsRow.alloc (HRX.out.rows HLO.out rfl) _) ⟨w3.heap.size, 0, none⟩ 1 1 [.int .i64 (q : Nat)] rfl rfl (by exact new_one _ _ _) (one_cell _) (by unfold maxLen; omega) (by omega) (by have := HBX.out.size; simp; omega) ?_; intro v8 w8 hown' hgrow _; rw [← HLO.out] at hown'; have R := own_append HRX.out HBX.out (Nat.le_refl _) hown' hgrow; have HR8 : Hid (OwnI w8 w1.heap.size v8 (lo ++ [(q : Int)])) := R.1; have HB8 : Hid (Below w1.heap.size w1 w8) := R.2; clear hown' hgrow R)))
              go_roundw
              case rel => exact ⟨j + 1, by omega, by rw [HNX.out]; go_num, by rw [HOZ.out]; exact HR8.out, HB8.out⟩
              case measure => simp [RowKit.intOf]; omega
end Go.Proofs.YtmmeapaakdaemaaDoor
