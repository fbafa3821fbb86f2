/- CountTrue is proved: whatever is done, in whatever memory and on every schedule, it returns true and leaves its argument as it was: a node that is here is pointed to as often as is counted, and one that is not here not at all. No condition. -/
import Derived.Test.YtmibnceadciidaaCRun
import Derived.Test.YtmibnceadciidaaCHeapP
import Derived.Test.YtmibnceadciidaaRBit
import Derived.Test.YtmibnceadciidaaPow
import Derived.Test.YtmibnceadciidaaArgHeap
namespace Go.Proofs.Ytmibnceadciidaa
set_option maxRecDepth 100000
open Go.ChangeShapes Go.WideShapes Go.ChangeAt Go.RowKit Go.Sort

theorem here_pow {m n : Nat} (h : m < 2 ^ n) : ((m : Nat) : Int) < (2 : Int) ^ n := by
  have e : ((2 ^ n : Nat) : Int) = (2 : Int) ^ n := by rw [Int.natCast_pow]; rfl
  rw [← e]
  omega
set_option maxHeartbeats 4000000 in
theorem ctrue_any (v : Value) (L : List (List Int)) (w : World) (hv : IsRows w v L) :
    Calls Try.prog 3 #[v] w fun e w' => e = .returned (.bool true) ∧ Below w.heap.size w w' := by
  have HV : Hid (IsRows w v L) := hv
  clear hv
  go_enter Try.func3, Try.ntmps3
  go_wp2_with (go_at_call 7; fail)
  refine (cfact_any _).mono ?_
  rintro e w1 ⟨rfl, hb1⟩
  have HB1 : Hid (Below w.heap.size w w1) := hb1
  clear hb1
  go_wp2_with (go_at_call 8; fail)
  refine (counted_any v L _ (HV.out.below HB1.out)).mono ?_
  rintro e w2 ⟨a, rfl, S, h2⟩
  have H2 : Hid (Obj w1 w2 S a (cntK L)) := h2
  clear h2
  generalize cntK L = c at *
  go_wp2_with (go_at_call 9; fail)
  refine (heapP_any S a c _ H2.out.heap H2.out.good.mid).mono ?_
  rintro e w3 ⟨ao, co, ar, cr, rfl, h3, h4, hb3⟩
  have H3 : Hid (Obj w1 w3 S a c) := H2.out.later hb3
  have HB : Hid (Boxed w3 (w3.alloc (.cells #[.slice ao c.outs.length co, .slice ar c.roots.length cr] 28)) w3.heap.size ao co ar cr c.outs c.roots) := boxed h3.isRows h4.isInts _
  clear H2 h3 h4 hb3
  have hl12 := H3.out.good.mid.outs12
  go_wp2_with (go_at_call 10; fail)
  generalize (w3.alloc (.cells #[.slice ao c.outs.length co, .slice ar c.roots.length cr] 28)) = w4 at *
  have H4 : Hid (Obj w1 w4 S a c) := H3.out.later HB.out.below
  refine (hereP_any S a c _ H4.out.heap H4.out.good).mono ?_
  rintro e w' ⟨rfl, hw⟩
  have hw := hw.symm
  subst hw
  have hd0 : w4.cell? ⟨w3.heap.size, 0, none⟩ = some (.slice ao c.outs.length co) := HB.out.outs
  have hd1 : w4.cell? ⟨w3.heap.size, 1, none⟩ = some (.slice ar c.roots.length cr) := HB.out.roots
  have HLT : Hid (hereB c < 2 ^ c.outs.length) := by unfold Hid; rw [H4.out.good.even]; exact hereB_lt c
  have hlt2 := here_pow HLT.out
  go_wp2_with (go_at_call 11; go_must (refine (pow_any c.outs.length (by omega) _).mono ?_; rintro e w' ⟨rfl, hw⟩; have hw := hw.symm; subst hw))
  clear hlt2
  have HC : Hid (KGood c) := H4.out.good
  have HR : Hid (IsRows w4 (.slice ao c.outs.length co) c.outs) := HB.out.rows
  have HI : Hid (IsInts w4 (.slice ar c.roots.length cr) c.roots) := HB.out.ints
  have hr12 := H4.out.good.roots
  have hcO := HB.out.capO
  have hcR := HB.out.capR
  go_loop [7] (fun i => ∃ x : Nat, x ≤ c.outs.length ∧ i = .int .i64 x) (fun i => c.outs.length - (intOf i).toNat)
  case atStart => exact ⟨0, by omega, rfl⟩
  case round =>
    obtain ⟨x, hx, rfl⟩ := hrel
    by_cases hxl : x < c.outs.length
    · have hxl' : (x : Int) < (c.outs.length : Int) := by omega
      go_wp2
      go_loop [8, 9] (fun n i => ∃ k : Nat, k ≤ c.roots.length ∧ i = .int .i64 k ∧ n = .int .i64 (((c.roots.take k).count (x : Int) : Nat) : Int)) (fun _ i => c.roots.length - (intOf i).toNat)
      case atStart => exact ⟨0, by omega, rfl, by simp⟩
      case round =>
        obtain ⟨k, hk, rfl, rfl⟩ := hrel
        have hml : (c.roots.take k).count (x : Int) ≤ k := Nat.le_trans List.count_le_length (by simp; omega)
        by_cases hlt : k < c.roots.length
        · have hlt' : (k : Int) < (c.roots.length : Int) := by omega
          obtain ⟨b, off, rfl, hlc, hbs, hcell⟩ := HI.out.open_at hlt
          have hck := hcell k hlt
          have HM : Hid ((c.roots.take (k+1)).count (x : Int) = (c.roots.take k).count (x : Int) + if c.roots[k]?.getD 0 = (x : Int) then 1 else 0) := count_take hlt (x : Int)
          clear hcell
          generalize c.roots[k]?.getD 0 = y at *
          by_cases hb : y = (x : Int)
          · have HM2 : Hid ((c.roots.take (k+1)).count (x : Int) = (c.roots.take k).count (x : Int) + 1) := by unfold Hid; rw [HM.out, if_pos hb]
            generalize (c.roots.take k).count (x : Int) = n at *
            subst hb
            go_wp2
            go_round
            case rel => exact ⟨k + 1, by omega, by go_num, by rw [HM2.out]; go_num⟩
            case measure => simp [intOf]; omega
          · have HM2 : Hid ((c.roots.take (k+1)).count (x : Int) = (c.roots.take k).count (x : Int)) := by unfold Hid; rw [HM.out, if_neg hb, Nat.add_zero]
            generalize (c.roots.take k).count (x : Int) = n at *
            go_wp2
            go_round
            case rel => exact ⟨k + 1, by omega, by go_num, by rw [HM2.out]⟩
            case measure => simp [intOf]; omega
        · have hlt' : ¬ (k : Int) < (c.roots.length : Int) := by omega
          have HE : Hid ((c.roots.take k).count (x : Int) = cTo c (x : Int) 0) := by unfold Hid; rw [List.take_of_length_le (by omega), cTo_zero]
          generalize (c.roots.take k).count (x : Int) = n at *
          go_wp2
          go_loop [8, 10] (fun n i => ∃ j : Nat, j ≤ c.outs.length ∧ i = .int .i64 j ∧ n = .int .i64 ((cTo c (x : Int) j : Nat) : Int)) (fun _ i => c.outs.length - (intOf i).toNat)
          case atStart => exact ⟨0, by omega, rfl, by rw [HE.out]⟩
          case round =>
            obtain ⟨j, hj, rfl, rfl⟩ := hrel
            have hmj := cTo_le HC.out.mid (x : Int) j hj
            by_cases hjl : j < c.outs.length
            · have hjl' : (j : Int) < (c.outs.length : Int) := by omega
              obtain ⟨b, off, rfl, hlc, hbs, au, cu, hcu, hiu, hmm, hcum⟩ := HR.out.at hjl
              have HIU : Hid (IsInts w4 (.slice au (rowAt c.outs j).length cu) (rowAt c.outs j)) := hiu
              have HS : Hid (cTo c (x : Int) (j+1) = cTo c (x : Int) j + (rowAt c.outs j).count (x : Int)) := cTo_succ hjl (x : Int)
              have h4 := HC.out.rows _ (rowAt_mem hjl)
              clear hiu
              generalize cTo c (x : Int) j = N at *
              generalize rowAt c.outs j = row at *
              go_wp2
              go_loop [8, 11] (fun n i => ∃ k : Nat, k ≤ row.length ∧ i = .int .i64 k ∧ n = .int .i64 ((N + (row.take k).count (x : Int) : Nat) : Int)) (fun _ i => row.length - (intOf i).toNat)
              case atStart => exact ⟨0, by omega, rfl, by simp⟩
              case round =>
                obtain ⟨k, hk, rfl, rfl⟩ := hrel
                have hml : (row.take k).count (x : Int) ≤ k := Nat.le_trans List.count_le_length (by simp; omega)
                by_cases hlt : k < row.length
                · have hlt' : (k : Int) < (row.length : Int) := by omega
                  obtain ⟨b2, off2, rfl, hlc2, hbs2, hcell⟩ := HIU.out.open_at hlt
                  have hck := hcell k hlt
                  have HM : Hid ((row.take (k+1)).count (x : Int) = (row.take k).count (x : Int) + if row[k]?.getD 0 = (x : Int) then 1 else 0) := count_take hlt (x : Int)
                  clear hcell
                  generalize row[k]?.getD 0 = y at *
                  by_cases hb : y = (x : Int)
                  · have HM2 : Hid ((row.take (k+1)).count (x : Int) = (row.take k).count (x : Int) + 1) := by unfold Hid; rw [HM.out, if_pos hb]
                    generalize (row.take k).count (x : Int) = n at *
                    subst hb
                    go_wp2
                    go_round
                    case rel => exact ⟨k + 1, by omega, by go_num, by rw [HM2.out]; go_num⟩
                    case measure => simp [intOf]; omega
                  · have HM2 : Hid ((row.take (k+1)).count (x : Int) = (row.take k).count (x : Int)) := by unfold Hid; rw [HM.out, if_neg hb, Nat.add_zero]
                    generalize (row.take k).count (x : Int) = n at *
                    go_wp2
                    go_round
                    case rel => exact ⟨k + 1, by omega, by go_num, by rw [HM2.out]⟩
                    case measure => simp [intOf]; omega
                · have hlt' : ¬ (k : Int) < (row.length : Int) := by omega
                  have HE2 : Hid (N + (row.take k).count (x : Int) = cTo c (x : Int) (j+1)) := by unfold Hid; rw [List.take_of_length_le (by omega), HS.out]
                  generalize N + (row.take k).count (x : Int) = n at *
                  go_wp2
                  go_round
                  case rel => exact ⟨j + 1, by omega, by go_num, by rw [HE2.out]⟩
                  case measure => simp [intOf]; omega
            · have hjl' : ¬ (j : Int) < (c.outs.length : Int) := by omega
              have HE2 : Hid (cTo c (x : Int) j = c.count (x : Int)) := by unfold Hid; rw [← cTo_last, show c.outs.length = j by omega]
              have HBT : Hid ((hereB c).testBit x = decide (0 < c.count (x : Int))) := by
                unfold Hid
                rw [hereB_bit, ← isN_is]
                have := good_count HC.out (x : Int)
                cases hb : c.is (x : Int)
                · have h0 : ¬ 0 < c.count (x : Int) := fun e => by rw [this.1 e] at hb; exact Bool.noConfusion hb
                  simp [h0]
                · have h0 := this.2 hb
                  simp [h0]
              have hms : hereB c < 65536 := by have := hereM_small c (k := c.here.length) HC.out.few; unfold hereB; omega
              rw [HE2.out]
              generalize hcn : c.count (x : Int) = n at *
              by_cases hn : 0 < n
              · have hn' : (0 : Int) < (n : Int) := by omega
                have HBT2 : Hid ((hereB c).testBit x = true) := by unfold Hid; rw [HBT.out]; simp [hn]
                have HCN : Hid (c.count (x : Int) = n) := hcn
                clear hcn
                go_wp2_with (first | (go_at_call 12; go_must (refine (countP_any S a c (x : Int) _ H4.out.heap HC.out.mid).mono ?_; rintro e w' ⟨rfl, hw⟩; have hw := hw.symm; subst hw; rw [HCN.out])) | (go_at_call 13; go_must (refine (rbit_any (hereB c) x hms (by omega) _).mono ?_; rintro e w' ⟨rfl, hw⟩; have hw := hw.symm; subst hw; rw [HBT2.out])))
                go_round
                case rel => exact ⟨x + 1, by omega, by go_num⟩
                case measure => simp [intOf]; omega
              · have hn' : ¬ (0 : Int) < (n : Int) := by omega
                have HBT2 : Hid ((hereB c).testBit x = false) := by unfold Hid; rw [HBT.out]; simp [hn]
                clear hn
                have HCN : Hid (c.count (x : Int) = n) := hcn
                clear hcn
                go_wp2_with (first | (go_at_call 12; go_must (refine (countP_any S a c (x : Int) _ H4.out.heap HC.out.mid).mono ?_; rintro e w' ⟨rfl, hw⟩; have hw := hw.symm; subst hw; rw [HCN.out])) | (go_at_call 13; go_must (refine (rbit_any (hereB c) x hms (by omega) _).mono ?_; rintro e w' ⟨rfl, hw⟩; have hw := hw.symm; subst hw; rw [HBT2.out])))
                go_round
                case rel => exact ⟨x + 1, by omega, by go_num⟩
                case measure => simp [intOf]; omega
    · have hxl' : ¬ (x : Int) < (c.outs.length : Int) := by omega
      go_wp2
      go_ret
      exact ⟨rfl, HB1.out.trans (H4.out.below.mono HB1.out.size)⟩

theorem countTrue_own : ownKnob Try.prog.godebug = none := by kernel_rfl
theorem countTrue_laidOut : laidOutB Try.prog = true := by kernel_rfl

set_option maxRecDepth 100000 in
theorem countTrue_lifted (os : Os) (started : os.Started) (H : Type) (enc : TypeId × Value → H) :
    ReturnsInHanded {} Try.checked os 3 .any (Rows.countTrueSpec.pre6 enc Try.prog Try.f3 Rows.countTrueRow.domain false) (Rows.countTrueSpec.post enc Try.prog Try.f3 false true false false) := by
  refine returnsInHanded_of_change (C := Try.checked) countTrue_own started (by kernel_rfl) Try.func3
    (ChangeSpec.witness6 (enc := enc) (C := Try.checked) false ⟨#[], #[.slice none 0 0], []⟩ 8 (by kernel_rfl) (by kernel_rfl) (by kernel_rfl) (by kernel_rfl)) ?_
  intro W base args ds gs before hval0 hW _ _
  have hval : ∀ (j : Nat) t v, Try.f3.params[j]? = some t → args[j]? = some v → Value.okWide Try.prog W .any base t v := hval0
  have hW' : DataW.Whole enc Try.prog Try.f3.params.toList Rows.countTrueSpec.vars false W args.toList ds gs before := hW
  obtain ⟨p, q, hA0, hV, rfl, hfz, hnd⟩ := hW
  have hA : DataW.TrodAll enc Try.prog W 0 (fun _ => true) true Try.f3.params.toList args.toList ds p := hA0
  rw [Try.params3] at hA hval
  obtain ⟨v0, vs0, d0, ds0, p0, q0, hargs, rfl, rfl, h0, r0⟩ := trodAll_cons hA
  obtain ⟨rfl, rfl, rfl⟩ := trodAll_nil r0
  obtain rfl : args = #[v0] := by cases args; simp_all
  obtain ⟨rfl, rfl⟩ := trodVars_none hV
  obtain ⟨l0, hl0⟩ := arg_rows (hval 0 22 v0 rfl rfl) h0
  clear hA0 hval0
  refine (ctrue_any v0 l0 W hl0).mono fun e W' ⟨he, hb⟩ => ?_
  subst he
  exact ⟨_, rfl, law_post hW' hb countTrue_laidOut rfl (by kernel_rfl) (by kernel_rfl) Try.underlying4 rfl rfl rfl⟩

theorem countTrue_holds : Rows.CountTrueSaid :=
  OpenClaim.holds_of_wide 3 Try.f3 rfl rfl rfl rfl rfl rfl rfl ⟨rfl, rfl, rfl, rfl, rfl⟩ rfl rfl rfl rfl rfl (by kernel_rfl) Try.func3 (by kernel_rfl)
    (of_decide_eq_true (by kernel_rfl)) (by unfold Func.isWrapper; first | (rw [if_pos (by decide +kernel)]; kernel_rfl) | (rw [if_neg (by decide +kernel)]; exact ⟨rfl, rfl⟩))
    (fun os started H enc _ => countTrue_lifted os started H enc)
end Go.Proofs.Ytmibnceadciidaa
