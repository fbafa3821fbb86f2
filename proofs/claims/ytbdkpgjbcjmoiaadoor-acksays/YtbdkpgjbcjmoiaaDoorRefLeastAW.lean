/- The walk of the document's answer (larderwickref1) for chapter 13: LeastAcks. -/
import Derived.Test.YtbdkpgjbcjmoiaaDoorRefLeastA
namespace Go.Proofs.YtbdkpgjbcjmoiaaDoor
set_option maxRecDepth 100000
open Go.RowKit Go.Sort

set_option maxHeartbeats 4000000 in
theorem rleasta_any (v : Value) (l : List Int) (p : Int) (w : World) (hv : IsInts w v l) (hc0 : chkA l p = 0) :
    Calls Tryd.prog 8 #[v, .int .i64 p] w fun e w' => ∃ x : Int, e = .returned (.int .i64 x) ∧ LeastTell p l x ∧ Below w.heap.size w w' := by
  have HV : Hid (IsInts w v l) := hv
  have HF : Hid (FineA l p) := chkA_zero hc0
  have hp := HF.out.price
  have hl20 := HF.out.many
  obtain ⟨ao, cap, rfl, hcap, ho⟩ := hv.opened
  have HO : Hid (∀ k, k < l.length → ∃ b off, ao = some ⟨b, off, none⟩ ∧ l.length ≤ cap ∧ b < w.heap.size ∧ ∀ j, j < l.length → w.cell? ⟨b, off + j, none⟩ = some (.int .i64 (l[j]?.getD 0))) := ho
  clear ho hv hc0
  unfold maxLen at hcap
  have HN : Hid (∀ n, n = l.length → True) := fun _ _ => trivial
  generalize hn : l.length = n at *
  have HLN : Hid (l.length = n) := hn
  clear hn HN
  have hmk := makeF w (R := n + 1) (by omega)
  rw [Int.natCast_add, Int.natCast_one] at hmk
  go_enter Tryd.func8, Tryd.ntmps8
  go_wp2
  go_loopw [6] (fun ix wr => ∃ (m : Nat) (f : Nat → Int), m ≤ n ∧ ix = .int .i64 ((m : Int) - 1) ∧ OwnF w wr w.heap.size (n+1) f ∧ Hid (∀ k, m ≤ k → k ≤ n → LeastTell p (l.drop k) (f k))) (fun ix _ => (intOf ix + 1).toNat)
  case atStart =>
    refine ⟨n, fun _ => 0, Nat.le_refl _, rfl, zerosF w (by omega), fun k h1 h2 => ?_⟩
    have e : l.drop k = [] := List.drop_eq_nil_of_le (by rw [HLN.out]; omega)
    rw [e]
    exact leastTell_nil p
  case round =>
    obtain ⟨m, f, hm, rfl, hOF, HLT⟩ := hrel
    clear hmk
    cases m with
    | zero =>
      have hc := hOF.cell (m := 0) (by omega)
      have HL0 : Hid (LeastTell p l (f 0)) := by
        have := HLT.out 0 (Nat.le_refl _) (by omega)
        rwa [List.drop_zero] at this
      have hi1 : ((0 : Nat) : Int) - 1 = -1 := by omega
      rw [hi1]
      have HB : Hid (Below w.heap.size w wr) := hOF.below
      clear hOF HLT
      generalize f 0 = x at *
      go_wp2
      go_ret
      exact ⟨_, rfl, HL0.out, HB.out⟩
    | succ i =>
      have hi1 : ((i + 1 : Nat) : Int) - 1 = (i : Int) := by omega
      rw [hi1]
      obtain ⟨b, off, rfl, hlc, hbw, hcell⟩ := HO.out i (by omega)
      have HCELL : Hid (∀ j, j < n → w.cell? ⟨b, off + j, none⟩ = some (.int .i64 (l[j]?.getD 0))) := hcell
      have hci := hOF.cell (m := i) (by omega)
      have hsi := hOF.soft i
      have HO2 : Hid (OwnF w (wr.setCell ⟨w.heap.size, i, none⟩ (.int .i64 (-1))) w.heap.size (n+1) (updF f i (-1))) := hOF.set i (-1)
      have hin : i < n := by omega
      clear hcell hOF
      generalize f i = f0 at *
      go_wp2
      go_loopw [7] (fun jx wj => ∃ (j : Nat) (X : Int), i ≤ j ∧ j ≤ n ∧ jx = .int .i64 j ∧ OwnF w wj w.heap.size (n+1) (updF f i X) ∧ Hid (Least1 p l f i j X)) (fun jx _ => n - (intOf jx).toNat)
      case atStart => exact ⟨i, -1, Nat.le_refl _, by omega, rfl, HO2.out, .inl ⟨rfl, rfl⟩⟩
      case round =>
        obtain ⟨j, X, hij, hj, rfl, hOF, HX⟩ := hrel
        by_cases hlt : j < n
        · have hc1 := hOF.cell (m := i) (by omega)
          rw [updF_at] at hc1
          have hc2 := hOF.cell (m := j + 1) (by omega)
          rw [updF_other f X (by omega)] at hc2
          have hs1 := hOF.soft i
          have hct : wr.cell? ⟨b, off + j, none⟩ = some (.int .i64 (l[j]?.getD 0)) := (hOF.below.cell (World.block_lt_of_cell? w _ (HCELL.out j hlt))).trans (HCELL.out j hlt)
          have hLj := HLT.out (j + 1) (by omega) (by omega)
          have hFb := leastTell_bound HF.out hLj
          have hSb := step_bound HF.out hij (by rw [HLN.out]; exact hlt) hLj
          have hlate := late_nonneg (seg l i (j+1)) (l[j]?.getD 0)
          have htj := HF.out.times (l[j]?.getD 0) (by rw [List.getElem?_eq_getElem (by rw [HLN.out]; exact hlt)]; exact List.getElem_mem _)
          have HX2 : Hid (Least1 p l f i (j+1) (lsr X (stepC p l f i j))) := least1_succ hij (fun k k1 k2 => (step_bound HF.out k1 (by rw [HLN.out]; omega) (HLT.out (k+1) (by omega) (by omega))).1) HX.out
          have HIS : IsInts wr (.slice (some ⟨b, off + i, none⟩) (j + 1 - i) (cap - i)) (seg l i (j+1)) := by
            have h1 : IsInts wr (.slice (some ⟨b, off, none⟩) l.length cap) l := by rw [HLN.out]; exact HV.out.below (hOF.below.mono (Nat.le_refl _))
            have h2 := isInts_part (f := i) (k := j + 1) h1 (by omega) (by rw [HLN.out]; omega)
            rw [List.drop_take] at h2
            exact h2
          have HLA : Hid (∀ q, Calls Tryd.prog 16 #[.slice (some ⟨b, off + i, none⟩) (j + 1 - i) (cap - i), .int .i64 (l[j]?.getD 0)] (wr.drewN q) fun e w' => e = .returned (.int .i64 (late (seg l i (j+1)) (l[j]?.getD 0))) ∧ w' = wr.drewN q) := fun q =>
            rlate_any _ _ _ _ (by rw [seg_length (by rw [HLN.out]; omega) (by omega)]; omega) (fun y hy => (HF.out.times y (List.mem_of_mem_drop (List.mem_of_mem_take hy))).1) (by omega) (HIS.heap rfl)
          have HFIN : Hid (∀ nq y, OwnF w ((wr.drewN nq).setCell ⟨w.heap.size, i, none⟩ (.int .i64 y)) w.heap.size (n+1) (updF f i y)) := fun nq y => by
            have := (hOF.drewN nq).set i y
            rwa [updF_updF] at this
          have HSC : Hid (stepC p l f i j = p + late (seg l i (j+1)) (l[j]?.getD 0) + f (j+1)) := rfl
          rw [HSC.out] at hSb
          rw [HSC.out] at HX2
          clear HIS hOF hLj HX hci hsi
          generalize late (seg l i (j+1)) (l[j]?.getD 0) = S at *
          generalize l[j]?.getD 0 = t at *
          generalize f (j+1) = F at *
          have hw1 : IntKind.i64.wrap ((j : Int) + 1) = ((j + 1 : Nat) : Int) := by rw [IntKind.wrap_i64]; omega
          have hw2 : IntKind.i64.wrap (p + S) = p + S := by rw [IntKind.wrap_i64]; omega
          have hw3 : IntKind.i64.wrap (p + S + F) = p + S + F := by rw [IntKind.wrap_i64]; omega
          have HLS : Hid (∀ q, Calls Tryd.prog 17 #[.int .i64 X, .int .i64 (p + S + F)] (wr.drewN q) fun e w' => e = .returned (.int .i64 (lsr X (p + S + F))) ∧ w' = wr.drewN q) := fun q => lsr_any _ _ _
          generalize lsr X (p + S + F) = Y at *
          have hjn1 : j + 1 ≤ n := by omega
          go_wp2
          refine wp_region_quiet_last 26 (by kernel_rfl) (by kernel_rfl) ?_
          simp only [List.take_succ_cons, List.take_zero, List.drop_succ_cons, List.drop_zero]
          repeat (go_big_quiet_step ((first | (go_at_call 16; exact Calls.quiet_of_same (HLA.out _)) | (go_at_call 17; exact Calls.quiet_of_same (HLS.out _)))))
          refine wpQuiet_nil ?_
          intro _ hw'
          obtain ⟨nq, hw''⟩ := hw'
          subst hw''
          all_goals
            go_wp2
            go_roundw
            case rel => exact ⟨j + 1, Y, by omega, by omega, by go_num, HFIN.out _ _, HX2.out⟩
            case measure => simp [intOf]; omega
        · have hjn : j = n := by omega
          subst hjn
          have HE : Hid (LeastTell p (l.drop i) X) := least1_end HF.out.rise (by rw [HLN.out]; omega) (fun k k1 k2 => HLT.out k (by omega) (by rw [HLN.out] at k2; exact k2)) (by rw [HLN.out]; exact HX.out)
          have HOF : Hid (OwnF w wr w.heap.size (j+1) (updF f i X)) := hOF
          clear hOF HX
          go_wp2
          go_roundw
          case rel =>
            refine ⟨i, updF f i X, by omega, by go_num, HOF.out, fun k h1 h2 => ?_⟩
            by_cases e : k = i
            · subst e; rw [updF_at]; exact HE.out
            · rw [updF_other f X e]; exact HLT.out k (by omega) h2
          case measure => simp [intOf] <;> omega
end Go.Proofs.YtbdkpgjbcjmoiaaDoor
