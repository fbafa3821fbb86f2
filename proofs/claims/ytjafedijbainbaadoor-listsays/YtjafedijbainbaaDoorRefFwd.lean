/- The walk of the document's answer (larderwickref1): forward. -/
import Derived.Test.YtjafedijbainbaaDoorRefSwaps
namespace Go.Proofs.YtjafedijbainbaaDoor
set_option maxRecDepth 100000
open Go.RowKit Go.Sort

theorem take_eq_succ {c d : List Int} {k : Nat} (hc : k < c.length) (hd : k < d.length) (h : c.take k = d.take k) (e : c[k]?.getD 0 = d[k]?.getD 0) : c.take (k+1) = d.take (k+1) := by
  rw [List.take_succ_eq_append_getElem hc, List.take_succ_eq_append_getElem hd, h]
  rw [List.getElem?_eq_getElem hc, List.getElem?_eq_getElem hd, Option.getD_some, Option.getD_some] at e
  rw [e]
theorem fwB_no {A B : List Int} {x : Int} (h : ¬ pos B x ≤ pos A x) : fwB A B x = false := by unfold fwB; rw [decide_eq_false h, Bool.and_false]
theorem fwB_rest {A B : List Int} {x : Int} (h : pos B x ≤ pos A x) : fwB A B x = (B.erase x == A.erase x) := by unfold fwB; rw [decide_eq_true h, Bool.and_true]
set_option maxHeartbeats 1000000 in
theorem rforward_any (va vb : Value) (A B : List Int) (x : Int) (w : World) (hA : IsInts w va A) (hB : IsInts w vb B) (hxA : x ∈ A) (hxB : x ∈ B) (hlen : A.length ≤ 100) (hlb : B.length = A.length) :
    Calls Tryd.prog 23 #[va, vb, .int .i64 x] w fun e w' => e = .returned (.bool (fwB A B x)) ∧ Below w.heap.size w w' := by
  have HA : Hid (IsInts w va A) := hA
  have HB : Hid (IsInts w vb B) := hB
  have HPA : Hid (∀ w' : World, w'.heap = w.heap → Calls Tryd.prog 17 #[va, .int .i64 x] w' fun e w'' => e = .returned (.int .i64 (pos A x : Nat)) ∧ w'' = w') := fun w' h => by rw [← plc_pos hxA]; exact rplace_any va A _ w' (hA.heap h)
  have HPB : Hid (∀ w' : World, w'.heap = w.heap → Calls Tryd.prog 17 #[vb, .int .i64 x] w' fun e w'' => e = .returned (.int .i64 (pos B x : Nat)) ∧ w'' = w') := fun w' h => by rw [← plc_pos hxB]; exact rplace_any vb B _ w' (hB.heap h)
  have hcl : (A.erase x).length = A.length - 1 := List.length_erase_of_mem hxA
  have hdl : (B.erase x).length = A.length - 1 := by rw [List.length_erase_of_mem hxB, hlb]
  have HLB : Hid (B.length = A.length) := hlb
  have HLA : Hid (A.length ≤ 100) := hlen
  obtain ⟨ao, ca, rfl, _, _⟩ := hA.opened
  obtain ⟨bo, cb, rfl, _, _⟩ := hB.opened
  have hp1 : pos A x ≤ A.length := List.idxOf_le_length
  have hp2 : pos B x ≤ B.length := List.idxOf_le_length
  clear hA hB hxA hxB
  by_cases hpp : pos B x ≤ pos A x
  rotate_left
  · have HF : Hid (fwB A B x = false) := fwB_no hpp
    generalize pos A x = pa at *
    generalize pos B x = pb at *
    have hpp2 : (pa : Int) < (pb : Int) := by omega
    clear hpp hcl hdl
    generalize A.length = la at *
    generalize B.length = lb at *
    clear hlb
    go_enter Tryd.func23, Tryd.ntmps23
    go_wp2_with (first | (go_at_call_of 17 (Value.slice bo lb cb); go_must (refine (HPB.out _ (by rfl)).mono ?_; rintro e w' ⟨rfl, hw⟩; have hw := hw.symm; subst hw)) | (go_at_call_of 17 (Value.slice ao la ca); go_must (refine (HPA.out _ (by rfl)).mono ?_; rintro e w' ⟨rfl, hw⟩; have hw := hw.symm; subst hw)) | (go_at_call_of 19 (Value.slice ao la ca); fail))
    go_ret
    exact ⟨by rw [HF.out]; rfl, Below.refl _ _⟩
  · have HF : Hid (fwB A B x = (B.erase x == A.erase x)) := fwB_rest hpp
    generalize pos A x = pa at *
    generalize pos B x = pb at *
    have hpp2 : ¬ (pa : Int) < (pb : Int) := by omega
    clear hpp
    generalize hm : A.length - 1 = m at *
    generalize hca : A.length = la at *
    generalize hcb : B.length = lb at *
    have HLB : Hid (B.length = lb ∧ lb = la) := ⟨hcb, hlb⟩
    have HLA : Hid (A.length = la ∧ la ≤ 100) := ⟨hca, hlen⟩
    have hm100 : m ≤ 100 := by omega
    clear hcb hca hlb hlen
    go_enter Tryd.func23, Tryd.ntmps23
    go_wp2_with (first | (go_at_call_of 17 (Value.slice bo lb cb); go_must (refine (HPB.out _ (by rfl)).mono ?_; rintro e w' ⟨rfl, hw⟩; have hw := hw.symm; subst hw)) | (go_at_call_of 17 (Value.slice ao la ca); go_must (refine (HPA.out _ (by rfl)).mono ?_; rintro e w' ⟨rfl, hw⟩; have hw := hw.symm; subst hw)) | (go_at_call_of 19 (Value.slice ao la ca); fail))
    have hl1 : A.length ≤ 1000000 := by rw [HLA.out.1]; have := HLA.out.2; omega
    have hl2 : B.length ≤ 1000000 := by rw [HLB.out.1, HLB.out.2]; have := HLA.out.2; omega
    have HL2 : Hid (B.length ≤ 1000000) := hl2
    refine (without_any _ A x w HA.out hl1).mono ?_
    rintro e w1 ⟨vc, rfl, hO1, hb1⟩
    have HB1 : Hid (Below w.heap.size w w1) := hb1
    have HC1 : Hid (IsInts w1 vc (A.erase x)) := hO1.isInts
    have HBv : Hid (IsInts w1 (.slice bo lb cb) B) := HB.out.below hb1
    clear hO1 hb1 hl1 hl2
    go_wp2_with (first | (go_at_call_of 19 (Value.slice bo lb cb); fail))
    refine (without_any _ B x w1 HBv.out HL2.out).mono ?_
    rintro e w2 ⟨vd, rfl, hO2, hb2⟩
    have HB2 : Hid (Below w.heap.size w w2) := HB1.out.trans (hb2.mono HB1.out.size)
    have HC2 : Hid (IsInts w2 vc (A.erase x)) := HC1.out.below hb2
    have HD2 : Hid (IsInts w2 vd (B.erase x)) := hO2.isInts
    clear hO2 hb2 HBv HC1 HB1
    generalize A.erase x = c at *
    generalize B.erase x = d at *
    obtain ⟨aoc, cac, rfl, hcc, hoc⟩ := HC2.out.opened
    obtain ⟨aod, cad, rfl, hcd, hod⟩ := HD2.out.opened
    have HOC : Hid (∀ k, k < c.length → ∃ b off, aoc = some ⟨b, off, none⟩ ∧ c.length ≤ cac ∧ b < w2.heap.size ∧ ∀ j, j < c.length → w2.cell? ⟨b, off + j, none⟩ = some (.int .i64 (c[j]?.getD 0))) := hoc
    have HOD : Hid (∀ k, k < d.length → ∃ b off, aod = some ⟨b, off, none⟩ ∧ d.length ≤ cad ∧ b < w2.heap.size ∧ ∀ j, j < d.length → w2.cell? ⟨b, off + j, none⟩ = some (.int .i64 (d[j]?.getD 0))) := hod
    have HCL : Hid (c.length = m) := hcl
    have HDL : Hid (d.length = m) := hdl
    unfold maxLen at hcc hcd
    rw [hcl, hdl]
    clear hoc hod hcl hdl
    go_wp2
    go_loopw [9] (fun i wr => ∃ k q : Nat, k ≤ m ∧ i = .int .i64 k ∧ wr = w2.drewN q ∧ Hid (c.take k = d.take k)) (fun i _ => m - (intOf i).toNat)
    case atStart => exact ⟨0, 0, by omega, rfl, rfl, by simp [Hid]⟩
    case round =>
      obtain ⟨k, q, hk, rfl, rfl, HE⟩ := hrel
      by_cases hlt : k < m
      · obtain ⟨b1, of1, rfl, hc1, _, hcell1⟩ := HOC.out k (by rw [HCL.out]; exact hlt)
        obtain ⟨b2, of2, rfl, hc2, _, hcell2⟩ := HOD.out k (by rw [HDL.out]; exact hlt)
        have hck := hcell1 k (by rw [HCL.out]; exact hlt)
        have hck2 := hcell2 k (by rw [HDL.out]; exact hlt)
        rw [HCL.out] at hc1
        rw [HDL.out] at hc2
        clear hcell1 hcell2
        have HT : Hid (c[k]?.getD 0 = d[k]?.getD 0 → c.take (k+1) = d.take (k+1)) := fun h => take_eq_succ (by rw [HCL.out]; exact hlt) (by rw [HDL.out]; exact hlt) HE.out h
        have HN : Hid (c[k]?.getD 0 ≠ d[k]?.getD 0 → (d == c) = false) := fun h => by
          rw [beq_eq_false_iff_ne]
          intro e
          exact h (by rw [e])
        generalize c[k]?.getD 0 = p1 at *
        generalize d[k]?.getD 0 = p2 at *
        by_cases hpe : p1 = p2
        · have HT2 : Hid (c.take (k+1) = d.take (k+1)) := HT.out hpe
          subst hpe
          have hpp : (p1 != p1) = false := by simp
          clear HT HN
          go_wp2
          go_quiet (fail)
          go_wp2
          go_roundw
          case rel => exact ⟨k + 1, _, by omega, by go_num, rfl, HT2.out⟩
          case measure => simp [intOf]; omega
        · have HT2 : Hid ((d == c) = false) := HN.out hpe
          have hpp : (p1 != p2) = true := by simpa using hpe
          clear HT HN hpe
          go_wp2
          go_quiet (fail)
          go_wp2
          go_ret
          exact ⟨by rw [HF.out, HT2.out]; rfl, below_drewN (below_drewN HB2.out _) _⟩
      · have hkm : k = m := by omega
        have HT2 : Hid ((d == c) = true) := by
          unfold Hid
          have h := HE.out
          rw [List.take_of_length_le (by rw [HCL.out]; omega), List.take_of_length_le (by rw [HDL.out]; omega)] at h
          simpa using h.symm
        go_wp2
        go_ret
        exact ⟨by rw [HF.out, HT2.out]; rfl, below_drewN HB2.out _⟩
end Go.Proofs.YtjafedijbainbaaDoor
