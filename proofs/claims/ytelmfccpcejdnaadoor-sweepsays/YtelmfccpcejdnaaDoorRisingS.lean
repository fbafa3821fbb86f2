/- The walk of larderwickref1.Rising. -/
import Derived.Test.YtelmfccpcejdnaaDoorRefIn0
import Derived.Test.YtelmfccpcejdnaaDoorWithoutS
namespace Go.Proofs.YtelmfccpcejdnaaDoor
open Go.RowKit

set_option maxHeartbeats 1000000 in
theorem rising_any (v : Value) (l : List Int) (w : World) (hv : IsInts w v l) (hform : ∃ ao cap, v = .slice ao l.length cap) (hlen : l.length ≤ 1000000) :
    Calls Tryd.prog 6 #[v] w fun e w' => ∃ v', e = .returned v' ∧ OwnI w' w.heap.size v' (l.mergeSort le) ∧ Below w.heap.size w w' := by
  obtain ⟨i0, hi, hz0, hz1, hz2⟩ := info_parts info_int
  have HI : Hid (Tryd.prog.info? 3 = some i0 ∧ i0.zero = some (.int .i64 0) ∧ i0.size = 1 ∧ i0.bytes = 8) := ⟨hi, hz0, hz1, hz2⟩
  clear hi hz0 hz1 hz2
  go_enter Tryd.func6, Tryd.ntmps6
  go_wp2
  go_loopw [0, 3] (fun v0 v3 wr => ∃ (rest out : List Int), IsInts wr v0 rest ∧ (∃ ao cap, v0 = .slice ao rest.length cap) ∧ OwnI wr w.heap.size v3 out ∧ Below w.heap.size w wr ∧ (v3.ownBlock = none ∨ v0.ownBlock ≠ v3.ownBlock) ∧ Hid (l.mergeSort le = out ++ rest.mergeSort le) ∧ out.length + rest.length ≤ 1000000) (fun v0 _ _ => lenOf v0)
  case atStart => exact ⟨l, [], hv, hform, OwnI.nil _ _, Below.refl _ _, .inl rfl, by simp [Hid], by simpa using hlen⟩
  case round =>
    obtain ⟨rest, out, hin, ⟨ao, cap, rfl⟩, hown, hbel, hsep, HS, hsum⟩ := hrel
    clear hv hform
    by_cases h0 : rest = []
    · subst h0
      have HF : Hid (l.mergeSort le = out) := by unfold Hid; rw [HS.out]; simp
      have HO : Hid (OwnI wr w.heap.size u3 out) := hown
      clear hown
      go_wp2
      go_ret
      exact ⟨_, rfl, by rw [HF.out]; exact HO.out, hbel⟩
    · have HIN : Hid (IsInts wr (.slice ao rest.length cap) rest) := hin
      rcases hin with ⟨he, _⟩ | ⟨b, off, cap', hveq, hpos, hlc, hcap, hc⟩
      · exact absurd he h0
      have hao : ao = some ⟨b, off, none⟩ := by simpa using (congrArg (fun v => match v with | Value.slice a _ _ => a | _ => none) hveq)
      have hcc : cap = cap' := by simpa using (congrArg (fun v => match v with | Value.slice _ _ c => c | _ => 0) hveq)
      subst hao hcc
      clear hveq
      have HC : Hid (∀ j, j < rest.length → wr.cell? ⟨b, off + j, none⟩ = some (.int .i64 (rest[j]?.getD 0))) := hc
      have hc0 : wr.cell? ⟨b, off, none⟩ = some (.int .i64 (rest[0]?.getD 0)) := hc 0 hpos
      have HM0 : Hid (rest[0]?.getD 0 ∈ rest) := by unfold Hid; rw [List.getElem?_eq_getElem hpos]; exact List.getElem_mem hpos
      generalize rest[0]?.getD 0 = m0 at *
      have HO : Hid (OwnI wr w.heap.size u3 out) := hown
      have HSEP : Hid (u3.ownBlock = none ∨ (Value.slice (some ⟨b, off, none⟩) rest.length cap).ownBlock ≠ u3.ownBlock) := hsep
      clear hc hown hsep h0
      unfold maxLen at hcap
      go_wp2
      go_loop [4, 5] (fun least i => ∃ (k : Nat) (m : Int), k ≤ rest.length ∧ i = .int .i64 k ∧ least = .int .i64 m ∧ Hid (m ∈ rest) ∧ Hid (∀ x ∈ rest.take k, m ≤ x)) (fun _ i => rest.length - (intOf i).toNat)
      case atStart => exact ⟨0, m0, by omega, rfl, rfl, HM0, by simp [Hid]⟩
      case round =>
        obtain ⟨k, m, hk, rfl, rfl, HM, HL⟩ := hrel
        by_cases hlt : k < rest.length
        · have hck := HC.out k hlt
          have HMK : Hid (rest[k]?.getD 0 ∈ rest) := by unfold Hid; rw [List.getElem?_eq_getElem hlt]; exact List.getElem_mem hlt
          have HTK : Hid (rest.take (k+1) = rest.take k ++ [rest[k]?.getD 0]) := by unfold Hid; rw [List.take_succ_eq_append_getElem hlt, List.getElem?_eq_getElem hlt]; rfl
          generalize rest[k]?.getD 0 = p at *
          by_cases hpm : p < m
          · go_wp2
            go_round
            case rel => exact ⟨k + 1, p, by omega, by go_num, rfl, HMK, by
              unfold Hid; rw [HTK.out]; intro x hx
              rcases List.mem_append.1 hx with hx | hx
              · have := HL.out x hx; omega
              · have : x = p := by simpa using hx
                omega⟩
            case measure => simp [intOf]; omega
          · go_wp2
            go_round
            case rel => exact ⟨k + 1, m, by omega, by go_num, rfl, HM, by
              unfold Hid; rw [HTK.out]; intro x hx
              rcases List.mem_append.1 hx with hx | hx
              · exact HL.out x hx
              · have : x = p := by simpa using hx
                omega⟩
            case measure => simp [intOf]; omega
        · have HALL : Hid (∀ x ∈ rest, m ≤ x) := by have := HL.out; rwa [List.take_of_length_le (by omega)] at this
          have HMIN : Hid (rest.mergeSort le = m :: (rest.erase m).mergeSort le) := sort_min HM.out HALL.out
          have hel : (rest.erase m).length = rest.length - 1 := List.length_erase_of_mem HM.out
          have HEL : Hid ((rest.erase m).length = rest.length - 1) := hel
          clear hel
          go_wp2_with (first | (go_at_call 17; go_must (refine (without_any _ rest m _ HIN1.out (by omega)).mono ?_; rintro e w2 ⟨v2, rfl, hO2, hb2⟩; have HO2 : Hid (OwnI w2 w1.heap.size v2 (rest.erase m)) := hO2; clear hO2)) | (at_builtin; go_must (refine wpList_append_own _ rfl _ _ 23 rfl w.heap.size 3 i0 (.int .i64 0) 1 8 Tryd.underlying23 HI.out.1 HI.out.2.1 HI.out.2.2.1 HI.out.2.2.2 rfl (by decide) _ out.length (out.map (Value.int .i64)) rfl (World.ownsRow.alloc HO.out _) ⟨wr.heap.size, 0, none⟩ 1 1 [.int .i64 m] rfl rfl (new_one _ _ _) (one_cell _) (by unfold maxLen; omega) (by omega) (by have := hbel.size; simp; omega) ?_; intro v' w1 hown' hgrow _; have R := own_append HO.out hbel (Nat.le_refl _) hown' hgrow; have HIN1 : Hid (IsInts w1 (.slice (some ⟨b, off, none⟩) rest.length cap) rest) := isInts_grown (isInts_below HIN.out ((Below.refl _ _).alloc (Nat.le_refl _) _)) hgrow HSEP.out; clear hown' hgrow)))
          go_roundw
          case rel => exact ⟨rest.erase m, out ++ [m], HO2.out.isInts, ownI_form HO2.out, ownI_below R.1 hb2, R.2.trans (hb2.mono R.2.size), sep_new R.1 HO2.out, by unfold Hid; rw [HS.out, HMIN.out]; simp, by simp [HEL.out]; omega⟩
          case measure =>
            obtain ⟨ao3, cap3, h3⟩ := ownI_form HO2.out
            rw [h3]; simp [lenOf, HEL.out]; omega
end Go.Proofs.YtelmfccpcejdnaaDoor
