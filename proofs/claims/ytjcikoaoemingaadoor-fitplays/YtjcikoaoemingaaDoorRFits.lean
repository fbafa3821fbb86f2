/- The walk of the document's fits (larderwickref2): are so many places free from one on? -/
import Derived.Test.YtjcikoaoemingaaDoorArI
import Derived.Test.YtjcikoaoemingaaDoorFitM
namespace Go.Proofs.YtjcikoaoemingaaDoor
open Go.RowKit Go.Sort

def fitsB (L : List (Nat × Nat)) (p n : Nat) : Bool := (L.all fun b => !(decide (b.1 < p + n) && decide (p < b.1 + b.2))) && decide (p + n ≤ 64)
theorem fitsB_iff {L : List (Nat × Nat)} {p n : Nat} : fitsB L p n = true ↔ Fits L p n := by
  unfold fitsB Fits
  rw [Bool.and_eq_true, decide_eq_true_eq, List.all_eq_true, and_comm]
  refine and_congr_right fun _ => forall_congr' fun b => imp_congr_right fun _ => ?_
  rw [Bool.not_eq_true', Bool.and_eq_false_iff, decide_eq_false_iff_not, decide_eq_false_iff_not]
  omega
theorem fitsB_one {L : List (Nat × Nat)} {p : Nat} (hp : p < 64) : fitsB L p 1 = openAt L p := by
  unfold fitsB openAt
  rw [decide_eq_true (show p + 1 ≤ 64 by omega), Bool.and_true]

set_option maxRecDepth 100000 in
set_option maxHeartbeats 2000000 in
theorem rfits_any (L : List (Nat × Nat)) (hL : LaidF 0 L) (v : Value) (B p n : Nat) (hp : p ≤ 64) (hn : n ≤ 64) (w : World) (hv : IsAr w B v L) :
    Calls Tryd.prog 31 #[v, .int .i64 (p : Nat), .int .i64 (n : Nat)] w fun e w' => e = .returned (.bool (fitsB L p n)) ∧ Below w.heap.size w w' := by
  obtain ⟨va, vo, rfl, h1, h2⟩ := hv
  obtain ⟨aa, ca, hva⟩ := h1.form
  obtain ⟨ao, co, hvo⟩ := h2.form
  rw [atsI_length] at hva
  rw [ordsI_length] at hvo
  subst hva hvo
  have HB1 : Hid (Below w.heap.size w (w.alloc (.cells #[.slice aa L.length ca, .slice ao L.length co] 37))) := (Below.refl _ w).alloc (Nat.le_refl _) _
  have hc0 : (w.alloc (.cells #[.slice aa L.length ca, .slice ao L.length co] 37)).cell? ⟨w.heap.size, 0, none⟩ = some (.slice aa L.length ca) := by simp
  have hc1 : (w.alloc (.cells #[.slice aa L.length ca, .slice ao L.length co] 37)).cell? ⟨w.heap.size, 1, none⟩ = some (.slice ao L.length co) := by simp
  have HO1 : Hid (OwnI (w.alloc (.cells #[.slice aa L.length ca, .slice ao L.length co] 37)) B (.slice aa L.length ca) (atsI L)) := World.ownsRow.alloc h1 _
  have HO2 : Hid (OwnI (w.alloc (.cells #[.slice aa L.length ca, .slice ao L.length co] 37)) B (.slice ao L.length co) (ordsI L)) := World.ownsRow.alloc h2 _
  have HLD : Hid (LaidF 0 L) := hL
  have hlm := laid_len hL
  have HFT : Hid (fitsB L p n = ((L.all fun b => !(decide (b.1 < p + n) && decide (p < b.1 + b.2))) && decide (p + n ≤ 64))) := rfl
  clear h1 h2 hL
  go_enter Tryd.func31, Tryd.ntmps31
  go_wp2
  generalize w.alloc (.cells #[.slice aa L.length ca, .slice ao L.length co] 37) = w1 at *
  go_loopw [7] (fun v7 wr => ∃ i : Nat, i ≤ L.length ∧ v7 = .int .i64 (i : Nat) ∧ (∃ q, wr = w1.drewN q) ∧ Hid ((L.take i).all (fun b => !(decide (b.1 < p + n) && decide (p < b.1 + b.2))) = true)) (fun v7 _ => L.length - (RowKit.intOf v7).toNat)
  case atStart => exact ⟨0, Nat.zero_le _, rfl, ⟨0, rfl⟩, by simp [Hid]⟩
  case round =>
    obtain ⟨i, hi, rfl, ⟨q, hq⟩, HA⟩ := hrel
    have hd0 : wr.cell? ⟨w.heap.size, 0, none⟩ = some (.slice aa L.length ca) := by rw [hq]; exact hc0
    have hd1 : wr.cell? ⟨w.heap.size, 1, none⟩ = some (.slice ao L.length co) := by rw [hq]; exact hc1
    have HBR : Hid (Below w.heap.size w wr) := by unfold Hid; rw [hq]; exact below_drewN HB1.out _
    have HP1 : Hid (OwnI wr B (.slice aa L.length ca) (atsI L)) := by unfold Hid; rw [hq]; exact HO1.out
    have HP2 : Hid (OwnI wr B (.slice ao L.length co) (ordsI L)) := by unfold Hid; rw [hq]; exact HO2.out
    have HEQ : Hid (∀ n, ∃ q, wr.drewN n = w1.drewN q) := fun n => ⟨q + n, by rw [hq, World.drewN_drewN]⟩
    have HQ0 : Hid (∃ q, wr = w1.drewN q) := ⟨q, hq⟩
    clear hq hc0 hc1 HO1 HO2
    by_cases hin : i = L.length
    · have HF : Hid (fitsB L p n = decide (p + n ≤ 64)) := by
        have := HA.out
        rw [hin, List.take_length] at this
        rw [HFT.out, this]; rfl
      have hlt : ¬ (i : Int) < (L.length : Int) := by omega
      clear HA hin
      by_cases h64 : p + n ≤ 64
      · have h64' : (p : Int) + (n : Int) ≤ 64 := by omega
        have HFF : Hid (fitsB L p n = true) := by unfold Hid; rw [HF.out, decide_eq_true h64]
        go_wp2
        go_ret
        exact ⟨by rw [HFF.out]; rfl, HBR.out⟩
      · have h64' : ¬ (p : Int) + (n : Int) ≤ 64 := by omega
        have HFF : Hid (fitsB L p n = false) := by unfold Hid; rw [HF.out, decide_eq_false h64]
        go_wp2
        go_ret
        exact ⟨by rw [HFF.out]; rfl, HBR.out⟩
    · have hin' : i < L.length := by omega
      have hlt : (i : Int) < (L.length : Int) := by omega
      obtain ⟨ga, rfl, hga, hnca, hmca, hcx⟩ := own_at HP1.out (atsI_length L) hin'
      obtain ⟨gO, rfl, hgO, hnco, hmco, hco⟩ := own_at HP2.out (ordsI_length L) hin'
      rw [atsI_get hin'] at hcx
      rw [ordsI_get hin'] at hco
      obtain ⟨_, hb1, hb64⟩ := HLD.out.mem _ (List.getElem_mem hin')
      have HSU : Hid ((L.take (i+1)).all (fun b => !(decide (b.1 < p + n) && decide (p < b.1 + b.2))) = !(decide ((L[i]).1 < p + n) && decide (p < (L[i]).1 + (L[i]).2))) := by
        unfold Hid
        rw [List.take_succ_eq_append_getElem hin', List.all_append, HA.out]
        simp
      have HNO : Hid ((decide ((L[i]).1 < p + n) && decide (p < (L[i]).1 + (L[i]).2)) = true → fitsB L p n = false) := by
        intro h
        rw [HFT.out, Bool.and_eq_false_iff]
        refine .inl ?_
        rw [List.all_eq_false]
        exact ⟨L[i], List.getElem_mem hin', by simp [h]⟩
      unfold maxLen at hmca hmco
      clear HP1 HP2 HFT
      generalize (L[i]).1 = x at *
      generalize (L[i]).2 = y at *
      by_cases h1 : x < p + n
      · have h1' : (x : Int) < (p : Int) + (n : Int) := by omega
        by_cases h2 : p < x + y
        · have h2' : (p : Int) < (x : Int) + (y : Int) := by omega
          have HF : Hid (fitsB L p n = false) := HNO.out (by simp [h1, h2])
          clear HNO HSU HA
          go_wp2
          go_quiet (fail)
          go_wp2
          go_ret
          exact ⟨by rw [HF.out]; rfl, below_drewN HBR.out _⟩
        · have h2' : ¬ (p : Int) < (x : Int) + (y : Int) := by omega
          have HS2 : Hid ((L.take (i+1)).all (fun b => !(decide (b.1 < p + n) && decide (p < b.1 + b.2))) = true) := by unfold Hid; rw [HSU.out]; simp [h2]
          clear HNO HSU HA
          go_wp2
          go_quiet (fail)
          go_wp2
          go_roundw
          case rel => exact ⟨i + 1, by omega, by go_num, HEQ.out _, HS2.out⟩
          case measure => simp [RowKit.intOf]; omega
      · have h1' : ¬ (x : Int) < (p : Int) + (n : Int) := by omega
        have h1b : decide ((x : Int) < (p : Int) + (n : Int)) = false := by simpa using h1'
        have HS2 : Hid ((L.take (i+1)).all (fun b => !(decide (b.1 < p + n) && decide (p < b.1 + b.2))) = true) := by unfold Hid; rw [HSU.out]; simp [h1]
        clear HNO HSU HA
        go_wp2
        go_quiet (fail)
        go_wp2
        go_roundw
        case rel => exact ⟨i + 1, by omega, by go_num, HEQ.out _, HS2.out⟩
        case measure => simp [RowKit.intOf]; omega
end Go.Proofs.YtjcikoaoemingaaDoor
