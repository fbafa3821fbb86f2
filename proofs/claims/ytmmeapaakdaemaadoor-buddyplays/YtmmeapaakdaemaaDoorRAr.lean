/- The document's answer of chapter 15 (larderwickref2): an arena as two rows; the walks of free and of Free. -/
import Derived.Test.YtmmeapaakdaemaaDoorBLent
import Derived.Test.YtmmeapaakdaemaaDoorBFact
import Derived.Test.YtmmeapaakdaemaaDoorApartL
import Derived.Test.YtmmeapaakdaemaaDoorOwnCells
namespace Go.Proofs.YtmmeapaakdaemaaDoor
open Go.RowKit Go.Maps Go.Sort

/-- The document's arena: two rows of one's own, where blocks are that are lent, and of which orders. -/
def IsAr (w : World) (B : Nat) (v : Value) (L : List (Nat × Nat)) : Prop := ∃ va vo, v = .agg #[va, vo] ∧ OwnI w B va (atsI L) ∧ OwnI w B vo (ordsI L)
theorem IsAr.later {w w1 : World} {B : Nat} {v : Value} {L : List (Nat × Nat)} (h : IsAr w B v L) (hb : Below w.heap.size w w1) : IsAr w1 B v L := by
  obtain ⟨va, vo, rfl, h1, h2⟩ := h
  exact ⟨va, vo, rfl, h1.later hb, h2.later hb⟩
theorem IsAr.mono {w : World} {B B' : Nat} {v : Value} {L : List (Nat × Nat)} (h : IsAr w B v L) (hB : B' ≤ B) : IsAr w B' v L := by
  obtain ⟨va, vo, rfl, h1, h2⟩ := h
  exact ⟨va, vo, rfl, ownI_mono h1 hB, ownI_mono h2 hB⟩
/-- A row of one's own, opened at a place. -/
theorem own_at {w : World} {B n : Nat} {ao : Option Addr} {cap : Nat} {l : List Int} (h : OwnI w B (.slice ao n cap) l) (hn : l.length = n) {i : Nat} (hi : i < n) : ∃ g, ao = some ⟨g, 0, none⟩ ∧ g < w.heap.size ∧ n ≤ cap ∧ cap ≤ maxLen ∧ w.cell? ⟨g, i, none⟩ = some (.int .i64 (l[i]?.getD 0)) := by
  subst hn
  rcases h.2 with ⟨h1, h0⟩ | ⟨g, cap', cur, h1, _, hg, hnc, hm, _⟩
  · omega
  · simp only [Value.slice.injEq, true_and] at h1
    obtain ⟨rfl, rfl⟩ := h1
    exact ⟨g, rfl, (Array.getElem?_eq_some_iff.1 hg).1, hnc, hm, h.cellN rfl hi⟩
theorem pow_int (k : Nat) (hk : k ≤ 7) : ∀ w0 : World, Calls Tryd.prog 11 #[.int .i64 ((k : Nat) : Int)] w0 fun e w' => e = .returned (.int .i64 ((2 ^ k : Nat))) ∧ w' = w0 := fun w0 => pow_any k hk w0
theorem pow_most {k : Nat} (hk : k ≤ 7) : (2 ^ k : Nat) ≤ 128 := by
  have : (2 ^ k : Nat) ≤ 2 ^ 7 := Nat.pow_le_pow_right (by decide) hk
  exact this

set_option maxRecDepth 100000 in
set_option maxHeartbeats 2000000 in
theorem rfree_any (L : List (Nat × Nat)) (hO : Okay L) (v : Value) (B p k : Nat) (hp : p ≤ 64) (hk : k ≤ 7) (w : World) (hv : IsAr w B v L) :
    Calls Tryd.prog 33 #[v, .int .i64 (p : Nat), .int .i64 (k : Nat)] w fun e w' => e = .returned (.bool (freeT L p k)) ∧ Below w.heap.size w w' := by
  obtain ⟨va, vo, rfl, h1, h2⟩ := hv
  obtain ⟨aa, ca, hva⟩ := h1.form
  obtain ⟨ao, co, hvo⟩ := h2.form
  rw [atsI_length] at hva
  rw [ordsI_length] at hvo
  subst hva hvo
  have HB1 : Hid (Below w.heap.size w (w.alloc (.cells #[.slice aa L.length ca, .slice ao L.length co] 44))) := (Below.refl _ w).alloc (Nat.le_refl _) _
  have hc0 : (w.alloc (.cells #[.slice aa L.length ca, .slice ao L.length co] 44)).cell? ⟨w.heap.size, 0, none⟩ = some (.slice aa L.length ca) := by simp
  have hc1 : (w.alloc (.cells #[.slice aa L.length ca, .slice ao L.length co] 44)).cell? ⟨w.heap.size, 1, none⟩ = some (.slice ao L.length co) := by simp
  have HO1 : Hid (OwnI (w.alloc (.cells #[.slice aa L.length ca, .slice ao L.length co] 44)) B (.slice aa L.length ca) (atsI L)) := World.ownsRow.alloc h1 _
  have HO2 : Hid (OwnI (w.alloc (.cells #[.slice aa L.length ca, .slice ao L.length co] 44)) B (.slice ao L.length co) (ordsI L)) := World.ownsRow.alloc h2 _
  have HOK : Hid (Okay L) := hO
  have HFT : Hid (freeT L p k = L.all fun b => !(decide (b.1 < p + 2 ^ k) && decide (p < b.1 + 2 ^ b.2))) := rfl
  clear h1 h2 hO
  go_enter Tryd.func33, Tryd.ntmps33
  go_wp2
  generalize w.alloc (.cells #[.slice aa L.length ca, .slice ao L.length co] 44) = w1 at *
  go_loopw [7] (fun v7 wr => ∃ i : Nat, i ≤ L.length ∧ v7 = .int .i64 (i : Nat) ∧ (∃ q, wr = w1.drewN q) ∧ Hid ((L.take i).all (fun b => !(decide (b.1 < p + 2 ^ k) && decide (p < b.1 + 2 ^ b.2))) = true)) (fun v7 _ => L.length - (RowKit.intOf v7).toNat)
  case atStart => exact ⟨0, Nat.zero_le _, rfl, ⟨0, rfl⟩, by simp [Hid]⟩
  case round =>
    obtain ⟨i, hi, rfl, ⟨q, hq⟩, HA⟩ := hrel
    have hd0 : wr.cell? ⟨w.heap.size, 0, none⟩ = some (.slice aa L.length ca) := by rw [hq]; exact hc0
    have hd1 : wr.cell? ⟨w.heap.size, 1, none⟩ = some (.slice ao L.length co) := by rw [hq]; exact hc1
    have HBR : Hid (Below w.heap.size w wr) := by unfold Hid; rw [hq]; exact below_drewN HB1.out _
    have HP1 : Hid (OwnI wr B (.slice aa L.length ca) (atsI L)) := by unfold Hid; rw [hq]; exact HO1.out
    have HP2 : Hid (OwnI wr B (.slice ao L.length co) (ordsI L)) := by unfold Hid; rw [hq]; exact HO2.out
    have HEQ : Hid (∀ n, ∃ q, wr.drewN n = w1.drewN q) := fun n => ⟨q + n, by rw [hq, World.drewN_drewN]⟩
    clear hq hc0 hc1 HO1 HO2
    by_cases hin : i = L.length
    · have HF : Hid (freeT L p k = true) := by
        have := HA.out
        rw [hin, List.take_length] at this
        rw [HFT.out]; exact this
      have hlt : ¬ (i : Int) < (L.length : Int) := by omega
      clear HA hin
      go_wp2
      go_ret
      exact ⟨by rw [HF.out]; rfl, HBR.out⟩
    · have hin' : i < L.length := by omega
      have hlt : (i : Int) < (L.length : Int) := by omega
      obtain ⟨ga, rfl, hga, hnca, hmca, hcx⟩ := own_at HP1.out (atsI_length L) hin'
      obtain ⟨gO, rfl, hgO, hnco, hmco, hco⟩ := own_at HP2.out (ordsI_length L) hin'
      rw [atsI_get hin'] at hcx
      rw [ordsI_get hin'] at hco
      obtain ⟨hb6, hb0, hb64⟩ := HOK.out.1 _ (List.getElem_mem hin')
      have HSU : Hid ((L.take (i+1)).all (fun b => !(decide (b.1 < p + 2 ^ k) && decide (p < b.1 + 2 ^ b.2))) = !(decide ((L[i]).1 < p + 2 ^ k) && decide (p < (L[i]).1 + 2 ^ (L[i]).2))) := by
        unfold Hid
        rw [List.take_succ_eq_append_getElem hin', List.all_append, HA.out]
        simp
      have HNO : Hid ((decide ((L[i]).1 < p + 2 ^ k) && decide (p < (L[i]).1 + 2 ^ (L[i]).2)) = true → freeT L p k = false) := by
        intro h
        rw [HFT.out, List.all_eq_false]
        exact ⟨L[i], List.getElem_mem hin', by simp [h]⟩
      unfold maxLen at hmca hmco
      have hpk := pow_most hk
      have hpo := pow_most (show (L[i]).2 ≤ 7 by omega)
      have HP0 : Hid (∀ w0 : World, Calls Tryd.prog 11 #[.int .i64 ((k : Nat) : Int)] w0 fun e w' => e = .returned (.int .i64 ((2 ^ k : Nat))) ∧ w' = w0) := pow_int k hk
      have HPO : Hid (∀ w0 : World, Calls Tryd.prog 11 #[.int .i64 (((L[i]).2 : Nat) : Int)] w0 fun e w' => e = .returned (.int .i64 ((2 ^ (L[i]).2 : Nat))) ∧ w' = w0) := pow_int _ (by omega)
      clear hb0 HP1 HP2 HFT
      generalize (L[i]).1 = x at *
      generalize (L[i]).2 = o at *
      generalize (2 ^ k : Nat) = pk at *
      generalize (2 ^ o : Nat) = po at *
      by_cases h1 : x < p + pk
      · have h1' : (x : Int) < (p : Int) + (pk : Int) := by omega
        have h1b : decide ((x : Int) < (p : Int) + (pk : Int)) = true := by simpa using h1'
        by_cases h2 : p < x + po
        · have h2' : (p : Int) < (x : Int) + (po : Int) := by omega
          have HF : Hid (freeT L p k = false) := HNO.out (by simp [h1, h2])
          clear HNO HSU HA
          go_wp2
          go_quiet (first | (go_at_call_of 11 (Value.int .i64 ((k : Nat) : Int)); exact Calls.quiet_of_same (HP0.out _)) | (go_at_call 11; exact Calls.quiet_of_same (HPO.out _)))
          go_wp2
          go_ret
          exact ⟨by rw [HF.out]; rfl, below_drewN HBR.out _⟩
        · have h2' : ¬ (p : Int) < (x : Int) + (po : Int) := by omega
          have HS2 : Hid ((L.take (i+1)).all (fun b => !(decide (b.1 < p + pk) && decide (p < b.1 + 2 ^ b.2))) = true) := by unfold Hid; rw [HSU.out]; simp [h2]
          clear HNO HSU HA
          go_wp2
          go_quiet (first | (go_at_call_of 11 (Value.int .i64 ((k : Nat) : Int)); exact Calls.quiet_of_same (HP0.out _)) | (go_at_call 11; exact Calls.quiet_of_same (HPO.out _)))
          go_wp2
          go_roundw
          case rel => exact ⟨i + 1, by omega, by go_num, HEQ.out _, HS2.out⟩
          case measure => simp [RowKit.intOf]; omega
      · have h1' : ¬ (x : Int) < (p : Int) + (pk : Int) := by omega
        have h1b : decide ((x : Int) < (p : Int) + (pk : Int)) = false := by simpa using h1'
        have HS2 : Hid ((L.take (i+1)).all (fun b => !(decide (b.1 < p + pk) && decide (p < b.1 + 2 ^ b.2))) = true) := by unfold Hid; rw [HSU.out]; simp [h1]
        clear HNO HSU HA
        go_wp2
        go_quiet (first | (go_at_call_of 11 (Value.int .i64 ((k : Nat) : Int)); exact Calls.quiet_of_same (HP0.out _)) | (go_at_call 11; exact Calls.quiet_of_same (HPO.out _)))
        go_wp2
        go_roundw
        case rel => exact ⟨i + 1, by omega, by go_num, HEQ.out _, HS2.out⟩
        case measure => simp [RowKit.intOf]; omega
end Go.Proofs.YtmmeapaakdaemaaDoor
