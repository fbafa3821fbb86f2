/- The walk of FitFirst: what fits is lent where it fits first. -/
import Derived.Test.YtjcikoaoemingaaDoorFFact
import Derived.Test.YtjcikoaoemingaaDoorFitB
import Derived.Test.YtjcikoaoemingaaDoorOpened
import Derived.Test.YtjcikoaoemingaaDoorTold
namespace Go.Proofs.YtjcikoaoemingaaDoor
open Go.RowKit Go.Sort

set_option maxRecDepth 100000 in
set_option maxHeartbeats 2000000 in
theorem fitFirst_any (v : Value) (l : List Int) (z : Int) (w : World) (hv : IsInts w v l) (hform : ∃ ao cap, v = .slice ao l.length cap) (hg : Handle w) :
    Calls Tryd.prog 3 #[v, .int .i64 z] w fun e w' => e = .returned (.bool true) ∧ Below w.heap.size w w' := by
  have HV : Hid (IsInts w v l) := hv
  have HFO : Hid (∃ ao cap, v = .slice ao l.length cap) := hform
  have HG : Hid (Handle w) := hg
  clear hv hform hg
  go_enter Tryd.func3, Tryd.ntmps3
  go_wp2_with (go_at_call 6; fail)
  refine (fitFact_any _).mono ?_
  rintro e w1 ⟨rfl, hb⟩
  have HB1 : Hid (Below w.heap.size w w1) := hb
  clear hb
  go_wp2_with (go_at_call 7; fail)
  refine (fitted_any v l _ (HV.out.below HB1.out) HFO.out).mono ?_
  rintro e w2 ⟨a, rfl, ⟨L, hA⟩, hb⟩
  have HA2 : Hid (FAr w2 w1.heap.size a L) := hA
  have HB2 : Hid (Below w.heap.size w w2) := HB1.out.trans (hb.mono HB1.out.size)
  have HL : Hid (LaidF 0 L) := hA.laid
  have h12 := HB1.out.size
  have hlm := hA.most
  have hhl := holes_len 0 L
  clear hA hb HB1 HV HFO
  go_wp2_with (go_at_call 8; fail)
  refine (holesF_any _ _ _ _ HA2.out).mono ?_
  rintro e w3 ⟨v3, v4, rfl, h3, h4, hb⟩
  have HA3 : Hid (FAr w3 w1.heap.size a L) := HA2.out.later hb
  have HB3 : Hid (Below w.heap.size w w3) := HB2.out.trans (hb.mono HB2.out.size)
  have HO3 : Hid (OwnI w3 w2.heap.size v3 (atsI (holes 0 L))) := h3
  have HO4 : Hid (OwnI w3 w2.heap.size v4 (ordsI (holes 0 L))) := h4
  obtain ⟨a3, c3, hv3⟩ := h3.form
  obtain ⟨a4, c4, hv4⟩ := h4.form
  rw [atsI_length] at hv3
  rw [ordsI_length] at hv4
  clear h3 h4 hb HA2 HB2
  subst hv3 hv4
  obtain ⟨p, c, M, hq⟩ : ∃ p c M, lendG L z = (p, c, M) := ⟨_, _, _, rfl⟩
  have HQ : Hid (lendG L z = (p, c, M)) := hq
  go_wp2_with (go_at_call 9; fail)
  refine (lendF_any _ _ _ z _ (by have := HA3.out.fromA; have := HA3.out.lt; omega) HA3.out).mono ?_
  rw [hq]
  rintro e w4 ⟨rfl, hA, ht⟩
  obtain ⟨v0, hbx0, _⟩ := HA3.out.row
  have HB4 : Hid (Below w.heap.size w w4) := ht.below HB3.out HB3.out.size h12 (by have := hA.fromA; omega)
  have h3 := (ht.own HO3.out hbx0 (by decide)).isInts
  have h4 := (ht.own HO4.out hbx0 (by decide)).isInts
  obtain ⟨x3, y3, e3, hm3, k3⟩ := h3.opened
  obtain ⟨x4, y4, e4, hm4, k4⟩ := h4.opened
  rw [atsI_length] at k3 e3
  rw [ordsI_length] at k4 e4
  simp only [Value.slice.injEq, true_and] at e3 e4
  obtain ⟨rfl, rfl⟩ := e3
  obtain ⟨rfl, rfl⟩ := e4
  have HK3 : Hid (∀ k, k < (holes 0 L).length → ∃ b off, a3 = some ⟨b, off, none⟩ ∧ (holes 0 L).length ≤ c3 ∧ w4.cell? ⟨b, off + k, none⟩ = some (.int .i64 ((blkAt (holes 0 L) k).1 : Nat))) := fun k hk => by
    obtain ⟨b, off, e, hl, _, hc⟩ := k3 k hk
    exact ⟨b, off, e, hl, by rw [hc k hk, ats_blk hk]⟩
  have HK4 : Hid (∀ k, k < (holes 0 L).length → ∃ b off, a4 = some ⟨b, off, none⟩ ∧ (holes 0 L).length ≤ c4 ∧ w4.cell? ⟨b, off + k, none⟩ = some (.int .i64 ((blkAt (holes 0 L) k).2 : Nat))) := fun k hk => by
    obtain ⟨b, off, e, hl, _, hc⟩ := k4 k hk
    exact ⟨b, off, e, hl, by rw [hc k hk, ords_blk hk]⟩
  unfold maxLen at hm3 hm4
  have HER : Hid (∀ W, Below w.heap.size w W → Calls Tryd.prog 11 #[errV c, .int .i64 (c : Nat)] W fun e w' => e = .returned (.bool true) ∧ Below W.heap.size W w') := fun W hW => error_same c W (HG.out.below hW)
  clear hA ht hbx0 h3 h4 k3 k4 hq HA3 HB3 HO3 HO4
  by_cases hz : z < 1 ∨ 64 < z
  · have hc1 : c = 1 := by
      have := HQ.out
      unfold lendG at this
      rw [if_pos hz] at this
      simp only [Prod.mk.injEq] at this
      exact this.2.1.symm
    have hin : (decide ((1 : Int) ≤ z) && decide (z ≤ 64)) = false := by
      rw [Bool.and_eq_false_iff, decide_eq_false_iff_not, decide_eq_false_iff_not]; omega
    subst hc1
    generalize errV 1 = ve at *
    clear hz HQ
    go_wp2_with (go_at_call 10; fail)
    refine (in_range z 1 64 _).mono ?_
    rw [hin]
    rintro e w5 ⟨rfl, rfl⟩
    go_wp2_with (go_at_call 11; fail)
    refine (HER.out _ HB4.out).mono ?_
    rintro e w6 ⟨rfl, hb⟩
    go_wp2
    go_ret
    exact ⟨rfl, HB4.out.trans (hb.mono HB4.out.size)⟩
  · obtain ⟨n, rfl⟩ : ∃ n : Nat, z = n := ⟨z.toNat, by omega⟩
    have hn1 : 1 ≤ n := by omega
    have hn64 : n ≤ 64 := by omega
    have hin : (decide ((1 : Int) ≤ (n : Int)) && decide ((n : Int) ≤ 64)) = true := by
      rw [Bool.and_eq_true, decide_eq_true_eq, decide_eq_true_eq]; omega
    have HQ2 : Hid ((match roomF 0 L n with | none => (0, 4, L) | some q => (q, 0, putF q n L)) = (p, c, M)) := by
      have := HQ.out
      unfold lendG at this
      rw [if_neg hz] at this
      exact this
    have HHIT : Hid (∀ k, k < (holes 0 L).length → n ≤ (blkAt (holes 0 L) k).2 → (∀ j, j < k → ¬ n ≤ (blkAt (holes 0 L) j).2) → p = (blkAt (holes 0 L) k).1 ∧ c = 0) := fun k hk h1 h2 => by
      have h3 := HQ2.out
      rw [holes_hit HL.out hn1 hk h1 h2] at h3
      simp only [Prod.mk.injEq] at h3
      exact ⟨h3.1.symm, h3.2.1.symm⟩
    have HMISS : Hid ((∀ j, j < (holes 0 L).length → ¬ n ≤ (blkAt (holes 0 L) j).2) → c = 4) := fun h => by
      have h3 := HQ2.out
      rw [holes_miss HL.out hn1 h] at h3
      simp only [Prod.mk.injEq] at h3
      exact h3.2.1.symm
    have HVE : Hid (c = 0 → errV c = .nilIface) := fun h => by rw [h]; rfl
    have HE4 : Hid (c = 4 → ∀ W, Below w.heap.size w W → Calls Tryd.prog 11 #[errV c, .int .i64 4] W fun e w' => e = .returned (.bool true) ∧ Below W.heap.size W w') := fun h W hW => by
      have := HER.out W hW
      rw [h] at this ⊢
      exact this
    clear hz HQ HQ2 HER
    generalize errV c = ve at *
    generalize holes 0 L = H at *
    go_wp2_with (go_at_call 10; fail)
    refine (in_range (n : Nat) 1 64 _).mono ?_
    rw [hin]
    rintro e w5 ⟨rfl, rfl⟩
    go_wp2
    go_loopw [11] (fun vk wr => ∃ k : Nat, k ≤ H.length ∧ vk = .int .i64 (k : Nat) ∧ wr = w5 ∧ Hid (∀ j, j < k → ¬ n ≤ (blkAt H j).2)) (fun vk _ => H.length - (RowKit.intOf vk).toNat)
    case atStart => exact ⟨0, Nat.zero_le _, rfl, rfl, fun j hj => absurd hj (Nat.not_lt_zero _)⟩
    case round =>
      obtain ⟨k, hk, rfl, rfl, HN⟩ := hrel
      by_cases hkl : k < H.length
      · have hlt : (k : Int) < (H.length : Int) := by omega
        obtain ⟨b3, o3, rfl, hl3, hc3⟩ := HK3.out k hkl
        obtain ⟨b4, o4, rfl, hl4, hc4⟩ := HK4.out k hkl
        by_cases hnh : n ≤ (blkAt H k).2
        · obtain ⟨hp, hc⟩ := HHIT.out k hkl hnh HN.out
          have hve := HVE.out hc
          have hnh' : (n : Int) ≤ (((blkAt H k).2 : Nat) : Int) := by omega
          rw [← hp] at hc3
          have hpp : ((p : Int) == (p : Int)) = true := by simp
          clear HE4 HVE HHIT HMISS HN hp hc HK3 HK4
          subst hve
          generalize (blkAt H k).2 = y at *
          go_wp2
          go_ret
          exact ⟨rfl, HB4.out⟩
        · have hnh' : ¬ (n : Int) ≤ (((blkAt H k).2 : Nat) : Int) := by omega
          have HN2 : Hid (∀ j, j < k + 1 → ¬ n ≤ (blkAt H j).2) := fun j hj => by
            by_cases e : j = k
            · subst e; exact hnh
            · exact HN.out j (by omega)
          clear HN hnh
          generalize (blkAt H k).2 = y at *
          generalize (blkAt H k).1 = x at *
          go_wp2
          go_roundw
          case rel => exact ⟨k + 1, by omega, by go_num, trivial, HN2⟩
          case measure => simp [RowKit.intOf]; omega
      · have hlt : ¬ (k : Int) < (H.length : Int) := by omega
        have hc : c = 4 := HMISS.out fun j hj => HN.out j (by omega)
        have HE := HE4.out hc _ HB4.out
        have HE : Hid _ := HE
        clear HE4 HVE HHIT HMISS HN hc HK3 HK4
        go_wp2_with (go_at_call 11; fail)
        refine Calls.mono HE.out ?_
        rintro e w6 ⟨rfl, hb⟩
        go_wp2
        go_ret
        exact ⟨rfl, HB4.out.trans (hb.mono HB4.out.size)⟩
end Go.Proofs.YtjcikoaoemingaaDoor
