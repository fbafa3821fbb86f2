/- The walk of landlord.letGo. -/
import Derived.Test.YtedmfehjifknbaaDoorLFind
import Derived.Test.YtedmfehjifknbaaDoorLDel
namespace Go.Proofs.YtedmfehjifknbaaDoor
set_option maxRecDepth 100000
open Go.RowKit Go.Sort

theorem grown_trans {w w1 w2 : World} {g : Option Nat} (h1 : w.grownBy w1 g) (h2 : w1.grownBy w2 g) : w.grownBy w2 g :=
  ⟨h2.os.trans h1.os, h2.tape.trans h1.tape, h2.output.trans h1.output, Nat.le_trans h1.size h2.size, fun k hk hr => (h2.block k (Nat.lt_of_lt_of_le hk h1.size) hr).trans (h1.block k hk hr)⟩
theorem grown_weak {w w1 : World} (g : Option Nat) (h : w.grownBy w1 none) : w.grownBy w1 g := ⟨h.os, h.tape, h.output, h.size, fun k hk _ => h.block k hk (by simp)⟩
theorem grown_later {w w1 : World} (g : Option Nat) (h : Below w.heap.size w w1) : w.grownBy w1 g := grown_weak g (grown_of_below h)

set_option maxHeartbeats 2000000 in
theorem letgoT_any (base : Nat) (v : Value) (t : List (Int × Nat)) (w : World) (hO : OwnT w base v t) (h0 : 0 < t.length) (ht : t.length ≤ 8) (hcr : ∀ x, x ∈ t → x.2 ≤ 20) :
    Calls Tryd.prog 22 #[v] w fun e w' => ∃ v', e = .returned v' ∧ OwnT w' base v' (letOut t) ∧ v'.ownBlock = v.ownBlock ∧ w.grownBy w' v.ownBlock := by
  obtain ⟨g, cap, rfl, hgb, hgw, hlc, hcap⟩ := hO.block h0
  have HO : Hid (OwnT w base (.slice (some ⟨g, 0, none⟩) t.length cap) t) := hO
  have HCR : Hid (∀ x, x ∈ t → x.2 ≤ 20) := hcr
  have hc0 : w.cell? ⟨g, 1, none⟩ = some (.int .i64 ((tenAt t 0).2 : Nat)) := by have := hO.credit rfl h0; rwa [Nat.zero_mul, Nat.zero_add] at this
  clear hO hcr
  unfold maxLen at hcap
  generalize hd0 : (tenAt t 0).2 = c0 at *
  have HD0 : Hid ((tenAt t 0).2 = c0) := hd0
  clear hd0
  go_enter Tryd.func22, Tryd.ntmps22
  go_wp2
  go_loopw [3, 5, 14] (fun r _ i wr => ∃ k : Nat, k ≤ t.length ∧ i = .int .i64 k ∧ r = .int .i64 (leastTo t k : Nat) ∧ Below w.heap.size w wr) (fun _ _ i _ => t.length - (intOf i).toNat)
  case atStart => exact ⟨0, by omega, rfl, by rw [leastTo, HD0.out], Below.refl _ _⟩
  case round =>
    obtain ⟨k, hk, rfl, rfl, hbel⟩ := hrel
    have HB : Hid (Below w.heap.size w wr) := hbel
    by_cases hlt : k < t.length
    · have hc1 : wr.cell? ⟨g, k * 2, none⟩ = some (.int .i64 (tenAt t k).1) := (hbel.cell (by exact hgw)).trans (HO.out.page rfl hlt)
      have hc2 : wr.cell? ⟨g, k * 2 + 1, none⟩ = some (.int .i64 ((tenAt t k).2 : Nat)) := (hbel.cell (by exact hgw)).trans (HO.out.credit rfl hlt)
      clear hbel
      have HS : Hid (leastTo t (k+1) = min (leastTo t k) (tenAt t k).2) := rfl
      generalize hx : tenAt t k = x at *
      obtain ⟨q, m⟩ := x
      simp only at hc1 hc2 HS
      generalize leastTo t k = a at *
      rcases Nat.lt_or_ge m a with h | h
      · go_wp2
        go_roundw
        case rel => exact ⟨k + 1, by omega, by go_num, by rw [HS.out, Nat.min_eq_right (Nat.le_of_lt h)], HB.out.alloc HB.out.size _⟩
        case measure => simp [intOf]; omega
      · go_wp2
        go_roundw
        case rel => exact ⟨k + 1, by omega, by go_num, by rw [HS.out, Nat.min_eq_left h], HB.out.alloc HB.out.size _⟩
        case measure => simp [intOf]; omega
    · have hkl : k = t.length := by omega
      have HD : Hid (leastTo t k = leastOf t) := by unfold Hid; rw [hkl]; exact leastTo_all h0
      clear hkl hbel
      rw [HD.out]
      have HLE : Hid (∀ x, x ∈ t → leastOf t ≤ x.2) := fun x hx => leastOf_le hx
      have HOUT : Hid ((lessBy (leastOf t) t).eraseIdx ((lessBy (leastOf t) t).findIdx fun x => x.2 == 0) = letOut t) := letOut_is h0
      have HPL : Hid (placeT (lessBy (leastOf t) t) (fun x => x.2 == 0) = (((lessBy (leastOf t) t).findIdx fun x => x.2 == 0 : Nat) : Int)) := by unfold Hid placeT; rw [if_pos (out_any h0)]
      have hol := out_lt h0
      generalize leastOf t = d at *
      have HR0 : Hid (OwnT wr base (.slice (some ⟨g, 0, none⟩) t.length cap) (lessTo d t 0)) := by unfold Hid; rw [lessTo_zero]; exact HO.out.later HB.out
      have HG0 : Hid (w.grownBy wr (some g)) := grown_later _ HB.out
      clear HD HD0 hc0
      go_wp2
      go_loopw [6, 25] (fun _ i wr => ∃ k : Nat, k ≤ t.length ∧ i = .int .i64 k ∧ OwnT wr base (.slice (some ⟨g, 0, none⟩) t.length cap) (lessTo d t k) ∧ w.grownBy wr (some g)) (fun _ i _ => t.length - (intOf i).toNat)
      case atStart => exact ⟨0, by omega, rfl, HR0.out, HG0.out⟩
      case round =>
        obtain ⟨j, hj, rfl, hoj, hgj⟩ := hrel
        have HOJ : Hid (OwnT wr base (.slice (some ⟨g, 0, none⟩) t.length cap) (lessTo d t j)) := hoj
        have HGJ : Hid (w.grownBy wr (some g)) := hgj
        have HLL : Hid (t.length = (lessTo d t j).length) := (lessTo_length d t hj).symm
        clear hgj
        by_cases hlj : j < t.length
        · have hc1 := hoj.credit HLL.out (j := j) (by rw [← HLL.out]; exact hlj)
          have hf1 := hoj.unfrozen HLL.out (j * 2 + 1)
          have HS : Hid ((lessTo d t j).set j ((tenAt t j).1, (tenAt t j).2 - d) = lessTo d t (j+1)) := lessTo_succ hlj
          have HTA : Hid (tenAt (lessTo d t j) j = tenAt t j) := lessTo_at hlj
          rw [HTA.out] at hc1
          have hm1 := HLE.out _ (tenAt_mem hlj)
          have hm2 := HCR.out _ (tenAt_mem hlj)
          clear hoj
          generalize hx : tenAt t j = x at *
          obtain ⟨q, m⟩ := x
          simp only at *
          have HSUB : Hid ((m : Int) - (d : Int) = ((m - d : Nat) : Int)) := by unfold Hid; omega
          go_wp2
          go_roundw
          case rel =>
            have S := HOJ.out.setCredit HLL.out j (m - d)
            rw [HTA.out, HS.out, ← HSUB.out] at S
            exact ⟨j + 1, by omega, by go_num, S.1, grown_trans HGJ.out S.2⟩
          case measure => simp [intOf]; omega
        · have hjl : j = t.length := by omega
          have HOE : Hid (OwnT wr base (.slice (some ⟨g, 0, none⟩) t.length cap) (lessBy d t)) := by have := hoj; rw [hjl, lessTo_all] at this; exact this
          have HLB : Hid ((lessBy d t).length = t.length) := by unfold Hid lessBy; rw [List.length_map]
          clear hoj HOJ hjl HLL
          generalize (lessBy d t).findIdx (fun x => x.2 == 0) = ix at *
          have HIX : Hid ((ix : Int) + 1 = ((ix + 1 : Nat) : Int)) := by unfold Hid; omega
          go_wp2_with (go_at_call 20; fail)
          refine (tpoor_any base _ (lessBy d t) _ HOE.out (by rw [HLB.out]; exact ht)).mono ?_
          rintro e w1 ⟨rfl, hb1⟩
          rw [HPL.out]
          have HO1 : Hid (OwnT w1 base (.slice (some ⟨g, 0, none⟩) t.length cap) (lessBy d t)) := HOE.out.later hb1
          have HG1 : Hid (w.grownBy w1 (some g)) := grown_trans HGJ.out (grown_later _ hb1)
          clear hb1 HOE HGJ
          go_wp2_with (go_at_call 32; fail)
          rw [HIX.out, ← HLB.out]
          refine (tdel_any base g cap ix (ix + 1) (lessBy d t) w1 (by rw [HLB.out]; exact HO1.out) (by rw [HLB.out]; exact hol) rfl (by rw [HLB.out]; exact ht) (by rw [HLB.out]; exact hlc)).mono ?_
          rintro e w2 ⟨rfl, ho2, hg2⟩
          rw [HOUT.out] at ho2
          have HO2 : Hid (OwnT w2 base (.slice (some ⟨g, 0, none⟩) ((lessBy d t).length - 1) cap) (letOut t)) := ho2
          have HG2 : Hid (w.grownBy w2 (some g)) := grown_trans HG1.out hg2
          clear ho2 hg2
          go_wp2
          go_ret
          exact ⟨_, rfl, HO2.out, rfl, HG2.out⟩
end Go.Proofs.YtedmfehjifknbaaDoor
