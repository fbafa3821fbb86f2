/- The walk of counted: a heap that counts, in which something was done. -/
import Derived.Test.YtmibnceadciidaaCFact
import Derived.Test.YtmibnceadciidaaStepL
namespace Go.Proofs.Ytmibnceadciidaa
set_option maxRecDepth 100000
open Go.RowKit Go.Sort

theorem doK_j {c : KS} {kind i j j' : Int} (h : kind = 0 ∨ kind = 1 ∨ kind = 2) : c.doK kind i j = c.doK kind i j' := by
  unfold KS.doK
  rcases h with h | h | h <;> subst h <;> simp
theorem step_skip {c : KS} {l : List Int} (h : l.length ≠ 3) : stepK c l = c := by
  unfold stepK
  rw [if_neg (fun e => h e.1)]
theorem step_do {c : KS} {l : List Int} (h : l.length = 3) {k : Int} (hk : at3 l 0 = k) (h0 : 0 ≤ k) (h4 : k ≤ 4) : stepK c l = (c.doK k (at3 l 1) (at3 l 2)).1 := by
  unfold stepK
  rw [if_pos ⟨h, by omega, by omega⟩, hk]
theorem step_other {c : KS} {l : List Int} (h : ¬ (0 ≤ at3 l 0 ∧ at3 l 0 ≤ 4)) : stepK c l = c := by
  unfold stepK
  rw [if_neg (fun e => h e.2)]
/-- Three cells. -/
theorem three_at {w : World} {au : Option Addr} {n cu : Nat} {l : List Int} (h : IsInts w (.slice au n cu) l) (hl : l.length = 3) : ∃ b off, au = some ⟨b, off, none⟩ ∧ w.cell? ⟨b, off, none⟩ = some (.int .i64 (at3 l 0)) ∧ w.cell? ⟨b, off + 1, none⟩ = some (.int .i64 (at3 l 1)) ∧ w.cell? ⟨b, off + 2, none⟩ = some (.int .i64 (at3 l 2)) := by
  obtain ⟨b, off, e, _, _, hc⟩ := h.open_at (k := 0) (by omega)
  exact ⟨b, off, e, hc 0 (by omega), hc 1 (by omega), hc 2 (by omega)⟩
set_option maxHeartbeats 4000000 in
theorem counted_any (v : Value) (L : List (List Int)) (w : World) (hv : IsRows w v L) :
    Calls Try.prog 8 #[v] w fun e w' => ∃ a, e = .returned (.pointer (some ⟨a, 0, none⟩)) ∧ ∃ S, Obj w w' S a (cntK L) := by
  obtain ⟨ao, co, rfl⟩ := hv.form
  have HV : Hid (IsRows w (.slice ao L.length co) L) := hv
  clear hv
  go_enter Try.func8, Try.ntmps8
  go_wp2_with (go_at_call 23; fail)
  refine (newC_any _).mono ?_
  rintro e w1 ⟨a, S0, rfl, h0, hs0, hb0⟩
  have H0 : Hid (Obj w w1 S0 a (cntTo L 0)) := ⟨h0, hs0, hb0, start_good⟩
  clear h0 hs0 hb0
  go_wp2
  go_loopw [4] (fun i wr => ∃ (k : Nat) (S : Nat → Prop), k ≤ 60 ∧ k ≤ L.length ∧ i = .int .i64 (k : Nat) ∧ Hid (Obj w wr S a (cntTo L k))) (fun i _ => 60 - (intOf i).toNat)
  case atStart => exact ⟨0, S0, by omega, by omega, rfl, H0⟩
  case round =>
    obtain ⟨k, S, hk60, hkL, rfl, H⟩ := hrel
    by_cases hlt : k < L.length
    · have hlt' : (k : Int) < (L.length : Int) := by omega
      by_cases h60 : k < 60
      · have h60' : (k : Int) < 60 := by omega
        obtain ⟨bo, offo, rfl, hlco, hbso, au, cu, hcu0, hiu, hmm, hcum⟩ := HV.out.at hlt
        have hcu := (H.out.below.cell (p := ⟨bo, offo + k, none⟩) hbso).trans hcu0
        have hiu2 := hiu.below H.out.below
        clear hcu0 hiu
        by_cases h3 : (rowAt L k).length = 3
        · obtain ⟨b, off, rfl, hc0, hc1, hc2⟩ := three_at hiu2 h3
          rw [h3] at hcu
          clear hiu2
          by_cases hkr : 0 ≤ at3 (rowAt L k) 0 ∧ at3 (rowAt L k) 0 ≤ 4
          · rcases (show at3 (rowAt L k) 0 = 0 ∨ at3 (rowAt L k) 0 = 1 ∨ at3 (rowAt L k) 0 = 2 ∨ at3 (rowAt L k) 0 = 3 ∨ at3 (rowAt L k) 0 = 4 by omega) with hkk | hkk | hkk | hkk | hkk
            · have hk0 := hkk
              have HST : Hid (stepK (cntTo L k) (rowAt L k) = ((cntTo L k).doK 0 (at3 (rowAt L k) 1) (at3 (rowAt L k) 2)).1) := step_do h3 hkk (by decide) (by decide)
              have HG2 : Hid (KGood ((cntTo L k).doK 0 (at3 (rowAt L k) 1) (at3 (rowAt L k) 2)).1) := do_good H.out.good _ _ _
              rw [hkk] at hc0
              clear hkk
              generalize at3 (rowAt L k) 1 = x1 at *
              generalize at3 (rowAt L k) 2 = x2 at *
              go_wp2_with (go_at_call 24; fail)
              refine (makeP_any S a (cntTo L k) x1 x2 wr H.out.heap H.out.good).mono ?_
              rintro e w2 ⟨rfl, hd⟩
              obtain ⟨S2, h2⟩ := H.out.done hd HG2.out
              have H2 : Hid (Obj w w2 S2 a (cntTo L (k+1))) := by unfold Hid; show Obj w w2 S2 a (stepK (cntTo L k) (rowAt L k)); rw [HST.out]; exact h2
              clear hd h2
              go_wp2
              go_roundw
              case rel => exact ⟨k + 1, S2, by omega, by omega, by go_num, H2⟩
              case measure => simp [intOf]; omega
            · have hk1 := hkk
              have HST : Hid (stepK (cntTo L k) (rowAt L k) = ((cntTo L k).doK 1 (at3 (rowAt L k) 1) (at3 (rowAt L k) 2)).1) := step_do h3 hkk (by decide) (by decide)
              have HG2 : Hid (KGood ((cntTo L k).doK 1 (at3 (rowAt L k) 1) (at3 (rowAt L k) 2)).1) := do_good H.out.good _ _ _
              rw [hkk] at hc0
              clear hkk
              generalize at3 (rowAt L k) 1 = x1 at *
              generalize at3 (rowAt L k) 2 = x2 at *
              go_wp2_with (go_at_call 16; fail)
              refine (rootP_any S a (cntTo L k) x1 x2 wr H.out.heap H.out.good).mono ?_
              rintro e w2 ⟨rfl, hd⟩
              obtain ⟨S2, h2⟩ := H.out.done hd HG2.out
              have H2 : Hid (Obj w w2 S2 a (cntTo L (k+1))) := by unfold Hid; show Obj w w2 S2 a (stepK (cntTo L k) (rowAt L k)); rw [HST.out]; exact h2
              clear hd h2
              go_wp2
              go_roundw
              case rel => exact ⟨k + 1, S2, by omega, by omega, by go_num, H2⟩
              case measure => simp [intOf]; omega
            · have hk2 := hkk
              have HST : Hid (stepK (cntTo L k) (rowAt L k) = ((cntTo L k).doK 2 (at3 (rowAt L k) 1) (at3 (rowAt L k) 2)).1) := step_do h3 hkk (by decide) (by decide)
              have HG2 : Hid (KGood ((cntTo L k).doK 2 (at3 (rowAt L k) 1) (at3 (rowAt L k) 2)).1) := do_good H.out.good _ _ _
              rw [hkk] at hc0
              clear hkk
              generalize at3 (rowAt L k) 1 = x1 at *
              generalize at3 (rowAt L k) 2 = x2 at *
              go_wp2_with (go_at_call 17; fail)
              refine (dropP_any S a (cntTo L k) x1 x2 wr H.out.heap H.out.good).mono ?_
              rintro e w2 ⟨rfl, hd⟩
              obtain ⟨S2, h2⟩ := H.out.done hd HG2.out
              have H2 : Hid (Obj w w2 S2 a (cntTo L (k+1))) := by unfold Hid; show Obj w w2 S2 a (stepK (cntTo L k) (rowAt L k)); rw [HST.out]; exact h2
              clear hd h2
              go_wp2
              go_roundw
              case rel => exact ⟨k + 1, S2, by omega, by omega, by go_num, H2⟩
              case measure => simp [intOf]; omega
            · have hk3 := hkk
              have HST : Hid (stepK (cntTo L k) (rowAt L k) = ((cntTo L k).doK 3 (at3 (rowAt L k) 1) (at3 (rowAt L k) 2)).1) := step_do h3 hkk (by decide) (by decide)
              have HG2 : Hid (KGood ((cntTo L k).doK 3 (at3 (rowAt L k) 1) (at3 (rowAt L k) 2)).1) := do_good H.out.good _ _ _
              rw [hkk] at hc0
              clear hkk
              generalize at3 (rowAt L k) 1 = x1 at *
              generalize at3 (rowAt L k) 2 = x2 at *
              have HDR : Hid (Obj w wr.drew S a (cntTo L k)) := H.out.later (Below.refl _ _).drew
              go_wp2
              go_region_law (refine step_call rfl 18 _ _ rfl #[.pointer (some ⟨a, 0, none⟩), .int .i64 x1, .int .i64 x2] (by first | rfl | (simp [Act.eval]; done) | simp [Act.eval, Act.put]) (enters_of Try.func18 (by kernel_rfl) rfl _) (linkP_any S a (cntTo L k) x1 x2 wr.drew HDR.out.heap HDR.out.good) ?_; rintro e w2 ⟨rfl, hd⟩; refine ⟨_, rfl, ?_⟩; have HDN : Hid _ := hd; clear hd)
              all_goals (
                obtain ⟨S2, h2⟩ := HDR.out.done HDN.out HG2.out
                have H2 : Hid (Obj w w2 S2 a (cntTo L (k+1))) := by unfold Hid; show Obj w w2 S2 a (stepK (cntTo L k) (rowAt L k)); rw [HST.out]; exact h2
                clear h2
                go_wp2
                go_roundw
                case rel => exact ⟨k + 1, S2, by omega, by omega, by go_num, H2⟩
                case measure => simp [intOf]; omega)
            · have hk4 := hkk
              have HST : Hid (stepK (cntTo L k) (rowAt L k) = ((cntTo L k).doK 4 (at3 (rowAt L k) 1) (at3 (rowAt L k) 2)).1) := step_do h3 hkk (by decide) (by decide)
              have HG2 : Hid (KGood ((cntTo L k).doK 4 (at3 (rowAt L k) 1) (at3 (rowAt L k) 2)).1) := do_good H.out.good _ _ _
              rw [hkk] at hc0
              clear hkk
              generalize at3 (rowAt L k) 1 = x1 at *
              generalize at3 (rowAt L k) 2 = x2 at *
              have HDR : Hid (Obj w wr.drew S a (cntTo L k)) := H.out.later (Below.refl _ _).drew
              go_wp2
              go_region_law (refine step_call rfl 19 _ _ rfl #[.pointer (some ⟨a, 0, none⟩), .int .i64 x1, .int .i64 x2] (by first | rfl | (simp [Act.eval]; done) | simp [Act.eval, Act.put]) (enters_of Try.func19 (by kernel_rfl) rfl _) (cutP_any S a (cntTo L k) x1 x2 wr.drew HDR.out.heap HDR.out.good) ?_; rintro e w2 ⟨rfl, hd⟩; refine ⟨_, rfl, ?_⟩; have HDN : Hid _ := hd; clear hd)
              all_goals (
                obtain ⟨S2, h2⟩ := HDR.out.done HDN.out HG2.out
                have H2 : Hid (Obj w w2 S2 a (cntTo L (k+1))) := by unfold Hid; show Obj w w2 S2 a (stepK (cntTo L k) (rowAt L k)); rw [HST.out]; exact h2
                clear h2
                go_wp2
                go_roundw
                case rel => exact ⟨k + 1, S2, by omega, by omega, by go_num, H2⟩
                case measure => simp [intOf]; omega)
          · have HST : Hid (Obj w wr S a (cntTo L (k+1))) := by unfold Hid; show Obj w wr S a (stepK (cntTo L k) (rowAt L k)); rw [step_other hkr]; exact H.out
            have hx0 : ¬ at3 (rowAt L k) 0 = 0 := by omega
            have hx1 : ¬ at3 (rowAt L k) 0 = 1 := by omega
            have hx2 : ¬ at3 (rowAt L k) 0 = 2 := by omega
            have hx3 : ¬ at3 (rowAt L k) 0 = 3 := by omega
            have hx4 : ¬ at3 (rowAt L k) 0 = 4 := by omega
            clear hkr
            generalize at3 (rowAt L k) 0 = x0 at *
            go_wp2
            go_roundw
            case rel => exact ⟨k + 1, S, by omega, by omega, by go_num, HST⟩
            case measure => simp [intOf]; omega
        · have h3' : ¬ ((rowAt L k).length : Int) = 3 := by omega
          have HST : Hid (Obj w wr S a (cntTo L (k+1))) := by unfold Hid; show Obj w wr S a (stepK (cntTo L k) (rowAt L k)); rw [step_skip h3]; exact H.out
          clear h3
          go_wp2
          go_roundw
          case rel => exact ⟨k + 1, S, by omega, by omega, by go_num, HST⟩
          case measure => simp [intOf]; omega
      · have h60' : ¬ (k : Int) < 60 := by omega
        have HE : Hid (Obj w wr S a (cntK L)) := by unfold Hid cntK; rw [show min 60 L.length = k by omega]; exact H.out
        go_wp2
        go_ret
        exact ⟨a, rfl, S, HE.out⟩
    · have hlt' : ¬ (k : Int) < (L.length : Int) := by omega
      have HE : Hid (Obj w wr S a (cntK L)) := by unfold Hid cntK; rw [show min 60 L.length = k by omega]; exact H.out
      go_wp2
      go_ret
      exact ⟨a, rfl, S, HE.out⟩
end Go.Proofs.Ytmibnceadciidaa
