/- The walk of sweep.walk: pointers are turned on the way down, and back on the way up. -/
import Derived.Test.YtelmfccpcejdnaaDoorSWalkL
import Derived.Test.YtelmfccpcejdnaaDoorSMark
import Derived.Test.YtelmfccpcejdnaaDoorQuietLast
import Derived.WalkMore
import Derived.Deep.LoopGhost
namespace Go.Proofs.YtelmfccpcejdnaaDoor
set_option maxRecDepth 100000
open Go.RowKit Go.Sort

theorem past_new {w : World} {n : Nat} (h : n ≤ 40) (B : Nat) (hB : B ≤ w.heap.size) : OwnI (w.alloc (.cells (madeCells #[.int .i64 0] n) 3)) B (.slice (some ⟨w.heap.size, 0, none⟩) n n) (intsP (List.replicate n 0)) := by
  have hl : (intsP (List.replicate n 0)).length = n := by rw [intsP_length, List.length_replicate]
  refine ⟨by rw [List.length_map, Nat.mul_one], .inr ⟨w.heap.size, n, madeCells #[.int .i64 0] n, by rw [hl], hB, heap_alloc_new _ _, by rw [hl]; exact Nat.le_refl _, by unfold maxLen; omega, by rw [size_madeCells, Nat.mul_one], ?_⟩⟩
  rw [hl, Nat.mul_one, toList_madeCells_one, List.take_of_length_le (by rw [List.length_replicate]; exact Nat.le_refl _)]
  simp [intsP]
section
variable {lo bo B gm : Nat} {L : List (List Int)} {R A C : List Int}
set_option maxHeartbeats 2000000 in
theorem swalk_any (hf : FineH L R) (x : Nat) (v vo : Value) (w : World) (hx : x < L.length) (hI : Inn L A) (hd : Deep (gOf L) A [(x : Int)] C) (ho : Ord w B bo A vo) (ht : TRows w lo bo v L)
    (hc : w.cell? ⟨gm, 0, none⟩ = some (.pointer (some ⟨bo, 0, none⟩))) (hgm : bo < gm ∧ gm < B) (hlo : lo ≤ bo) :
    Calls Tryd.prog 24 #[.int .i64 (x : Nat), v, .func (.func 31) #[] #[.pointer (some ⟨gm, 0, none⟩)]] w fun e w' => e = .returned (.tuple #[]) ∧ (∃ vo', Ord w' B bo C vo') ∧ TRows w' lo bo v L ∧ Wr lo bo B w w' := by
  obtain ⟨av, cv, rfl⟩ := ht.form
  have HF : Hid (FineH L R) := hf
  have HO : Hid (Ord w B bo A vo) := ho
  have HT : Hid (TRows w lo bo (.slice av L.length cv) L) := ht
  have HC : Hid (w.cell? ⟨gm, 0, none⟩ = some (.pointer (some ⟨bo, 0, none⟩))) := hc
  have HGM : Hid (bo < gm ∧ gm < B ∧ lo ≤ bo) := ⟨hgm.1, hgm.2, hlo⟩
  have hl12 := hf.few
  have hA100 : A.length ≤ 100 := by have := hI.few; omega
  by_cases hA : (x : Int) ∈ A
  · have HA : Hid ((x : Int) ∈ A) := hA
    have hCA : C = A := ((Deep.pop hA).1 hd).det .nil
    subst hCA
    clear hd ho hI hA ht hc hgm hlo
    go_enter Tryd.func24, Tryd.ntmps24
    go_step3
    go_wp2_with (go_at_call 31; go_must (refine (mark_old (x : Int) HA.out HO.out HC.out).mono ?_; rintro e w' ⟨rfl, hw⟩; have hw := hw.symm; subst hw))
    rw [Exit.noGoto_ret]
    refine bodyPost_ret (results_none rfl _ _ _) rfl ?_
    exact ⟨rfl, ⟨_, HO.out⟩, HT.out, Wr.refl _ _ _ _⟩
  · have HA : Hid ((x : Int) ∉ A) := hA
    have HII : Hid (Inn L A) := hI
    have HD : Hid (Deep (gOf L) A [(x : Int)] C) := hd
    obtain ⟨i0, hi, hz0, hz1, hz2⟩ := info_parts Tryd.info3
    have hmk : ∀ w, (Instr.makeSlice 23 (.int .i64 L.length) (.int .i64 L.length)).run Tryd.prog w = .ok (.slice (some ⟨w.heap.size, 0, none⟩) L.length L.length) (w.alloc (.cells (madeCells #[.int .i64 0] L.length) 3)) := fun w => by
      have := run_make (P := Tryd.prog) w 23 3 i0 (.int .i64 0) Tryd.underlying23 hi hz0 .i64 .i64 L.length L.length (by omega) (Int.le_refl _) (by rw [hz2]; omega) (by omega)
      rw [this, hz1, Int.toNat_natCast, Nat.mul_one]; rfl
    clear hi hz0 hz1 hz2
    clear hd ho hI hA ht hc hgm hlo
    go_enter Tryd.func24, Tryd.ntmps24
    go_step3
    go_wp2_with (go_at_call 31; fail)
    refine (mark_new (x : Int) HA.out hA100 HO.out HC.out (by have := HGM.out; omega) HGM.out.2.1).mono ?_
    rintro e w1 ⟨rfl, vo1, ho1, hm1⟩
    have HP0 : Hid (OwnI (w1.alloc (.cells (madeCells #[.int .i64 0] L.length) 3)) B (.slice (some ⟨w1.heap.size, 0, none⟩) L.length L.length) (intsP (List.replicate L.length 0))) := past_new (by omega) B ho1.le
    have HB1 : Hid (Below w1.heap.size w1 (w1.alloc (.cells (madeCells #[.int .i64 0] L.length) 3))) := (Below.refl _ _).alloc (Nat.le_refl _) _
    have HS1 : Hid (w1.heap.size < (w1.alloc (.cells (madeCells #[.int .i64 0] L.length) 3)).heap.size) := by unfold Hid; simp
    go_wp2
    go_step3
    go_wp2
    have HGB : Hid (∃ g c, Value.slice av L.length cv = .slice (some ⟨g, 0, none⟩) L.length c) := by
      obtain ⟨g, c, _, _, e, _⟩ := HT.out.row hx
      exact ⟨g, c, e⟩
    obtain ⟨gB, cB, hgB⟩ := HGB.out
    simp only [Value.slice.injEq, true_and] at hgB
    obtain ⟨rfl, rfl⟩ := hgB
    have HST : Hid (St lo bo B w1.heap.size (.slice (some ⟨gB, 0, none⟩) L.length cv) L C (A ++ [(x : Int)]) (List.replicate L.length 0) x [] vo1 w (w1.alloc (.cells (madeCells #[.int .i64 0] L.length) 3))) :=
      st_start hx HA.out HD.out HII.out HO.out ho1 hm1 HT.out HGM.out.2.2 HB1.out HP0.out HS1.out
    clear HO HT HB1 HP0 HS1 ho1 hm1 hmk HD HII HGB
    generalize w1.alloc (.cells (madeCells #[.int .i64 0] L.length) 3) = w2 at *
    generalize w1.heap.size = pb at *
    go_loopg [7, 8] (2 * unmarked (upTo L.length) (A ++ [(x : Int)]) + 1) (fun g s7 s8 wr => ∃ (A2 : List Int) (P : List Nat) (x2 : Nat) (S : List Nat) (vo2 : Value), s7 = .int .i64 (topI S) ∧ s8 = .int .i64 (x2 : Nat) ∧ Hid (St lo bo B pb (.slice (some ⟨gB, 0, none⟩) L.length cv) L C A2 P x2 S vo2 w wr) ∧ 2 * unmarked (upTo L.length) A2 + S.length + 1 ≤ g)
    case atStart => exact ⟨_, _, x, [], vo1, rfl, rfl, HST, by simp⟩
    case round =>
      obtain ⟨A2, P, x2, S, vo2, rfl, rfl, HS2, hg⟩ := hrel
      clear HST
      obtain ⟨gO, rfl⟩ : ∃ t, gk = t + 1 := ⟨gk - 1, by omega⟩
      obtain ⟨wA, hwA⟩ : ∃ wA, wA = wr := ⟨_, rfl⟩
      subst hwA
      have HGO : Hid (2 * unmarked (upTo L.length) A2 + S.length ≤ gO) := by unfold Hid; omega
      clear hg
      go_wp2
      go_loopg [7, 8] ((outsOf L x2).length + 1) (fun g2 s7 s8 wy => ∃ (P2 : List Nat), s7 = .int .i64 (topI S) ∧ s8 = .int .i64 (x2 : Nat) ∧ Hid (St lo bo B pb (.slice (some ⟨gB, 0, none⟩) L.length cv) L C A2 P2 x2 S vo2 w wy) ∧ (outsOf L x2).length + 1 ≤ g2 + pAt P2 x2)
      case atStart => exact ⟨P, rfl, rfl, HS2, by omega⟩
      case round =>
        obtain ⟨P2, rfl, rfl, HS3, hg2⟩ := hrel
        clear HS2
        have hx2 := HS3.out.mid.node
        have hx2i : (x2 : Int) < (L.length : Int) := by omega
        obtain ⟨au, cu, hLc, hcc, hrow, hcu, hruc, hcell⟩ := turned_row HS3.out.rows rfl hx2
        have hout4 : (outsOf L x2).length ≤ 4 := HF.out.outs _ (rowAt_mem hx2)
        obtain ⟨hpc, hps⟩ := HS3.out.cell hx2
        have HCE : Hid (∀ k, k < (outsOf L x2).length → ∃ b, au = some ⟨b, 0, none⟩ ∧ wr.cell? ⟨b, k, none⟩ = some (.int .i64 ((outsOf (turnR L (pAt P2) S) x2)[k]?.getD 0)) ∧ wr.frozen? ⟨b, k, none⟩ = false ∧ lo ≤ b ∧ b < bo ∧ b < wr.heap.size ∧ ∀ y : Int, TRows (wr.setCell ⟨b, k, none⟩ (.int .i64 y)) lo bo (.slice (some ⟨gB, 0, none⟩) L.length cv) (put2 (turnR L (pAt P2) S) x2 k y)) := hcell
        have HXO : Hid (outsOf (turnR L (pAt P2) S) x2 = outsOf L x2) := turnR_out HS3.out.mid.notin
        clear hcell
        generalize hp : pAt P2 x2 = p at *
        have HP : Hid (pAt P2 x2 = p) := hp
        clear hp
        by_cases hlt : p < (outsOf L x2).length
        · have hlt' : (p : Int) < ((outsOf L x2).length : Int) := by omega
          have hyr := List.getElem?_eq_getElem hlt
          obtain ⟨bR, rfl, hcR, hsR, _⟩ := HCE.out p hlt
          rw [HXO.out, hyr, Option.getD_some] at hcR
          have hyn := HF.out.node _ (rowAt_mem hx2) _ (List.getElem_mem hlt)
          generalize (outsOf L x2)[p] = y at *
          obtain ⟨y, rfl⟩ : ∃ t : Nat, y = (t : Int) := ⟨y.toNat, by omega⟩
          have HYR : Hid ((outsOf L x2)[p]? = some (y : Int)) := hyr
          have hyl : y < L.length := by omega
          have hgc : wr.cell? ⟨gm, 0, none⟩ = some (.pointer (some ⟨bo, 0, none⟩)) := (HS3.out.wr.cell (p := ⟨gm, 0, none⟩) HGM.out.2.1 HGM.out.1).trans HC.out
          have HGC : Hid (wr.cell? ⟨gm, 0, none⟩ = some (.pointer (some ⟨bo, 0, none⟩))) := hgc
          clear hyr hyn hgc
          clear HCE
          go_wp2
          go_quiet (fail)
          have HS4 : Hid (St lo bo B pb (.slice (some ⟨gB, 0, none⟩) L.length cv) L C A2 P2 x2 S vo2 w (wr.drewN nq)) := HS3.out.drewN nq
          have hrow2 : (wr.drewN nq).cell? ⟨gB, x2, none⟩ = some (.slice (some ⟨bR, 0, none⟩) (outsOf L x2).length cu) := hrow
          have hpc2 : (wr.drewN nq).cell? ⟨pb, x2, none⟩ = some (.int .i64 (p : Nat)) := hpc
          have hps2 : (wr.drewN nq).frozen? ⟨pb, x2, none⟩ = false := hps
          have hcR2 : (wr.drewN nq).cell? ⟨bR, p, none⟩ = some (.int .i64 (y : Nat)) := hcR
          have hsR2 : (wr.drewN nq).frozen? ⟨bR, p, none⟩ = false := hsR
          have HGC2 : Hid ((wr.drewN nq).cell? ⟨gm, 0, none⟩ = some (.pointer (some ⟨bo, 0, none⟩))) := HGC.out
          clear HS3 hrow hpc hps hcR hsR HGC
          generalize wr.drewN nq = wj at *
          have HS3 := HS4
          have hrow := hrow2
          have hpc := hpc2
          have hps := hps2
          have hcR := hcR2
          have hsR := hsR2
          have HGC := HGC2
          clear HS4 hrow2 hpc2 hps2 hcR2 hsR2 HGC2
          go_wp2
          go_quiet (fail)
          have HS4 : Hid (St lo bo B pb (.slice (some ⟨gB, 0, none⟩) L.length cv) L C A2 P2 x2 S vo2 w (wj.drewN nq)) := HS3.out.drewN nq
          have hrow2 : (wj.drewN nq).cell? ⟨gB, x2, none⟩ = some (.slice (some ⟨bR, 0, none⟩) (outsOf L x2).length cu) := hrow
          have hpc2 : (wj.drewN nq).cell? ⟨pb, x2, none⟩ = some (.int .i64 (p : Nat)) := hpc
          have hps2 : (wj.drewN nq).frozen? ⟨pb, x2, none⟩ = false := hps
          have hcR2 : (wj.drewN nq).cell? ⟨bR, p, none⟩ = some (.int .i64 (y : Nat)) := hcR
          have hsR2 : (wj.drewN nq).frozen? ⟨bR, p, none⟩ = false := hsR
          have HGC2 : Hid ((wj.drewN nq).cell? ⟨gm, 0, none⟩ = some (.pointer (some ⟨bo, 0, none⟩))) := HGC.out
          clear HS3 hrow hpc hps hcR hsR HGC
          generalize wj.drewN nq = wk at *
          have HS3 := HS4
          have hrow := hrow2
          have hpc := hpc2
          have hps := hps2
          have hcR := hcR2
          have hsR := hsR2
          have HGC := HGC2
          clear HS4 hrow2 hpc2 hps2 hcR2 hsR2 HGC2
          go_wp2_with (go_at_call 31; fail)
          by_cases hA2 : (y : Int) ∈ A2
          · have HA2 : Hid ((y : Int) ∈ A2) := hA2
            clear hA2
            refine (mark_old (y : Int) HA2.out HS3.out.ord HGC.out).mono ?_
            rintro e w' ⟨rfl, hw⟩
            have hw := hw.symm
            subst hw
            go_wp2
            go_roundg (gk - 1)
            case measure => omega
            case rel =>
              have H := HS3.out.seen (by rw [HP.out]; exact HYR.out) HA2.out
              rw [HP.out] at H
              exact ⟨_, rfl, rfl, H, by rw [pAt_set (by rw [HS3.out.mid.len]; exact hx2), if_pos rfl]; omega⟩
          · have HA2 : Hid ((y : Int) ∉ A2) := hA2
            clear hA2
            have hA3 : A2.length ≤ 100 := by have := HS3.out.inn.few; omega
            refine (mark_new (y : Int) HA2.out hA3 HS3.out.ord HGC.out (by have := HGM.out; omega) HGM.out.2.1).mono ?_
            rintro e w4 ⟨rfl, vo4, ho4, hm4⟩
            have HO4 : Hid (Ord w4 B bo (A2 ++ [(y : Int)]) vo4) := ho4
            have HM4 : Hid (Marks bo vo2 vo4 wk w4) := hm4
            clear ho4 hm4
            have HR4 : Hid (TRows w4 lo bo (.slice (some ⟨gB, 0, none⟩) L.length cv) (turnR L (pAt P2) S)) := HS3.out.marked HM4.out
            obtain ⟨au4, cu4, _, _, hrow4, hcu4, _, hcell4⟩ := turned_row HR4.out rfl hx2
            obtain ⟨b4, rfl, hc4, hs4, hlo4, hhi4, _, hset4⟩ := hcell4 p hlt
            have HLH : Hid (lo ≤ b4 ∧ b4 < bo) := ⟨hlo4, hhi4⟩
            have HSET : Hid (∀ y : Int, TRows (w4.setCell ⟨b4, p, none⟩ (.int .i64 y)) lo bo (.slice (some ⟨gB, 0, none⟩) L.length cv) (put2 (turnR L (pAt P2) S) x2 p y)) := hset4
            have hpc4 := HS3.out.cell_marked HM4.out hx2
            rw [HP.out] at hpc4
            clear hcell4 hset4 hlo4 hhi4 hrow hpc hps hcR hsR
            go_wp2
            refine wp_region_quiet_last 10 (by kernel_rfl) (by kernel_rfl) ?_
            simp only [List.take_succ_cons, List.take_zero, List.drop_succ_cons, List.drop_zero]
            repeat (go_big_quiet_step (fail))
            refine wpQuiet_nil ?_
            intro _ hw'
            obtain ⟨nq, hw''⟩ := hw'
            subst hw''
            go_wp2
            go_roundg gO
            case measure => omega
            case rel =>
              have HT5 : TRows ((w4.drewN nq).setCell ⟨b4, p, none⟩ (.int .i64 (topI S))) lo bo (.slice (some ⟨gB, 0, none⟩) L.length cv) (put2 (turnR L (pAt P2) S) x2 p (topI S)) := (HSET.out (topI S)).kept fun _ _ _ _ => rfl
              rw [← HP.out] at HT5
              have H := HS3.out.down (by rw [HP.out]; exact HYR.out) HA2.out hyl (HO4.out.drewN nq) (HM4.out.drewN nq) HLH.out HT5
              rw [HP.out] at H
              refine ⟨_, P2, y, x2 :: S, vo4, rfl, rfl, H, ?_⟩
              have := unm_less (n := L.length) ⟨by omega, by omega⟩ HA2.out
              have := HGO.out
              simp only [List.length_cons]
              omega
        · have hlt' : ¬ (p : Int) < ((outsOf L x2).length : Int) := by omega
          have HEN : Hid (¬ pAt P2 x2 < (outsOf L x2).length) := by unfold Hid; rw [HP.out]; exact hlt
          cases S with
          | nil =>
            rw [show topI [] = -1 from rfl]
            clear HCE
            go_wp2
            go_quiet (fail)
            go_wp2
            try rw [Exit.noGoto_ret]
            refine bodyPost_ret (results_none rfl _ _ _) rfl ?_
            have hCA : C = A2 := HS3.out.mid.end HEN.out
            have HS4 := HS3.out.drewN nq
            refine ⟨rfl, ⟨vo2, by rw [hCA]; exact HS4.ord⟩, ?_, HS4.wr⟩
            exact HS4.rows
          | cons a S =>
            rw [show topI (a :: S) = (a : Int) from rfl]
            have hz : ((a : Int) == -1) = false := by rw [beq_eq_false_iff_ne]; omega
            obtain ⟨_, _, _, ha, hka⟩ := HS3.out.mid.up HEN.out
            have hai : (a : Int) < (L.length : Int) := by omega
            obtain ⟨hpa, hpas⟩ := HS3.out.cell ha
            obtain ⟨auA, cuA, _, _, hrowA, hcuA, hlcA, hcellA⟩ := turned_row HS3.out.rows rfl ha
            obtain ⟨bA, rfl, hcA, hsA, hloA, hhiA, _, _⟩ := hcellA (pAt P2 a) hka
            rw [turnR_top hka, Option.getD_some] at hcA
            have HLH : Hid (lo ≤ bA ∧ bA < bo) := ⟨hloA, hhiA⟩
            generalize hq : pAt P2 a = q at *
            have HQ : Hid (pAt P2 a = q) := hq
            have hqi : (q : Int) < ((outsOf L a).length : Int) := by omega
            have hout4a : (outsOf L a).length ≤ 4 := HF.out.outs _ (rowAt_mem ha)
            have hne : bA ≠ pb := by have := HS3.out.Bpb; have := HS3.out.ord.lt; omega
            clear hcellA hloA hhiA hq HCE
            go_wp2
            go_quiet (fail)
            clear hrow hpc hps
            have HS4 : Hid (St lo bo B pb (.slice (some ⟨gB, 0, none⟩) L.length cv) L C A2 P2 x2 (a :: S) vo2 w (wr.drewN nq)) := HS3.out.drewN nq
            have hrowA2 : (wr.drewN nq).cell? ⟨gB, a, none⟩ = some (.slice (some ⟨bA, 0, none⟩) (outsOf L a).length cuA) := hrowA
            have hpa2 : (wr.drewN nq).cell? ⟨pb, a, none⟩ = some (.int .i64 (q : Nat)) := hpa
            have hpas2 : (wr.drewN nq).frozen? ⟨pb, a, none⟩ = false := hpas
            have hcA2 : (wr.drewN nq).cell? ⟨bA, q, none⟩ = some (.int .i64 (topI S)) := hcA
            have hsA2 : (wr.drewN nq).frozen? ⟨bA, q, none⟩ = false := hsA
            clear HS3 hrowA hpa hpas hcA hsA
            generalize wr.drewN nq = wj at *
            have HS3 := HS4
            have hrowA := hrowA2
            have hpa := hpa2
            have hpas := hpas2
            have hcA := hcA2
            have hsA := hsA2
            clear HS4 hrowA2 hpa2 hpas2 hcA2 hsA2
            go_wp2
            go_quiet (fail)
            have HS4 : Hid (St lo bo B pb (.slice (some ⟨gB, 0, none⟩) L.length cv) L C A2 P2 x2 (a :: S) vo2 w (wj.drewN nq)) := HS3.out.drewN nq
            have hrowA2 : (wj.drewN nq).cell? ⟨gB, a, none⟩ = some (.slice (some ⟨bA, 0, none⟩) (outsOf L a).length cuA) := hrowA
            have hpa2 : (wj.drewN nq).cell? ⟨pb, a, none⟩ = some (.int .i64 (q : Nat)) := hpa
            have hpas2 : (wj.drewN nq).frozen? ⟨pb, a, none⟩ = false := hpas
            have hcA2 : (wj.drewN nq).cell? ⟨bA, q, none⟩ = some (.int .i64 (topI S)) := hcA
            have hsA2 : (wj.drewN nq).frozen? ⟨bA, q, none⟩ = false := hsA
            clear HS3 hrowA hpa hpas hcA hsA
            generalize wj.drewN nq = wk at *
            have HS3 := HS4
            have hrowA := hrowA2
            have hpa := hpa2
            have hpas := hpas2
            have hcA := hcA2
            have hsA := hsA2
            clear HS4 hrowA2 hpa2 hpas2 hcA2 hsA2
            go_wp2
            refine wp_region_quiet_last 10 (by kernel_rfl) (by kernel_rfl) ?_
            simp only [List.take_succ_cons, List.take_zero, List.drop_succ_cons, List.drop_zero]
            repeat (go_big_quiet_step (fail))
            refine wpQuiet_nil ?_
            intro _ hw'
            obtain ⟨nq, hw''⟩ := hw'
            subst hw''
            have HS4 : Hid (St lo bo B pb (.slice (some ⟨gB, 0, none⟩) L.length cv) L C A2 P2 x2 (a :: S) vo2 w (wk.drewN nq)) := HS3.out.drewN nq
            have hpa2 : ((wk.drewN nq).setCell ⟨bA, q, none⟩ (.int .i64 (x2 : Nat))).cell? ⟨pb, a, none⟩ = some (.int .i64 (q : Nat)) := (World.cell?_setCell_other _ _ _ _ (fun e => hne (congrArg Addr.block e))).trans hpa
            have hpas2 : ((wk.drewN nq).setCell ⟨bA, q, none⟩ (.int .i64 (x2 : Nat))).frozen? ⟨pb, a, none⟩ = false := (OwnI.set_other HS4.out.past _ (fun e => hne (by simp only [Value.ownBlock, Option.some.injEq] at e; exact e.symm))).softN (by rw [intsP_length]; exact HS4.out.mid.len) a
            go_wp2
            go_roundg gO
            case measure => omega
            case rel =>
              obtain ⟨auB, cuB, _, _, hrowB, _, _, hcellB⟩ := turned_row HS4.out.rows rfl ha
              have hrowE : (wk.drewN nq).cell? ⟨gB, a, none⟩ = some (.slice (some ⟨bA, 0, none⟩) (outsOf L a).length cuA) := hrowA
              rw [hrowE] at hrowB
              simp only [Option.some.injEq, Value.slice.injEq] at hrowB
              obtain ⟨bB, hB1, _, _, _, _, _, hsetB⟩ := hcellB q (by omega)
              rw [← hrowB.1] at hB1
              simp only [Option.some.injEq, Addr.mk.injEq, and_true] at hB1
              subst hB1
              have H := HS4.out.up HEN.out HLH.out (by rw [HQ.out]; exact hsetB (x2 : Nat))
              rw [HQ.out] at H
              refine ⟨_, P2.set a (q + 1), a, S, vo2, rfl, rfl, H, ?_⟩
              have := HGO.out
              simp only [List.length_cons] at this
              omega
end
end Go.Proofs.YtelmfccpcejdnaaDoor
