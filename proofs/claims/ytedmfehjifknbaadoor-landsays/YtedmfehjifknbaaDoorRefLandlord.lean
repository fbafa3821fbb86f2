/- The walk of the document's answer: Landlord. -/
import Derived.Test.YtedmfehjifknbaaDoorRefLandL
import Derived.Test.YtedmfehjifknbaaDoorRefIn
import Derived.Test.YtedmfehjifknbaaDoorRisingS
import Derived.Test.YtedmfehjifknbaaDoorLRun
import Derived.Test.YtedmfehjifknbaaDoorOwnCells
namespace Go.Proofs.YtedmfehjifknbaaDoor
set_option maxRecDepth 100000
open Go.RowKit Go.Sort

def LLRel (w : World) (s : Nat) (f : Int → Nat) (l : List Int) (vp vq sm i : Value) (wr : World) : Prop :=
  ∃ k : Nat, k ≤ l.length ∧ i = .int .i64 k ∧ sm = .int .i64 (lpaid s f l k : Nat) ∧ Tri w wr (.slice none 0 0) vp vq [] (tenants (land s f l k)) (creds (land s f l k))
theorem own_block0 {w : World} {B n : Nat} {v : Value} {l : List Int} (h : OwnI w B v l) (hn : l.length = n) (h0 : 0 < n) : ∃ g cap, v = .slice (some ⟨g, 0, none⟩) n cap ∧ g < w.heap.size ∧ n ≤ cap ∧ cap ≤ maxLen := by
  subst hn
  rcases h.2 with ⟨_, e⟩ | ⟨g, cap, cur, rfl, _, hg, hc1, hc2, _⟩
  · omega
  · exact ⟨g, cap, rfl, (Array.getElem?_eq_some_iff.1 hg).1, hc1, hc2⟩
theorem own_form0 {w : World} {B n : Nat} {v : Value} {l : List Int} (h : OwnI w B v l) (hn : l.length = n) : ∃ ao cap, v = .slice ao n cap := by subst hn; exact ownI_form h

set_option maxHeartbeats 8000000 in
theorem reflandlord_any (v vc : Value) (l c : List Int) (s : Nat) (w : World) (hv : IsInts w v l) (hvc : IsInts w vc c) (hc0 : chkC l c s = 0) :
    Calls Tryd.prog 7 #[v, vc, .int .i64 s] w fun e w' => ∃ vp vq, e = .returned (.tuple #[.int .i64 (lpaid s (cf c) l l.length : Nat), vp, vq]) ∧ OwnI w' w.heap.size vp (tenants (land s (cf c) l l.length)) ∧ OwnI w' w.heap.size vq (creds (land s (cf c) l l.length)) ∧ Below w.heap.size w w' := by
  have F := chkC_zero hc0
  have hs1 : 1 ≤ s := by have := F.slots; omega
  have hs8 : s ≤ 8 := by have := F.slots; omega
  have hl40 := F.reqs
  have HF : Hid (FineC l c s) := F
  obtain ⟨ao, cap, rfl, hcap, ho⟩ := hv.opened
  obtain ⟨ac, cac, rfl, hcac, hoc⟩ := hvc.opened
  have HO : Hid (∀ k, k < l.length → ∃ b off, ao = some ⟨b, off, none⟩ ∧ l.length ≤ cap ∧ b < w.heap.size ∧ ∀ j, j < l.length → w.cell? ⟨b, off + j, none⟩ = some (.int .i64 (l[j]?.getD 0))) := ho
  have HOC : Hid (∀ k, k < c.length → ∃ b off, ac = some ⟨b, off, none⟩ ∧ c.length ≤ cac ∧ b < w.heap.size ∧ ∀ j, j < c.length → w.cell? ⟨b, off + j, none⟩ = some (.int .i64 (c[j]?.getD 0))) := hoc
  obtain ⟨i0, hi, hz0, hz1, hz2⟩ := info_parts info_int
  have HI : Hid (Tryd.prog.info? 3 = some i0 ∧ i0.zero = some (.int .i64 0) ∧ i0.size = 1 ∧ i0.bytes = 8) := ⟨hi, hz0, hz1, hz2⟩
  clear hi hz0 hz1 hz2 ho hoc hv hvc hc0 F
  unfold maxLen at hcap hcac
  go_enter Tryd.func7, Tryd.ntmps7
  go_wp2
  go_loopw [9, 10, 11, 12] (fun vp vq sm i wr => LLRel w s (cf c) l vp vq sm i wr) (fun _ _ _ i _ => l.length - (intOf i).toNat)
  case atStart => exact ⟨0, Nat.zero_le _, rfl, rfl, Tri.start w⟩
  case round =>
    obtain ⟨k, hk, rfl, rfl, hT⟩ := hrel
    obtain ⟨wA, hwA⟩ : ∃ wA, wA = wr := ⟨_, rfl⟩
    subst hwA
    have INV := land_inv hs1 (cf c) l k
    by_cases hlt : k < l.length
    · obtain ⟨b, off, rfl, hlc, hbw, hcell⟩ := HO.out k hlt
      have hck : wA.cell? ⟨b, off + k, none⟩ = some (.int .i64 (l[k]?.getD 0)) := (hT.below.cell (by exact hbw)).trans (hcell k hlt)
      have hpg := HF.out.page k hlt
      obtain ⟨bc, offc, rfl, hlcc, hbcw, hcellc⟩ := HOC.out (l[k]?.getD 0).toNat (by omega)
      have HCC : Hid (w.cell? ⟨bc, offc + (l[k]?.getD 0).toNat, none⟩ = some (.int .i64 (cf c (l[k]?.getD 0) : Nat))) := by unfold Hid; rw [hcellc _ (by omega), cf_get HF.out (by omega)]
      have hcl := cf_le HF.out (l[k]?.getD 0)
      have hpl := lpaid_le (s := s) (f := cf c) (l := l) (cf_le HF.out) k
      have HBCW : Hid (bc < w.heap.size) := hbcw
      clear hcell hcellc hbcw
      have HLS : Hid (land s (cf c) l (k+1) = landS s (cf c) (land s (cf c) l k) (l[k]?.getD 0)) := rfl
      have hle := INV.le
      cases hh : (tenants (land s (cf c) l k)).contains (l[k]?.getD 0)
      · have HPD : Hid (lpaid s (cf c) l (k+1) = lpaid s (cf c) l k + cf c (l[k]?.getD 0)) := lpaid_miss hh
        by_cases hr : (land s (cf c) l k).length = s
        · have HLN : Hid (land s (cf c) l (k+1) = letOut (land s (cf c) l k) ++ [(l[k]?.getD 0, cf c (l[k]?.getD 0))]) := by unfold Hid; rw [HLS.out, landS, hh, if_pos hr]; simp
          have HCRD : Hid (∀ x, x ∈ land s (cf c) l k → x.2 ≤ 20) := fun x hx => Nat.le_trans (INV.cr x hx) (cf_le HF.out _)
          generalize land s (cf c) l k = st at *
          generalize lpaid s (cf c) l k = a at *
          generalize cf c (l[k]?.getD 0) = f at *
          generalize l[k]?.getD 0 = p at *
          obtain ⟨pn, rfl⟩ : ∃ n : Nat, p = n := ⟨p.toNat, by omega⟩
          rw [Int.toNat_natCast] at HCC
          have HH : Hid ((tenants st).contains (pn : Int) = false) := hh
          have HT : Hid (Tri w wA (.slice none 0 0) u9 u10 [] (tenants st) (creds st)) := hT
          have HN : Hid (st.length = s) := hr
          have hne : st ≠ [] := fun e => by rw [e] at hr; simp at hr; omega
          have HLST : Hid (((creds st).mergeSort le)[0]?.getD 0 = (leastOf st : Int)) := least_sorted hne
          have HLO : Hid (outTo (leastOf st) st st.length = letOut st) := outTo_all st
          have HLEN : Hid ((letOut st).length = s - 1) := by unfold Hid; rw [letOut_length hne, hr]
          have hd20 : leastOf st ≤ 20 := by obtain ⟨x, hx, e⟩ := leastOf_mem hne; have := HCRD.out x hx; omega
          have HDLE : Hid (∀ x, x ∈ st → leastOf st ≤ x.2) := fun x hx => leastOf_le hx
          have HPL : Hid ((tenants st).length = s) := by unfold Hid; rw [tenants_length, hr]
          have HQL : Hid ((creds st).length = s) := by unfold Hid; rw [creds_length, hr]
          have HML : Hid (((creds st).mergeSort le).length = s) := by unfold Hid; rw [List.length_mergeSort, HQL.out]
          obtain ⟨gp, pcp, hvp, hgp1, hgp2, hgp3⟩ := own_block0 hT.p HPL.out (by omega)
          obtain ⟨gq, qcp, hvq, hgq1, hgq2, hgq3⟩ := own_block0 hT.a HQL.out (by omega)
          subst hvp
          subst hvq
          unfold maxLen at hgp3 hgq3
          have hcc0 : wA.cell? ⟨bc, offc + pn, none⟩ = some (.int .i64 (f : Int)) := (hT.below.cell (by exact HBCW.out)).trans HCC.out
          clear hT INV hh HLS hr hne hle
          generalize leastOf st = d at *
          go_wp2_with (first | (go_at_call 15; go_must (refine (has_any _ _ _ _ HT.out.p.isInts).mono ?_; rintro e w' ⟨rfl, hw⟩; have hw := hw.symm; subst hw; rw [HH.out])) | (go_at_call 16; fail))
          refine (rising_any _ (creds st) wA HT.out.a.isInts (ownI_form HT.out.a) (by rw [HQL.out]; omega)).mono ?_
          rintro e wB ⟨vr, rfl, hor, hbB⟩
          obtain ⟨gr, rcp, hvr, hgr1, hgr2, hgr3⟩ := own_block0 hor HML.out (by omega)
          subst hvr
          unfold maxLen at hgr3
          have hc0 : wB.cell? ⟨gr, 0, none⟩ = some (.int .i64 (d : Int)) := by rw [hor.cellN HML.out (by omega), HLST.out]
          have HTB : Hid (Tri w wB (.slice none 0 0) (.slice (some ⟨gp, 0, none⟩) s pcp) (.slice (some ⟨gq, 0, none⟩) s qcp) [] (tenants st) (creds st)) := HT.out.later hbB
          have hgp4 : gp < wB.heap.size := Nat.lt_of_lt_of_le hgp1 hbB.size
          have hgq4 : gq < wB.heap.size := Nat.lt_of_lt_of_le hgq1 hbB.size
          have hccB : wB.cell? ⟨bc, offc + pn, none⟩ = some (.int .i64 (f : Int)) := (HTB.out.below.cell (by exact HBCW.out)).trans HCC.out
          clear hor hbB HT hgp1 hgq1 hck hcc0
          go_wp2
          go_loopw [17, 18, 19, 20] (fun o vp vq i wr => ∃ (j : Nat) (o' : Int), j ≤ s ∧ i = .int .i64 (j : Int) ∧ o = .int .i64 o' ∧ Hid (if goneTo d st j then 0 ≤ o' ∧ o' ≤ 8 else o' = -1) ∧ Tri wB wr (.slice none 0 0) vp vq [] (tenants (outTo d st j)) (creds (outTo d st j))) (fun _ _ _ i _ => s - (intOf i).toNat)
          case atStart => exact ⟨0, -1, Nat.zero_le _, rfl, rfl, rfl, Tri.start wB⟩
          case round =>
            obtain ⟨j, o', hj, rfl, rfl, HGO, hT2⟩ := hrel
            obtain ⟨wC, hwC⟩ : ∃ wC, wC = wr := ⟨_, rfl⟩
            subst hwC
            have HT : Hid (Tri wB wC (.slice none 0 0) u18 u19 [] (tenants (outTo d st j)) (creds (outTo d st j))) := hT2
            by_cases hjs : j < s
            · have hjl : j < st.length := by rw [HN.out]; exact hjs
              have hcp : wC.cell? ⟨gp, j, none⟩ = some (.int .i64 (tenAt st j).1) := (hT2.below.cell (by exact hgp4)).trans (by rw [HTB.out.p.cellN HPL.out hjs, tenants_get hjl])
              have hcq : wC.cell? ⟨gq, j, none⟩ = some (.int .i64 ((tenAt st j).2 : Nat)) := (hT2.below.cell (by exact hgq4)).trans (by rw [HTB.out.a.cellN HQL.out hjs, creds_get hjl])
              have hx20 := HCRD.out _ (tenAt_in hjl)
              have hxd := HDLE.out _ (tenAt_in hjl)
              have HGS : Hid (goneTo d st (j+1) = (goneTo d st j || ((tenAt st j).2 == d))) := goneTo_succ hjl
              have HSK : Hid (goneTo d st j = false → (tenAt st j).2 = d → outTo d st (j+1) = outTo d st j) := outTo_skip hjl
              have HKP : Hid (goneTo d st j = true ∨ (tenAt st j).2 ≠ d → outTo d st (j+1) = outTo d st j ++ [((tenAt st j).1, (tenAt st j).2 - d)]) := outTo_keep hjl
              have hol := outTo_length (d := d) (st := st) j
              clear hT2 hjl
              generalize tenAt st j = x at *
              obtain ⟨xp, xc⟩ := x
              simp only [] at hcp hcq hx20 hxd HGS HSK HKP
              cases hg : goneTo d st j with
              | false =>
                have HG0 : Hid (goneTo d st j = false) := hg
                rw [hg] at HGO
                have ho' : o' = -1 := HGO.out
                subst ho'
                by_cases hxe : xc = d
                · have hxe2 : ((xc : Int) == (d : Int)) = true := by simp; omega
                  have HXE : Hid (xc = d) := hxe
                  clear hg HGO hxe
                  go_wp2
                  go_roundw
                  case rel =>
                    have hh2 : ∃ (j' : Nat) (o' : Int), j' ≤ s ∧ (Value.int .i64 ((j : Int) + 1)) = .int .i64 (j' : Int) ∧ (Value.int .i64 (j : Int)) = .int .i64 o' ∧ Hid (if goneTo d st j' then 0 ≤ o' ∧ o' ≤ 8 else o' = -1) ∧ Tri wB wC (.slice none 0 0) u18 u19 [] (tenants (outTo d st j')) (creds (outTo d st j')) :=
                      ⟨j + 1, j, by omega, by go_num, rfl, by unfold Hid; rw [HGS.out, HG0.out, HXE.out]; simp; omega, by rw [HSK.out HG0.out HXE.out]; exact HT.out⟩
                    first
                      | exact hh2
                      | ((repeat apply Exists.intro); exact ⟨hh2, rfl⟩)
                  case measure => simp [intOf]; omega
                · have hxe2 : ((xc : Int) == (d : Int)) = false := by simp; omega
                  have HKQ : Hid (outTo d st (j+1) = outTo d st j ++ [(xp, xc - d)]) := HKP.out (.inr hxe)
                  have HGF : Hid (if goneTo d st (j+1) then 0 ≤ (-1 : Int) ∧ (-1 : Int) ≤ 8 else (-1 : Int) = -1) := by unfold Hid; rw [HGS.out, HG0.out]; simp [hxe]
                  clear hg HGO hxe HSK HKP HGS
                  have HCQB : Hid (wB.cell? ⟨gq, j, none⟩ = some (.int .i64 (xc : Int))) := (HT.out.below.cell (p := ⟨gq, j, none⟩) (by exact hgq4)).symm.trans hcq
                  have HPL3 : Hid ((tenants (outTo d st j)).length = (outTo d st j).length) := tenants_length _
                  have HQL3 : Hid ((creds (outTo d st j)).length = (outTo d st j).length) := creds_length _
                  have HTS : Hid (tenants (outTo d st (j+1)) = tenants (outTo d st j) ++ [xp]) := by unfold Hid; rw [HKQ.out, tenants_snoc]
                  have HQS : Hid (creds (outTo d st (j+1)) = creds (outTo d st j) ++ [(xc : Int) - (d : Int)]) := by unfold Hid; rw [HKQ.out, creds_snoc]; congr 2; show ((xc - d : Nat) : Int) = _; omega
                  clear HKQ
                  generalize (outTo d st j).length = m at *
                  generalize tenants (outTo d st j) = lp at *
                  generalize creds (outTo d st j) = lq at *
                  go_wp2_with (first | (at_builtin; (refine wpList_append_own_at _ rfl _ _ 22 rfl wB.heap.size 3 i0 (.int .i64 0) 1 8 Tryd.underlying22 HI.out.1 HI.out.2.1 HI.out.2.2.1 HI.out.2.2.2 rfl (by decide) _ m (lp.map (Value.int .i64)) rfl (World.ownsRow.alloc (HT.out.p.rows HPL3.out rfl) _) ⟨wC.heap.size, 0, none⟩ 1 1 [.int .i64 xp] rfl rfl (by exact new_one _ _ _) (one_cell _) (by unfold maxLen; omega) (by omega) (by have := HT.out.below.size; simp; omega) ?_; intro vp' wP hown' hgrow _ hat; have HT1 : Hid (Tri wB wP (.slice none 0 0) vp' u19 [] (lp ++ [xp]) lq) := HT.out.pages HPL3.out hown' hgrow hat; have hcq2 : wP.cell? ⟨gq, j, none⟩ = some (.int .i64 (xc : Int)) := (HT1.out.below.cell (by exact hgq4)).trans HCQB.out; clear hcq; clear hown' hgrow hat HT)) | (at_builtin; (refine wpList_append_own_at _ rfl _ _ 22 rfl wB.heap.size 3 i0 (.int .i64 0) 1 8 Tryd.underlying22 HI.out.1 HI.out.2.1 HI.out.2.2.1 HI.out.2.2.2 rfl (by decide) _ m (lq.map (Value.int .i64)) rfl (World.ownsRow.alloc (HT1.out.a.rows HQL3.out rfl) _) ⟨wP.heap.size, 0, none⟩ 1 1 [.int .i64 ((xc : Int) - (d : Int))] rfl rfl (by exact new_one _ _ _) (one_cell _) (by unfold maxLen; omega) (by omega) (by have := HT1.out.below.size; simp; omega) ?_; intro vq' wQ hown' hgrow _ hat; have HT2 : Hid (Tri wB wQ (.slice none 0 0) vp' vq' [] (lp ++ [xp]) (lq ++ [((xc : Int) - (d : Int))])) := HT1.out.asked HQL3.out hown' hgrow hat; clear hown' hgrow hat HT1)))
                  go_roundw
                  case rel =>
                    have hh2 : ∃ (j' : Nat) (o2 : Int), j' ≤ s ∧ (Value.int .i64 ((j : Int) + 1)) = .int .i64 (j' : Int) ∧ (Value.int .i64 (-1)) = .int .i64 o2 ∧ Hid (if goneTo d st j' then 0 ≤ o2 ∧ o2 ≤ 8 else o2 = -1) ∧ Tri wB wQ (.slice none 0 0) vp' vq' [] (tenants (outTo d st j')) (creds (outTo d st j')) :=
                      ⟨j + 1, -1, by omega, by go_num, rfl, HGF.out, by rw [HTS.out, HQS.out]; exact HT2.out⟩
                    first
                      | exact hh2
                      | ((repeat apply Exists.intro); exact ⟨hh2, rfl⟩)
                  case measure => simp [intOf]; omega
              | true =>
                have HG0 : Hid (goneTo d st j = true) := hg
                rw [hg] at HGO
                obtain ⟨ho1, ho8⟩ : 0 ≤ o' ∧ o' ≤ 8 := HGO.out
                have HKQ : Hid (outTo d st (j+1) = outTo d st j ++ [(xp, xc - d)]) := HKP.out (.inl hg)
                have HGF : Hid (if goneTo d st (j+1) then 0 ≤ o' ∧ o' ≤ 8 else o' = -1) := by unfold Hid; rw [HGS.out, HG0.out]; simp; omega
                clear hg HGO HSK HKP HGS
                have HCQB : Hid (wB.cell? ⟨gq, j, none⟩ = some (.int .i64 (xc : Int))) := (HT.out.below.cell (p := ⟨gq, j, none⟩) (by exact hgq4)).symm.trans hcq
                have HPL3 : Hid ((tenants (outTo d st j)).length = (outTo d st j).length) := tenants_length _
                have HQL3 : Hid ((creds (outTo d st j)).length = (outTo d st j).length) := creds_length _
                have HTS : Hid (tenants (outTo d st (j+1)) = tenants (outTo d st j) ++ [xp]) := by unfold Hid; rw [HKQ.out, tenants_snoc]
                have HQS : Hid (creds (outTo d st (j+1)) = creds (outTo d st j) ++ [(xc : Int) - (d : Int)]) := by unfold Hid; rw [HKQ.out, creds_snoc]; congr 2; show ((xc - d : Nat) : Int) = _; omega
                clear HKQ
                generalize (outTo d st j).length = m at *
                generalize tenants (outTo d st j) = lp at *
                generalize creds (outTo d st j) = lq at *
                go_wp2_with (first | (at_builtin; (refine wpList_append_own_at _ rfl _ _ 22 rfl wB.heap.size 3 i0 (.int .i64 0) 1 8 Tryd.underlying22 HI.out.1 HI.out.2.1 HI.out.2.2.1 HI.out.2.2.2 rfl (by decide) _ m (lp.map (Value.int .i64)) rfl (World.ownsRow.alloc (HT.out.p.rows HPL3.out rfl) _) ⟨wC.heap.size, 0, none⟩ 1 1 [.int .i64 xp] rfl rfl (by exact new_one _ _ _) (one_cell _) (by unfold maxLen; omega) (by omega) (by have := HT.out.below.size; simp; omega) ?_; intro vp' wP hown' hgrow _ hat; have HT1 : Hid (Tri wB wP (.slice none 0 0) vp' u19 [] (lp ++ [xp]) lq) := HT.out.pages HPL3.out hown' hgrow hat; have hcq2 : wP.cell? ⟨gq, j, none⟩ = some (.int .i64 (xc : Int)) := (HT1.out.below.cell (by exact hgq4)).trans HCQB.out; clear hcq; clear hown' hgrow hat HT)) | (at_builtin; (refine wpList_append_own_at _ rfl _ _ 22 rfl wB.heap.size 3 i0 (.int .i64 0) 1 8 Tryd.underlying22 HI.out.1 HI.out.2.1 HI.out.2.2.1 HI.out.2.2.2 rfl (by decide) _ m (lq.map (Value.int .i64)) rfl (World.ownsRow.alloc (HT1.out.a.rows HQL3.out rfl) _) ⟨wP.heap.size, 0, none⟩ 1 1 [.int .i64 ((xc : Int) - (d : Int))] rfl rfl (by exact new_one _ _ _) (one_cell _) (by unfold maxLen; omega) (by omega) (by have := HT1.out.below.size; simp; omega) ?_; intro vq' wQ hown' hgrow _ hat; have HT2 : Hid (Tri wB wQ (.slice none 0 0) vp' vq' [] (lp ++ [xp]) (lq ++ [((xc : Int) - (d : Int))])) := HT1.out.asked HQL3.out hown' hgrow hat; clear hown' hgrow hat HT1)))
                go_roundw
                case rel =>
                  have hh2 : ∃ (j' : Nat) (o2 : Int), j' ≤ s ∧ (Value.int .i64 ((j : Int) + 1)) = .int .i64 (j' : Int) ∧ (Value.int .i64 o') = .int .i64 o2 ∧ Hid (if goneTo d st j' then 0 ≤ o2 ∧ o2 ≤ 8 else o2 = -1) ∧ Tri wB wQ (.slice none 0 0) vp' vq' [] (tenants (outTo d st j')) (creds (outTo d st j')) :=
                    ⟨j + 1, o', by omega, by go_num, rfl, HGF.out, by rw [HTS.out, HQS.out]; exact HT2.out⟩
                  first
                    | exact hh2
                    | ((repeat apply Exists.intro); exact ⟨hh2, rfl⟩)
                case measure => simp [intOf]; omega
            · have hjs2 : j = s := by omega
              subst hjs2
              have HSE : Hid (outTo d st j = letOut st) := by unfold Hid; rw [← HLO.out, HN.out]
              have hT3 := hT2
              rw [HSE.out] at hT3
              have hcc3 : wC.cell? ⟨bc, offc + pn, none⟩ = some (.int .i64 (f : Int)) := (hT2.below.cell (p := ⟨bc, offc + pn, none⟩) (World.block_lt_of_cell? wB _ hccB)).trans hccB
              have HT5 : Hid (Tri w wC (.slice none 0 0) u18 u19 [] (tenants (letOut st)) (creds (letOut st))) := tri_lower HTB.out.below hT3
              have HPL2 : Hid ((tenants (letOut st)).length = j - 1) := by unfold Hid; rw [tenants_length, HLEN.out]
              have HQL2 : Hid ((creds (letOut st)).length = j - 1) := by unfold Hid; rw [creds_length, HLEN.out]
              have HADD : Hid ((a : Int) + (f : Int) = ((a + f : Nat) : Int)) := by unfold Hid; omega
              clear hT2 hT3 HT hccB hc0
              go_wp2_with (first | (at_builtin; (refine wpList_append_own_at _ rfl _ _ 22 rfl w.heap.size 3 i0 (.int .i64 0) 1 8 Tryd.underlying22 HI.out.1 HI.out.2.1 HI.out.2.2.1 HI.out.2.2.2 rfl (by decide) _ (j - 1) ((tenants (letOut st)).map (Value.int .i64)) rfl (World.ownsRow.alloc (HT5.out.p.rows HPL2.out rfl) _) ⟨wC.heap.size, 0, none⟩ 1 1 [.int .i64 (pn : Int)] rfl rfl (by exact new_one _ _ _) (one_cell _) (by unfold maxLen; omega) (by omega) (by have := HT5.out.below.size; simp; omega) ?_; intro vp' wP hown' hgrow _ hat; have HT1 : Hid (Tri w wP (.slice none 0 0) vp' u19 [] ((tenants (letOut st)) ++ [(pn : Int)]) (creds (letOut st))) := HT5.out.pages HPL2.out hown' hgrow hat; have hcc4 : wP.cell? ⟨bc, offc + pn, none⟩ = some (.int .i64 (f : Int)) := (HT1.out.below.cell (by exact HBCW.out)).trans HCC.out; clear hcc3; clear hown' hgrow hat HT5)) | (at_builtin; (refine wpList_append_own_at _ rfl _ _ 22 rfl w.heap.size 3 i0 (.int .i64 0) 1 8 Tryd.underlying22 HI.out.1 HI.out.2.1 HI.out.2.2.1 HI.out.2.2.2 rfl (by decide) _ (j - 1) ((creds (letOut st)).map (Value.int .i64)) rfl (World.ownsRow.alloc (HT1.out.a.rows HQL2.out rfl) _) ⟨wP.heap.size, 0, none⟩ 1 1 [.int .i64 (f : Int)] rfl rfl (by exact new_one _ _ _) (one_cell _) (by unfold maxLen; omega) (by omega) (by have := HT1.out.below.size; simp; omega) ?_; intro vq' wQ hown' hgrow _ hat; have HT2 : Hid (Tri w wQ (.slice none 0 0) vp' vq' [] ((tenants (letOut st)) ++ [(pn : Int)]) ((creds (letOut st)) ++ [(f : Int)])) := HT1.out.asked HQL2.out hown' hgrow hat; clear hown' hgrow hat HT1)))
              go_roundw
              case rel =>
                have hh2 : LLRel w _ (cf c) l _ _ _ _ _ := ⟨k + 1, by omega, by go_num, by rw [HPD.out, ← HADD.out], by rw [HLN.out, tenants_snoc, creds_snoc]; exact HT2.out⟩
                first
                  | exact hh2
                  | ((repeat apply Exists.intro); exact ⟨hh2, rfl⟩)
              case measure => simp [intOf]; omega
        · have HLN : Hid (land s (cf c) l (k+1) = land s (cf c) l k ++ [(l[k]?.getD 0, cf c (l[k]?.getD 0))]) := by unfold Hid; rw [HLS.out, landS, hh, if_neg hr]; simp
          generalize land s (cf c) l k = st at *
          generalize lpaid s (cf c) l k = a at *
          generalize cf c (l[k]?.getD 0) = f at *
          generalize l[k]?.getD 0 = p at *
          obtain ⟨pn, rfl⟩ : ∃ n : Nat, p = n := ⟨p.toNat, by omega⟩
          rw [Int.toNat_natCast] at HCC
          have HH : Hid ((tenants st).contains (pn : Int) = false) := hh
          have HT : Hid (Tri w wA (.slice none 0 0) u9 u10 [] (tenants st) (creds st)) := hT
          have ht7 : st.length ≤ 7 := by omega
          generalize hn : st.length = n at *
          have hns : ((n : Int) == (s : Int)) = false := by simp; omega
          have HPL : Hid ((tenants st).length = n) := by unfold Hid; rw [tenants_length, hn]
          have HQL : Hid ((creds st).length = n) := by unfold Hid; rw [creds_length, hn]
          obtain ⟨ap, pcp, hvp⟩ := own_form0 hT.p HPL.out
          subst hvp
          have hcc3 : wA.cell? ⟨bc, offc + pn, none⟩ = some (.int .i64 (f : Int)) := (hT.below.cell (by exact HBCW.out)).trans HCC.out
          have HADD : Hid ((a : Int) + (f : Int) = ((a + f : Nat) : Int)) := by unfold Hid; omega
          clear hT INV hh HLS hn
          go_wp2_with (first | (go_at_call 15; go_must (refine (has_any _ _ _ _ HT.out.p.isInts).mono ?_; rintro e w' ⟨rfl, hw⟩; have hw := hw.symm; subst hw; rw [HH.out])) | (at_builtin; (refine wpList_append_own_at _ rfl _ _ 22 rfl w.heap.size 3 i0 (.int .i64 0) 1 8 Tryd.underlying22 HI.out.1 HI.out.2.1 HI.out.2.2.1 HI.out.2.2.2 rfl (by decide) _ n ((tenants st).map (Value.int .i64)) rfl (World.ownsRow.alloc (HT.out.p.rows HPL.out rfl) _) ⟨wA.heap.size, 0, none⟩ 1 1 [.int .i64 (pn : Int)] rfl rfl (by exact new_one _ _ _) (one_cell _) (by unfold maxLen; omega) (by omega) (by have := HT.out.below.size; simp; omega) ?_; intro vp' wP hown' hgrow _ hat; have HT1 : Hid (Tri w wP (.slice none 0 0) vp' u10 [] ((tenants st) ++ [(pn : Int)]) (creds st)) := HT.out.pages HPL.out hown' hgrow hat; have hcc4 : wP.cell? ⟨bc, offc + pn, none⟩ = some (.int .i64 (f : Int)) := (HT1.out.below.cell (by exact HBCW.out)).trans HCC.out; clear hcc3; clear hck; clear hown' hgrow hat HT)) | (at_builtin; (refine wpList_append_own_at _ rfl _ _ 22 rfl w.heap.size 3 i0 (.int .i64 0) 1 8 Tryd.underlying22 HI.out.1 HI.out.2.1 HI.out.2.2.1 HI.out.2.2.2 rfl (by decide) _ n ((creds st).map (Value.int .i64)) rfl (World.ownsRow.alloc (HT1.out.a.rows HQL.out rfl) _) ⟨wP.heap.size, 0, none⟩ 1 1 [.int .i64 (f : Int)] rfl rfl (by exact new_one _ _ _) (one_cell _) (by unfold maxLen; omega) (by omega) (by have := HT1.out.below.size; simp; omega) ?_; intro vq' wQ hown' hgrow _ hat; have HT2 : Hid (Tri w wQ (.slice none 0 0) vp' vq' [] ((tenants st) ++ [(pn : Int)]) ((creds st) ++ [(f : Int)])) := HT1.out.asked HQL.out hown' hgrow hat; clear hown' hgrow hat HT1)))
          go_roundw
          case rel =>
            have hh2 : LLRel w _ (cf c) l _ _ _ _ _ := ⟨k + 1, by omega, by go_num, by rw [HPD.out, ← HADD.out], by rw [HLN.out, tenants_snoc, creds_snoc]; exact HT2.out⟩
            first
              | exact hh2
              | ((repeat apply Exists.intro); exact ⟨hh2, rfl⟩)
          case measure => simp [intOf]; omega
      · have HPD : Hid (lpaid s (cf c) l (k+1) = lpaid s (cf c) l k) := lpaid_hit hh
        have HLN : Hid (land s (cf c) l (k+1) = again (l[k]?.getD 0) (cf c (l[k]?.getD 0)) (land s (cf c) l k)) := by unfold Hid; rw [HLS.out, landS, hh]; simp
        have HCRD : Hid (∀ x, x ∈ land s (cf c) l k → x.2 ≤ 20) := fun x hx => Nat.le_trans (INV.cr x hx) (cf_le HF.out _)
        generalize land s (cf c) l k = st at *
        generalize lpaid s (cf c) l k = a at *
        generalize cf c (l[k]?.getD 0) = f at *
        generalize l[k]?.getD 0 = p at *
        obtain ⟨pn, rfl⟩ : ∃ n : Nat, p = n := ⟨p.toNat, by omega⟩
        rw [Int.toNat_natCast] at HCC
        have HH : Hid ((tenants st).contains (pn : Int) = true) := hh
        have HT : Hid (Tri w wA (.slice none 0 0) u9 u10 [] (tenants st) (creds st)) := hT
        have hn0 : 0 < st.length := by cases st with | nil => simp [tenants] at hh | cons x r => simp
        generalize hn : st.length = n at *
        have HN : Hid (st.length = n) := hn
        have HPL : Hid ((tenants st).length = n) := by unfold Hid; rw [tenants_length, hn]
        have HQL : Hid ((creds st).length = n) := by unfold Hid; rw [creds_length, hn]
        obtain ⟨gp, pcp, hvp, hgp1, hgp2, hgp3⟩ := own_block0 hT.p HPL.out hn0
        obtain ⟨gq, qcp, hvq, hgq1, hgq2, hgq3⟩ := own_block0 hT.a HQL.out hn0
        subst hvp
        subst hvq
        unfold maxLen at hgp3 hgq3
        have hccA : wA.cell? ⟨bc, offc + pn, none⟩ = some (.int .i64 (f : Int)) := (hT.below.cell (by exact HBCW.out)).trans HCC.out
        have HCA : Hid (wA.cell? ⟨bc, offc + pn, none⟩ = some (.int .i64 (f : Int))) := hccA
        clear hT INV hh HLS hn hccA
        go_wp2_with (go_at_call 15; go_must (refine (has_any _ _ _ _ HT.out.p.isInts).mono ?_; rintro e w' ⟨rfl, hw⟩; have hw := hw.symm; subst hw; rw [HH.out]))
        go_loopw [14, 15] (fun v i wr => ∃ j : Nat, j ≤ n ∧ i = .int .i64 (j : Int) ∧ OwnI wr wA.heap.size v (creds (again (pn : Int) f (st.take j))) ∧ Below wA.heap.size wA wr) (fun _ i _ => n - (intOf i).toNat)
        case atStart => exact ⟨0, Nat.zero_le _, rfl, OwnI.nil _ _, Below.refl _ _⟩
        case round =>
          obtain ⟨j, hj, rfl, hO, hb⟩ := hrel
          obtain ⟨wC, hwC⟩ : ∃ wC, wC = wr := ⟨_, rfl⟩
          subst hwC
          have HOW : Hid (OwnI wC wA.heap.size u14 (creds (again (pn : Int) f (st.take j)))) := hO
          have HB : Hid (Below wA.heap.size wA wC) := hb
          by_cases hjs : j < n
          · have hjl : j < st.length := by rw [HN.out]; exact hjs
            have hcp : wC.cell? ⟨gp, j, none⟩ = some (.int .i64 (tenAt st j).1) := (hb.cell (by exact hgp1)).trans (by rw [HT.out.p.cellN HPL.out hjs, tenants_get hjl])
            have hcq : wC.cell? ⟨gq, j, none⟩ = some (.int .i64 ((tenAt st j).2 : Nat)) := (hb.cell (by exact hgq1)).trans (by rw [HT.out.a.cellN HQL.out hjs, creds_get hjl])
            have hcc3 : wC.cell? ⟨bc, offc + pn, none⟩ = some (.int .i64 (f : Int)) := (hb.cell (p := ⟨bc, offc + pn, none⟩) (World.block_lt_of_cell? wA _ HCA.out)).trans HCA.out
            have HAT := again_take (p := (pn : Int)) (v := f) hjl
            have HLL : Hid ((creds (again (pn : Int) f (st.take j))).length = j) := by unfold Hid; rw [again_length, List.length_take]; omega
            clear hO hb hjl
            generalize tenAt st j = x at *
            obtain ⟨xp, xc⟩ := x
            simp only [] at hcp hcq HAT
            generalize creds (again (pn : Int) f (st.take j)) = lk at *
            by_cases hxe : xp = (pn : Int)
            · rw [if_pos hxe] at HAT
              have hxe2 : (xp == (pn : Int)) = true := by simpa using hxe
              have HAT2 : Hid (creds (again (pn : Int) f (st.take (j+1))) = lk ++ [(f : Int)]) := HAT
              clear HAT hxe
              go_wp2_with (at_builtin; go_must (refine wpList_append_own _ rfl _ _ 22 rfl wA.heap.size 3 i0 (.int .i64 0) 1 8 Tryd.underlying22 HI.out.1 HI.out.2.1 HI.out.2.2.1 HI.out.2.2.2 rfl (by decide) _ j (lk.map (Value.int .i64)) rfl (World.ownsRow.alloc (HOW.out.rows HLL.out rfl) _) ⟨wC.heap.size, 0, none⟩ 1 1 [.int .i64 (f : Int)] rfl rfl (by exact new_one _ _ _) (one_cell _) (by unfold maxLen; omega) (by omega) (by have := HB.out.size; simp; omega) ?_; intro v' w1 hown' hgrow _; have R := own_append2 HOW.out HLL.out HB.out (Nat.le_refl _) hown' hgrow; clear hown' hgrow))
              go_roundw
              case rel =>
                have hh2 : ∃ j' : Nat, j' ≤ n ∧ (Value.int .i64 ((j : Int) + 1)) = .int .i64 (j' : Int) ∧ OwnI w1 wA.heap.size v' (creds (again (pn : Int) f (st.take j'))) ∧ Below wA.heap.size wA w1 := ⟨j + 1, by omega, by go_num, by rw [HAT2.out]; exact R.1, R.2⟩
                first
                  | exact hh2
                  | ((repeat apply Exists.intro); exact ⟨hh2, rfl⟩)
              case measure => simp [intOf]; omega
            · rw [if_neg hxe] at HAT
              have hxe2 : (xp == (pn : Int)) = false := by simpa using hxe
              have HAT2 : Hid (creds (again (pn : Int) f (st.take (j+1))) = lk ++ [(xc : Int)]) := HAT
              clear HAT hxe
              go_wp2_with (at_builtin; go_must (refine wpList_append_own _ rfl _ _ 22 rfl wA.heap.size 3 i0 (.int .i64 0) 1 8 Tryd.underlying22 HI.out.1 HI.out.2.1 HI.out.2.2.1 HI.out.2.2.2 rfl (by decide) _ j (lk.map (Value.int .i64)) rfl (World.ownsRow.alloc (HOW.out.rows HLL.out rfl) _) ⟨wC.heap.size, 0, none⟩ 1 1 [.int .i64 (xc : Int)] rfl rfl (by exact new_one _ _ _) (one_cell _) (by unfold maxLen; omega) (by omega) (by have := HB.out.size; simp; omega) ?_; intro v' w1 hown' hgrow _; have R := own_append2 HOW.out HLL.out HB.out (Nat.le_refl _) hown' hgrow; clear hown' hgrow))
              go_roundw
              case rel =>
                have hh2 : ∃ j' : Nat, j' ≤ n ∧ (Value.int .i64 ((j : Int) + 1)) = .int .i64 (j' : Int) ∧ OwnI w1 wA.heap.size v' (creds (again (pn : Int) f (st.take j'))) ∧ Below wA.heap.size wA w1 := ⟨j + 1, by omega, by go_num, by rw [HAT2.out]; exact R.1, R.2⟩
                first
                  | exact hh2
                  | ((repeat apply Exists.intro); exact ⟨hh2, rfl⟩)
              case measure => simp [intOf]; omega
          · have hjn : j = n := by omega
            subst hjn
            have HE : Hid (creds (again (pn : Int) f (st.take j)) = creds (again (pn : Int) f st)) := by unfold Hid; rw [List.take_of_length_le (by rw [HN.out]; omega)]
            have HT2 : Hid (Tri w wC (.slice none 0 0) (.slice (some ⟨gp, 0, none⟩) j pcp) u14 [] (tenants st) (creds (again (pn : Int) f st))) := by unfold Hid; rw [← HE.out]; exact HT.out.without hO hb
            clear hO hb
            go_wp2
            go_roundw
            case rel =>
              have hh2 : LLRel w _ (cf c) l _ _ _ _ _ := ⟨k + 1, by omega, by go_num, by rw [HPD.out], by rw [HLN.out, tenants_again]; exact HT2.out⟩
              first
                | exact hh2
                | ((repeat apply Exists.intro); exact ⟨hh2, rfl⟩)
            case measure => simp [intOf]; omega
    · have hkl : k = l.length := by omega
      have HT : Hid (Tri w wA (.slice none 0 0) u9 u10 [] (tenants (land s (cf c) l l.length)) (creds (land s (cf c) l l.length))) := by rw [hkl] at hT; exact hT
      have HPE : Hid (lpaid s (cf c) l k = lpaid s (cf c) l l.length) := by rw [hkl]; rfl
      clear hT INV hkl
      generalize lpaid s (cf c) l k = a at *
      go_wp2
      go_ret3
      exact ⟨_, _, by rw [← HPE.out]; rfl, HT.out.p, HT.out.a, HT.out.below⟩
end Go.Proofs.YtedmfehjifknbaaDoor
