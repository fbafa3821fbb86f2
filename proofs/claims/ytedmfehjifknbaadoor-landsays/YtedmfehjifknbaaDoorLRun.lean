/- The walk of landlord.Run. -/
import Derived.Test.YtedmfehjifknbaaDoorLCheck
import Derived.Test.YtedmfehjifknbaaDoorLGo
import Derived.Test.YtedmfehjifknbaaDoorLApart
namespace Go.Proofs.YtedmfehjifknbaaDoor
set_option maxRecDepth 100000
open Go.RowKit Go.Sort

/-- append to a row of one's own, as one step of a region that draws. -/
theorem step_append_own {P : Program} {ops : Array Oper} {o : Oper} {a : Act} {w : World} {K : Act → World → Prop} {Q : Exit → Act → World → Prop} {E : Prop}
    (hg : o.guard = none) (s x : Operand) (t : TypeId) (hop : o.op = Op.call { callee := Callee.builtin Builtin.append, args := #[s, x], argTypes := #[t, t] })
    (base : Nat) (e : TypeId) (i : TypeInfo) (z : Value) (size bytes : Nat) (ht : P.underlying t = some (.slice e)) (hi : P.info? e = some i) (hz : i.zero = some z)
    (hsize : i.size = size) (hby : i.bytes = bytes) (hzs : z.cells.size = size) (hsz : 0 < size)
    (v : Value) (n : Nat) (xs : List Value) (hs : a.eval s = v) (hown : w.ownsRow base e size v n xs)
    (ad : Addr) (m c : Nat) (news : List Value) (hx : a.eval x = .slice (some ad) m c) (hl : news.length = m * size) (hnews : ∀ j u, news[j]? = some u → w.cell? (ad.add j) = some u) (h1 : ∀ u ∈ news, u.oneCell' = true)
    (h63 : n + m ≤ maxLen) (hbytes : (n + m) * bytes ≤ 140737488355328) (hbase : base ≤ w.heap.size)
    (hK : ∀ v' w', w'.ownsRow base e size v' (n + m) (xs ++ news) → w.grownBy w' v.ownBlock → (v' = .slice none 0 0 ↔ v = .slice none 0 0 ∧ m = 0) → K (a.put o.dst v') w') :
    if Region.wanted o (yielded ops a.tmps) = true then Oper.wp P o a w K Q else E := by
  have hw : Region.wanted o (yielded ops a.tmps) = true := by simp [Region.wanted, hg]
  rw [if_pos hw]
  exact wp_append_own w s x t hop base e i z size bytes ht hi hz hsize hby hzs hsz v n xs hs hown ad m c news hx hl hnews h1 h63 hbytes hbase hK

/-- What stands behind an append to the tenants. -/
theorem afterT {w W w3 : World} {B n : Nat} {vt v3 : Value} {st : List (Int × Nat)} {p : Int} {c : Nat} {o : Obj} (hO : OwnT W B vt st) (hn : st.length = n) (hb : Below B w W) (hB : B ≤ w.heap.size)
    (h1 : w3.ownsRow B 48 2 v3 (n + 1) (rowT st ++ [.int .i64 p, .int .i64 c])) (h2 : (W.drew.alloc o).grownBy w3 vt.ownBlock) :
    OwnT w3 B v3 (st ++ [(p, c)]) ∧ Below B w w3 ∧ ∀ g u, W.cell? ⟨g, 0, none⟩ = some u → vt.ownBlock ≠ some g → w3.cell? ⟨g, 0, none⟩ = some u := by
  subst hn
  have hoa : OwnT (W.drew.alloc o) B vt st := World.ownsRow.alloc (w := W.drew) hO o
  have hba : Below B w (W.drew.alloc o) := hb.drew.alloc (by have := hb.size; show B ≤ W.heap.size; omega) o
  refine ⟨?_, hba.grown h2 (by have := hba.size; omega) fun k hk => (World.ownsRow.lt hoa k hk).1, fun g u hc hne => h2.cell (Lib.cell?_alloc_some _ (show W.drew.cell? _ = _ from hc)) (fun e => hne e.symm)⟩
  unfold OwnT
  rw [List.length_append, rowT_append]
  exact h1
/-- What stands behind the search for a page. -/
theorem afterF {w wr w1 : World} {B : Nat} {vt : Value} {t : List (Int × Nat)} {p : Int} (hot : OwnT wr B vt t) (hb : Below B w wr) (hB : B ≤ w.heap.size)
    (h1 : Below (wr.alloc (.cells #[.int .i64 p] 3)).heap.size (wr.alloc (.cells #[.int .i64 p] 3)) w1) : OwnT w1 B vt t ∧ Below B w w1 ∧ w1.cell? ⟨wr.heap.size, 0, none⟩ = some (.int .i64 p) ∧ wr.heap.size < w1.heap.size ∧ vt.ownBlock ≠ some wr.heap.size := by
  have hs := hb.size
  refine ⟨OwnT.later (World.ownsRow.alloc hot _) h1, (hb.alloc (by omega) _).trans (h1.mono (by rw [World.size_alloc]; omega)), ?_, ?_, fun e => ?_⟩
  · rw [h1.cell (by rw [World.size_alloc]; exact Nat.lt_succ_self _)]
    simp
  · have := h1.size
    rw [World.size_alloc] at this; omega
  · have := (World.ownsRow.lt hot _ e).2
    omega

def LandRel (w : World) (s : Nat) (f : Int → Nat) (l : List Int) (pv vt i : Value) (wr : World) : Prop :=
  ∃ k : Nat, k ≤ l.length ∧ i = .int .i64 k ∧ pv = .int .i64 (lpaid s f l k : Nat) ∧ OwnT wr w.heap.size vt (land s f l k) ∧ Below w.heap.size w wr
theorem land_start (w : World) (s : Nat) (f : Int → Nat) (l : List Int) : LandRel w s f l (.int .i64 0) (.slice none 0 0) (.int .i64 0) w :=
  ⟨0, Nat.zero_le _, rfl, rfl, OwnT.nil _ _, Below.refl _ _⟩
theorem lpaid_hit {s : Nat} {f : Int → Nat} {l : List Int} {k : Nat} (h : (tenants (land s f l k)).contains (l[k]?.getD 0) = true) : lpaid s f l (k+1) = lpaid s f l k := by
  unfold lpaid; rw [paid, show hitOf l (lheld s f l) k = true from h]; simp
theorem lpaid_miss {s : Nat} {f : Int → Nat} {l : List Int} {k : Nat} (h : (tenants (land s f l k)).contains (l[k]?.getD 0) = false) : lpaid s f l (k+1) = lpaid s f l k + f (l[k]?.getD 0) := by
  unfold lpaid; rw [paid, show hitOf l (lheld s f l) k = false from h]; simp
theorem lpaid_le {s : Nat} {f : Int → Nat} {l : List Int} (hf : ∀ p, f p ≤ 20) : ∀ k, lpaid s f l k ≤ 20 * k
  | 0 => by simp [lpaid, paid]
  | k + 1 => by
    have ih := lpaid_le (s := s) (l := l) hf k
    have := hf (l[k]?.getD 0)
    unfold lpaid at *
    rw [paid]; split <;> omega
theorem place_yes {st : List (Int × Nat)} {p : Int} (h : (tenants st).contains p = true) : placeT st (fun x => x.1 == p) = ((st.findIdx fun x => x.1 == p : Nat) : Int) ∧ (st.findIdx fun x => x.1 == p) < st.length ∧ (tenAt st (st.findIdx fun x => x.1 == p)).1 = p := by
  have hm := any_ten.2 (List.contains_iff_mem.1 h)
  obtain ⟨x, hx, e⟩ := List.any_eq_true.1 hm
  have h1 : st.findIdx (fun x => x.1 == p) < st.length := List.findIdx_lt_length.2 ⟨x, hx, e⟩
  refine ⟨by unfold placeT; rw [if_pos hm], h1, ?_⟩
  have := List.findIdx_getElem (xs := st) (p := fun x => x.1 == p) (w := h1)
  rw [tenAt_lt h1]
  simpa using this
theorem place_no {st : List (Int × Nat)} {p : Int} (h : (tenants st).contains p = false) : placeT st (fun x => x.1 == p) = -1 := by
  unfold placeT
  rw [if_neg]
  intro hm
  rw [List.contains_iff_mem.2 (any_ten.1 hm)] at h; cases h

set_option maxHeartbeats 4000000 in
set_option maxRecDepth 100000 in
theorem land_ok (v vc : Value) (l c : List Int) (s : Nat) (w : World) (hv : IsInts w v l) (hvc : IsInts w vc c) (hc0 : chkC l c s = 0) :
    Calls Tryd.prog 9 #[v, vc, .int .i64 s] w fun e w' => ∃ vp vc', e = .returned (.tuple #[.int .i64 (lpaid s (cf c) l l.length : Nat), vp, vc', .nilIface]) ∧ OwnI w' w.heap.size vp (tenants (land s (cf c) l l.length)) ∧ OwnI w' w.heap.size vc' (creds (land s (cf c) l l.length)) ∧ Below w.heap.size w w' := by
  have F := chkC_zero hc0
  have HV : Hid (IsInts w v l) := hv
  have HVC : Hid (IsInts w vc c) := hvc
  have HCK : Hid (chkC l c s = 0) := hc0
  have hs1 : 1 ≤ s := by have := F.slots; omega
  have hs8 : s ≤ 8 := by have := F.slots; omega
  have hl40 := F.reqs
  have HF : Hid (FineC l c s) := F
  obtain ⟨ao, cap, rfl, hcap, ho⟩ := hv.opened
  obtain ⟨ac, cac, rfl, hcac, hoc⟩ := hvc.opened
  have HO : Hid (∀ k, k < l.length → ∃ b off, ao = some ⟨b, off, none⟩ ∧ l.length ≤ cap ∧ b < w.heap.size ∧ ∀ j, j < l.length → w.cell? ⟨b, off + j, none⟩ = some (.int .i64 (l[j]?.getD 0))) := ho
  have HOC : Hid (∀ k, k < c.length → ∃ b off, ac = some ⟨b, off, none⟩ ∧ c.length ≤ cac ∧ b < w.heap.size ∧ ∀ j, j < c.length → w.cell? ⟨b, off + j, none⟩ = some (.int .i64 (c[j]?.getD 0))) := hoc
  obtain ⟨i1, hi, hz0, hz1, hz2⟩ := info_parts Tryd.infoT
  have HS : Hid (Tryd.prog.info? 48 = some i1 ∧ i1.zero = some (.agg #[.int .i64 0, .int .i64 0]) ∧ i1.size = 2 ∧ i1.bytes = 16) := ⟨hi, hz0, hz1, hz2⟩
  clear hi hz0 hz1 hz2 ho hoc hv hvc hc0 F
  unfold maxLen at hcap hcac
  go_enter Tryd.func9, Tryd.ntmps9
  go_wp2_with (go_at_call 6; go_must (refine (lcheck_any _ _ l c s _ HV.out HVC.out).mono ?_; rintro e w' ⟨rfl, hw⟩; have hw := hw.symm; subst hw; rw [HCK.out]; simp only [errV, if_true]))
  go_loopw [11, 12, 14, 15, 27] (fun pv vt _ _ i wr => LandRel w s (cf c) l pv vt i wr) (fun _ _ _ _ i _ => l.length - (intOf i).toNat)
  case atStart => exact land_start w s (cf c) l
  case round =>
    obtain ⟨k, hk, rfl, rfl, hot, hbel⟩ := hrel
    have INV := land_inv hs1 (cf c) l k
    have HBEL : Hid (Below w.heap.size w wr) := hbel
    by_cases hlt : k < l.length
    · obtain ⟨b, off, rfl, hlc, hbw, hcell⟩ := HO.out k hlt
      have hck : wr.cell? ⟨b, off + k, none⟩ = some (.int .i64 (l[k]?.getD 0)) := (hbel.cell (by exact hbw)).trans (hcell k hlt)
      have hpg := HF.out.page k hlt
      obtain ⟨bc, offc, rfl, hlcc, hbcw, hcellc⟩ := HOC.out (l[k]?.getD 0).toNat (by omega)
      have HCC : Hid (w.cell? ⟨bc, offc + (l[k]?.getD 0).toNat, none⟩ = some (.int .i64 (cf c (l[k]?.getD 0) : Nat))) := by unfold Hid; rw [hcellc _ (by omega), cf_get HF.out (by omega)]
      have hcl := cf_le HF.out (l[k]?.getD 0)
      have hpl := lpaid_le (s := s) (f := cf c) (l := l) (cf_le HF.out) k
      have HBCW : Hid (bc < w.heap.size) := hbcw
      clear hcell hcellc hbcw hbel
      have HLS : Hid (land s (cf c) l (k+1) = landS s (cf c) (land s (cf c) l k) (l[k]?.getD 0)) := rfl
      have hle := INV.le
      cases hh : (tenants (land s (cf c) l k)).contains (l[k]?.getD 0)
      · have HPD : Hid (lpaid s (cf c) l (k+1) = lpaid s (cf c) l k + cf c (l[k]?.getD 0)) := lpaid_miss hh
        have HPL : Hid (placeT (land s (cf c) l k) (fun x => x.1 == l[k]?.getD 0) = -1) := place_no hh
        by_cases hr : (land s (cf c) l k).length = s
        · have HLN : Hid (land s (cf c) l (k+1) = letOut (land s (cf c) l k) ++ [(l[k]?.getD 0, cf c (l[k]?.getD 0))]) := by unfold Hid; rw [HLS.out, landS, hh, if_pos hr]; simp
          have HCRD : Hid (∀ x, x ∈ land s (cf c) l k → x.2 ≤ 20) := fun x hx => Nat.le_trans (INV.cr x hx) (cf_le HF.out _)
          generalize land s (cf c) l k = st at *
          generalize lpaid s (cf c) l k = a at *
          generalize cf c (l[k]?.getD 0) = f at *
          generalize l[k]?.getD 0 = p at *
          obtain ⟨pn, rfl⟩ : ∃ n : Nat, p = n := ⟨p.toNat, by omega⟩
          rw [Int.toNat_natCast] at HCC
          have hr0 : 0 < st.length := by omega
          obtain ⟨g, tcp, rfl, hg1, hg2, hg3, hg4⟩ := hot.block hr0
          rw [hr] at hot hg3 ⊢
          have HOT : Hid (OwnT wr w.heap.size (.slice (some ⟨g, 0, none⟩) s tcp) st) := hot
          have HN : Hid (st.length = s) := hr
          have HN2 : Hid ((letOut st).length = s - 1) := by unfold Hid; rw [letOut_length (by intro e; rw [e] at hr0; simp at hr0), hr]
          clear hot hr hle INV hh hr0 HLS
          unfold maxLen at hg4
          have HOa : Hid (OwnT (wr.alloc (.cells #[.int .i64 (pn : Int)] 3)) w.heap.size (.slice (some ⟨g, 0, none⟩) s tcp) st) := World.ownsRow.alloc HOT.out _
          have HPa : Hid ((wr.alloc (.cells #[.int .i64 (pn : Int)] 3)).cell? ⟨wr.heap.size, 0, none⟩ = some (.int .i64 (pn : Int))) := by unfold Hid; simp
          go_wp2_with (go_at_call 20; fail)
          refine (tfind_any w.heap.size _ st (pn : Int) wr.heap.size _ HOa.out HPa.out (by rw [HN.out]; omega)).mono ?_
          rintro e w1 ⟨rfl, hb1⟩
          rw [HPL.out]
          have A1 := afterF HOT.out HBEL.out (Nat.le_refl _) hb1
          have HOT1 : Hid (OwnT w1 w.heap.size (.slice (some ⟨g, 0, none⟩) s tcp) st) := A1.1
          have HB1 : Hid (Below w.heap.size w w1) := A1.2.1
          have hpc := A1.2.2.1
          have HNE : Hid (((.slice (some ⟨g, 0, none⟩) s tcp) : Value).ownBlock ≠ some wr.heap.size) := A1.2.2.2.2
          clear A1 hb1 HOa HPa HOT HBEL
          go_wp2_with (go_at_call 22; fail)
          refine (letgoT_any w.heap.size _ st w1 HOT1.out (by rw [HN.out]; omega) (by rw [HN.out]; exact hs8) HCRD.out).mono ?_
          rintro e w2 ⟨v2, rfl, ho2, hob2, hgr2⟩
          have hpc2 : w2.cell? ⟨wr.heap.size, 0, none⟩ = some (.int .i64 (pn : Int)) := hgr2.cell hpc (fun e => HNE.out e.symm)
          have HB2 : Hid (Below w.heap.size w w2) := belowT_grown HOT1.out HB1.out (Nat.le_refl _) hgr2
          have hcc2 : w2.cell? ⟨bc, offc + pn, none⟩ = some (.int .i64 (f : Int)) := (HB2.out.cell (by exact HBCW.out)).trans HCC.out
          have HO2 : Hid (OwnT w2 w.heap.size v2 (letOut st)) := ho2
          have HNE2 : Hid (v2.ownBlock ≠ some wr.heap.size) := by unfold Hid; rw [hob2]; exact HNE.out
          obtain ⟨av, cv, hv2⟩ := ho2.form
          rw [HN2.out] at hv2
          clear ho2 hob2 hgr2 hpc HNE HB1 HOT1
          subst hv2
          have HADD : Hid ((a : Int) + (f : Int) = ((a + f : Nat) : Int)) := by unfold Hid; omega
          go_wp2_with fail
          go_region_law (refine step_append_own rfl (.tmp 50) (.tmp 57) 45 rfl w.heap.size 48 i1 (.agg #[.int .i64 0, .int .i64 0]) 2 16 Tryd.underlying45 HS.out.1 HS.out.2.1 HS.out.2.2.1 HS.out.2.2.2 rfl (by decide) (.slice av (s - 1) cv) (s - 1) (rowT (letOut st)) (by simp [Act.eval]) (World.ownsRow.alloc (w := w2.drew) (by have := HO2.out; unfold OwnT at this; rw [HN2.out] at this; exact this) _) ⟨w2.heap.size, 0, none⟩ 1 1 [.int .i64 (pn : Int), .int .i64 (f : Int)] (by simp [Act.eval]) rfl (by exact new_twoT _ _ _ _) (two_cellT _ _) (by unfold maxLen; omega) (by omega) (by have := HB2.out.size; simp; omega) ?_; intro v3 w3 hown3 hgrow3 _; have A3 := afterT HO2.out HN2.out HB2.out (Nat.le_refl _) hown3 hgrow3; have HT3 : Hid (OwnT w3 w.heap.size v3 ((letOut st) ++ [((pn : Int), f)])) := A3.1; have HB3 : Hid (Below w.heap.size w w3) := A3.2.1; have hpc3 := A3.2.2 _ _ hpc2 HNE2.out; have hcc3 : w3.cell? ⟨bc, offc + pn, none⟩ = some (.int .i64 (f : Int)) := (HB3.out.cell (by exact HBCW.out)).trans HCC.out; clear A3 hown3 hgrow3)
          go_wp2
          all_goals
            go_roundw
            case rel => exact ⟨k + 1, by omega, by go_num, by rw [HPD.out, ← HADD.out], by rw [HLN.out]; exact HT3.out, HB3.out⟩
            case measure => simp [intOf]; omega
        · have HLN : Hid (land s (cf c) l (k+1) = land s (cf c) l k ++ [(l[k]?.getD 0, cf c (l[k]?.getD 0))]) := by unfold Hid; rw [HLS.out, landS, hh, if_neg hr]; simp
          generalize land s (cf c) l k = st at *
          generalize lpaid s (cf c) l k = a at *
          generalize cf c (l[k]?.getD 0) = f at *
          generalize l[k]?.getD 0 = p at *
          obtain ⟨pn, rfl⟩ : ∃ n : Nat, p = n := ⟨p.toNat, by omega⟩
          rw [Int.toNat_natCast] at HCC
          obtain ⟨ao2, tcp, rfl⟩ := hot.form
          have HOT : Hid (OwnT wr w.heap.size (.slice ao2 st.length tcp) st) := hot
          have ht7 : st.length ≤ 7 := by omega
          clear hot INV hh HLS
          generalize hn : st.length = n at *
          have HN : Hid (st.length = n) := hn
          have hns : ((n : Int) == (s : Int)) = false := by simp; omega
          clear hn
          have HOa : Hid (OwnT (wr.alloc (.cells #[.int .i64 (pn : Int)] 3)) w.heap.size (.slice ao2 n tcp) st) := World.ownsRow.alloc HOT.out _
          have HPa : Hid ((wr.alloc (.cells #[.int .i64 (pn : Int)] 3)).cell? ⟨wr.heap.size, 0, none⟩ = some (.int .i64 (pn : Int))) := by unfold Hid; simp
          go_wp2_with (go_at_call 20; fail)
          refine (tfind_any w.heap.size _ st (pn : Int) wr.heap.size _ HOa.out HPa.out (by rw [HN.out]; omega)).mono ?_
          rintro e w1 ⟨rfl, hb1⟩
          rw [HPL.out]
          have A1 := afterF HOT.out HBEL.out (Nat.le_refl _) hb1
          have HOT1 : Hid (OwnT w1 w.heap.size (.slice ao2 n tcp) st) := A1.1
          have HB1 : Hid (Below w.heap.size w w1) := A1.2.1
          have hpc := A1.2.2.1
          have HNE : Hid (((.slice ao2 n tcp) : Value).ownBlock ≠ some wr.heap.size) := A1.2.2.2.2
          clear A1 hb1 HOa HPa HOT HBEL
          have hcc1 : w1.cell? ⟨bc, offc + pn, none⟩ = some (.int .i64 (f : Int)) := (HB1.out.cell (by exact HBCW.out)).trans HCC.out
          have HADD : Hid ((a : Int) + (f : Int) = ((a + f : Nat) : Int)) := by unfold Hid; omega
          go_wp2_with fail
          go_region_law (refine step_append_own rfl (.tmp 50) (.tmp 57) 45 rfl w.heap.size 48 i1 (.agg #[.int .i64 0, .int .i64 0]) 2 16 Tryd.underlying45 HS.out.1 HS.out.2.1 HS.out.2.2.1 HS.out.2.2.2 rfl (by decide) (.slice ao2 n tcp) n (rowT st) (by simp [Act.eval]) (World.ownsRow.alloc (w := w1.drew) (by have := HOT1.out; unfold OwnT at this; rw [HN.out] at this; exact this) _) ⟨w1.heap.size, 0, none⟩ 1 1 [.int .i64 (pn : Int), .int .i64 (f : Int)] (by simp [Act.eval]) rfl (by exact new_twoT _ _ _ _) (two_cellT _ _) (by unfold maxLen; omega) (by omega) (by have := HB1.out.size; simp; omega) ?_; intro v3 w3 hown3 hgrow3 _; have A3 := afterT HOT1.out HN.out HB1.out (Nat.le_refl _) hown3 hgrow3; have HT3 : Hid (OwnT w3 w.heap.size v3 (st ++ [((pn : Int), f)])) := A3.1; have HB3 : Hid (Below w.heap.size w w3) := A3.2.1; have hpc3 := A3.2.2 _ _ hpc HNE.out; have hcc3 : w3.cell? ⟨bc, offc + pn, none⟩ = some (.int .i64 (f : Int)) := (HB3.out.cell (by exact HBCW.out)).trans HCC.out; clear A3 hown3 hgrow3)
          go_wp2
          all_goals
            go_roundw
            case rel => exact ⟨k + 1, by omega, by go_num, by rw [HPD.out, ← HADD.out], by rw [HLN.out]; exact HT3.out, HB3.out⟩
            case measure => simp [intOf]; omega
      · have HPD : Hid (lpaid s (cf c) l (k+1) = lpaid s (cf c) l k) := lpaid_hit hh
        have HAG : Hid ((land s (cf c) l k).set ((land s (cf c) l k).findIdx fun x => x.1 == l[k]?.getD 0) (l[k]?.getD 0, cf c (l[k]?.getD 0)) = land s (cf c) l (k+1)) := by unfold Hid; rw [HLS.out, landS, hh, again_set INV.nd (List.contains_iff_mem.1 hh)]; simp
        obtain ⟨hp1, hix, hp3⟩ := place_yes hh
        have HPL : Hid (placeT (land s (cf c) l k) (fun x => x.1 == l[k]?.getD 0) = (((land s (cf c) l k).findIdx fun x => x.1 == l[k]?.getD 0 : Nat) : Int)) := hp1
        clear hp1
        generalize land s (cf c) l k = st at *
        generalize lpaid s (cf c) l k = a at *
        generalize cf c (l[k]?.getD 0) = f at *
        generalize l[k]?.getD 0 = p at *
        obtain ⟨pn, rfl⟩ : ∃ n : Nat, p = n := ⟨p.toNat, by omega⟩
        rw [Int.toNat_natCast] at HCC
        generalize (st.findIdx fun x => x.1 == (pn : Int)) = ix at *
        have HXP : Hid ((tenAt st ix).1 = (pn : Int)) := hp3
        obtain ⟨g, tcp, rfl, hg1, hg2, hg3, hg4⟩ := hot.block (by omega)
        have HOT : Hid (OwnT wr w.heap.size (.slice (some ⟨g, 0, none⟩) st.length tcp) st) := hot
        clear hot INV hh HLS hp3
        unfold maxLen at hg4
        generalize hn : st.length = n at *
        have HN : Hid (st.length = n) := hn
        clear hn
        have HOa : Hid (OwnT (wr.alloc (.cells #[.int .i64 (pn : Int)] 3)) w.heap.size (.slice (some ⟨g, 0, none⟩) n tcp) st) := World.ownsRow.alloc HOT.out _
        have HPa : Hid ((wr.alloc (.cells #[.int .i64 (pn : Int)] 3)).cell? ⟨wr.heap.size, 0, none⟩ = some (.int .i64 (pn : Int))) := by unfold Hid; simp
        go_wp2_with (go_at_call 20; fail)
        refine (tfind_any w.heap.size _ st (pn : Int) wr.heap.size _ HOa.out HPa.out (by rw [HN.out]; omega)).mono ?_
        rintro e w1 ⟨rfl, hb1⟩
        rw [HPL.out]
        have A1 := afterF HOT.out HBEL.out (Nat.le_refl _) hb1
        have HOT1 : Hid (OwnT w1 w.heap.size (.slice (some ⟨g, 0, none⟩) n tcp) st) := A1.1
        have HB1 : Hid (Below w.heap.size w w1) := A1.2.1
        have hpc := A1.2.2.1
        have HNE : Hid (((.slice (some ⟨g, 0, none⟩) n tcp) : Value).ownBlock ≠ some wr.heap.size) := A1.2.2.2.2
        clear A1 hb1 HOa HPa HOT HBEL
        have hcc1 : w1.cell? ⟨bc, offc + pn, none⟩ = some (.int .i64 (f : Int)) := (HB1.out.cell (by exact HBCW.out)).trans HCC.out
        have hcr1 := HOT1.out.credit HN.out.symm (j := ix) (by rw [HN.out]; exact hix)
        have hfr1 := HOT1.out.unfrozen HN.out.symm (ix * 2 + 1)
        go_wp2
        go_roundw
        case rel =>
          have P := HOT1.out.setCredit HN.out.symm ix f
          rw [HXP.out, HAG.out] at P
          exact ⟨k + 1, by omega, by go_num, by rw [HPD.out], P.1, belowT_grown HOT1.out HB1.out (Nat.le_refl _) P.2⟩
        case measure => simp [intOf]; omega
    · have hkl : k = l.length := by omega
      have HOE : Hid (OwnT wr w.heap.size u12 (land s (cf c) l l.length)) := by rw [hkl] at hot; exact hot
      have HPE : Hid (lpaid s (cf c) l k = lpaid s (cf c) l l.length) := by rw [hkl]; rfl
      have HL8 : Hid ((land s (cf c) l l.length).length ≤ 8) := by rw [hkl] at INV; have := INV.le; unfold Hid; omega
      clear hot hkl hbel INV
      generalize lpaid s (cf c) l k = a at *
      go_wp2_with (go_at_call 23; fail)
      refine (apartT_any w.heap.size _ _ wr HOE.out HL8.out).mono ?_
      rintro e w2 ⟨vp, vq, rfl, hop, hoq, hb2⟩
      have HP2 : Hid (OwnI w2 w.heap.size vp (tenants (land s (cf c) l l.length))) := ownI_mono hop HBEL.out.size
      have HQ2 : Hid (OwnI w2 w.heap.size vq (creds (land s (cf c) l l.length))) := ownI_mono hoq HBEL.out.size
      have HB2 : Hid (Below w.heap.size w w2) := HBEL.out.trans (hb2.mono HBEL.out.size)
      clear hop hoq hb2
      go_wp2
      refine bodyPost_ret (results_four rfl _ _ _) rfl ?_
      exact ⟨_, _, by rw [← HPE.out]; rfl, HP2.out, HQ2.out, HB2.out⟩

set_option maxHeartbeats 1000000 in
theorem land_err (v vc : Value) (l c : List Int) (s : Int) (w : World) (hv : IsInts w v l) (hvc : IsInts w vc c) (n : Nat) (hn : n = 1 ∨ n = 4) (hc : chkC l c s = n) :
    Calls Tryd.prog 9 #[v, vc, .int .i64 s] w fun e w' => e = .returned (.tuple #[.int .i64 0, .slice none 0 0, .slice none 0 0, errV n]) ∧ w' = w := by
  have HV : Hid (IsInts w v l) := hv
  have HVC : Hid (IsInts w vc c) := hvc
  have HCK : Hid (chkC l c s = n) := hc
  clear hc hv hvc
  rcases hn with rfl | rfl
  all_goals
    go_enter Tryd.func9, Tryd.ntmps9
    go_wp2_with (go_at_call 6; go_must (refine (lcheck_any _ _ l c s _ HV.out HVC.out).mono ?_; rintro e w' ⟨rfl, hw⟩; have hw := hw.symm; subst hw; rw [HCK.out]; simp only [errV]))
    (try simp only [Exit.inBlock, Exit.then])
    refine bodyPost_ret (results_four rfl _ _ _) rfl ?_
    exact ⟨rfl, rfl⟩

/-- What landlord.Run answers. -/
def landN (l c : List Int) (s : Int) : Nat := if chkC l c s = 0 then lpaid s.toNat (cf c) l l.length else 0
def landT (l c : List Int) (s : Int) : List (Int × Nat) := if chkC l c s = 0 then land s.toNat (cf c) l l.length else []
theorem landlord_any (v vc : Value) (l c : List Int) (s : Int) (w : World) (hv : IsInts w v l) (hvc : IsInts w vc c) :
    Calls Tryd.prog 9 #[v, vc, .int .i64 s] w fun e w' => ∃ vp vq, e = .returned (.tuple #[.int .i64 (landN l c s : Nat), vp, vq, errV (chkC l c s)]) ∧ OwnI w' w.heap.size vp (tenants (landT l c s)) ∧ OwnI w' w.heap.size vq (creds (landT l c s)) ∧ Below w.heap.size w w' := by
  by_cases h : chkC l c s = 0
  · have F := chkC_zero h
    rw [landN, landT, if_pos h, if_pos h, h]
    obtain ⟨n, rfl⟩ : ∃ n : Nat, s = n := ⟨s.toNat, by have := F.slots; omega⟩
    rw [Int.toNat_natCast]
    exact land_ok v vc l c n w hv hvc h
  · have hn : chkC l c s = 1 ∨ chkC l c s = 4 := by have := chkC_cases l c s; omega
    rw [landN, landT, if_neg h, if_neg h]
    refine (land_err v vc l c s w hv hvc _ hn rfl).mono ?_
    rintro e w' ⟨rfl, rfl⟩
    exact ⟨_, _, rfl, OwnI.nil _ _, OwnI.nil _ _, Below.refl _ _⟩
end Go.Proofs.YtedmfehjifknbaaDoor
