/- AckAny is proved: for every list of times, every price and every list of times of telling, in whatever memory and on every schedule, it returns true and leaves its arguments as they were: nobody tells for less than the least, at whatever times, as long as all are told. No condition. -/
import Derived.Test.YtbdkpgjbcjmoiaaAckWaitsL
import Derived.Test.YtbdkpgjbcjmoiaaLawIn2
import Derived.Test.YtbdkpgjbcjmoiaaLawkit
namespace Go.Proofs.Ytbdkpgjbcjmoiaa
set_option maxRecDepth 100000
open Go.ChangeShapes Go.WideShapes Go.ChangeAt Go.RowKit Go.Sort

theorem anyCost_snoc (p : Int) : ∀ (T : List Int) (a : Int) (l : List Int), anyCost p (T ++ [a]) l = anyCost p T l + (late (upto a (anyLeft T l)) a + p)
  | [], a, l => by rw [List.nil_append, anyCost, anyCost, anyCost, anyLeft]; omega
  | b :: T, a, l => by rw [List.cons_append, anyCost, anyCost, anyLeft, anyCost_snoc p T a]; omega
theorem anyLeft_snoc : ∀ (T : List Int) (a : Int) (l : List Int), anyLeft (T ++ [a]) l = past a (anyLeft T l)
  | [], _, _ => rfl
  | b :: T, a, l => by rw [List.cons_append, anyLeft, anyLeft, anyLeft_snoc T a]
theorem anyLeft_fine {p : Int} : ∀ (T : List Int) {l : List Int}, FineA l p → FineA (anyLeft T l) p
  | [], _, h => h
  | a :: T, _, h => anyLeft_fine T (h.past a)
theorem take_snoc {l : List Int} {k : Nat} (h : k < l.length) : l.take (k+1) = l.take k ++ [l[k]?.getD 0] := by
  rw [List.take_succ_eq_append_getElem h, List.getElem?_eq_getElem h]; rfl
theorem upto_late {l : List Int} {a : Int} {k : Nat} (hk : k < l.length) : late (upto a (l.take (k+1))) a = late (upto a (l.take k)) a + (if l[k]?.getD 0 ≤ a then a - l[k]?.getD 0 else 0) := by
  rw [take_snoc hk]
  unfold upto
  rw [List.filter_append, late_append]
  by_cases h : l[k]?.getD 0 ≤ a
  · rw [List.filter_cons_of_pos (by simpa using h), if_pos h, List.filter_nil, late, late]
    split <;> omega
  · rw [List.filter_cons_of_neg (by simpa using h), if_neg h, List.filter_nil, late]
theorem past_snoc {l : List Int} {a : Int} {k : Nat} (hk : k < l.length) : past a (l.take (k+1)) = past a (l.take k) ++ (if a < l[k]?.getD 0 then [l[k]?.getD 0] else []) := past_take hk a
theorem late_some {l : List Int} {a : Int} (hl : l.length ≤ 20) (h0 : ∀ x, x ∈ l → 0 ≤ x) (ha : 0 ≤ a ∧ a ≤ 3000) (k : Nat) : 0 ≤ late (upto a (l.take k)) a ∧ late (upto a (l.take k)) a ≤ 60000 := by
  refine ⟨late_nonneg _ _, ?_⟩
  have := late_le (l := upto a (l.take k)) (a := a) (m := 3000) (by omega) fun x hx => by have := h0 x (List.mem_of_mem_take (List.mem_filter.1 hx).1); omega
  have h2 : (upto a (l.take k)).length ≤ 20 := by
    have := List.length_filter_le (fun t => decide (t ≤ a)) (l.take k)
    rw [List.length_take] at this
    unfold upto; omega
  omega
/-- How it stands behind k times of telling. -/
structure AnyRel (l : List Int) (p : Int) (T : List Int) (k : Nat) (cur : List Int) (sum : Int) : Prop where
  left_ : anyLeft (T.take k) l = cur
  cost_ : anyCost p (T.take k) l = sum
  fine : FineA cur p
  pos : 0 ≤ sum ∧ sum ≤ 60020 * k
theorem AnyRel.step {l T cur : List Int} {p sum : Int} {k : Nat} (h : AnyRel l p T k cur sum) (hk : k < T.length) (ha : 0 ≤ T[k]?.getD 0 ∧ T[k]?.getD 0 ≤ 3000) :
    AnyRel l p T (k+1) (past (T[k]?.getD 0) cur) (sum + late (upto (T[k]?.getD 0) cur) (T[k]?.getD 0) + p) := by
  have hp := h.fine.price
  have hb := late_some h.fine.many (fun x hx => (h.fine.times x hx).1) ha cur.length
  rw [List.take_length] at hb
  have := h.pos
  refine ⟨by rw [take_snoc hk, anyLeft_snoc, h.left_], by rw [take_snoc hk, anyCost_snoc, h.left_, h.cost_]; omega, h.fine.past _, by omega⟩

set_option maxHeartbeats 4000000 in
theorem aany_any (v : Value) (l : List Int) (p : Int) (vt : Value) (T : List Int) (w : World) (hv : IsInts w v l) (_ : ∃ ao cap, v = .slice ao l.length cap) (hvt : IsInts w vt T) (_ : ∃ ao cap, vt = .slice ao T.length cap) :
    Calls Try.prog 4 #[v, .int .i64 p, vt] w fun e w' => e = .returned (.bool true) ∧ Below w.heap.size w w' := by
  have HV : Hid (IsInts w v l) := hv
  obtain ⟨ao, cap, rfl, hcap, _⟩ := hv.opened
  obtain ⟨at_, act, rfl, hcat, hot⟩ := hvt.opened
  have HT : Hid (∀ k, k < T.length → ∃ b off, at_ = some ⟨b, off, none⟩ ∧ T.length ≤ act ∧ b < w.heap.size ∧ ∀ j, j < T.length → w.cell? ⟨b, off + j, none⟩ = some (.int .i64 (T[j]?.getD 0))) := hot
  unfold maxLen at hcap hcat
  clear hv hvt hot
  obtain ⟨i0, hi, hz0, hz1, hz2⟩ := info_parts Try.info3
  have HI : Hid (Try.prog.info? 3 = some i0 ∧ i0.zero = some (.int .i64 0) ∧ i0.size = 1 ∧ i0.bytes = 8) := ⟨hi, hz0, hz1, hz2⟩
  clear hi hz0 hz1 hz2
  go_enter Try.func4, Try.ntmps4
  go_wp2_with (first | (go_at_call 7; go_must (refine (afact_any _).mono ?_; rintro e w1 ⟨rfl, hb1⟩; have HB1 : Hid (Below w.heap.size w w1) := hb1; clear hb1)) | (go_at_call 9; fail))
  refine (wleast_any _ l p _ (HV.out.below HB1.out)).mono ?_
  rintro e w2 ⟨x, rfl, hx, hb2⟩
  have HB2 : Hid (Below w.heap.size w w2) := HB1.out.trans (hb2.mono HB1.out.size)
  clear hb2 HB1
  by_cases hc : chkA l p = 0
  case neg =>
    have hn : chkA l p = 1 ∨ chkA l p = 4 ∨ chkA l p = 6 := by have := chkA_cases l p; omega
    obtain rfl := hx.err hc
    rcases hn with hn | hn | hn
    all_goals
      rw [hn]
      clear hn hc hx
      simp only [errV]
      go_wp2
      go_ret
      exact ⟨rfl, HB2.out⟩
  have F := chkA_zero hc
  have hp := F.price
  have HX : Hid (LeastTell p l x) := hx.ok hc
  have hx8 : (x : Int) ≤ 800 := by
    have h1 := (least_run (show 0 ≤ p by omega) F.rise HX.out).1
    have h2 := tc_most F
    omega
  have HS0 : Hid (AnyRel l p T 0 l 0) := ⟨rfl, rfl, F, by omega⟩
  have HEND : Hid (∀ {k cur sum}, AnyRel l p T k cur sum → cur = [] → (x : Int) ≤ sum) := fun h h0 => by
    have := any_least (show 0 ≤ p by omega) F.rise (by rw [h.left_, h0]) HX.out (T := T.take _)
    rw [h.cost_] at this
    exact this
  rw [hc, show errV 0 = .nilIface from rfl]
  have HV2 : Hid (IsInts w2 (.slice ao l.length cap) l) := HV.out.below HB2.out
  clear hc hx F
  go_wp2
  go_loopw [10, 11, 12] (fun vl sm ix wr => ∃ (k : Nat) (cur : List Int) (sum : Int), k ≤ T.length ∧ k ≤ 40 ∧ ix = .int .i64 k ∧ sm = .int .i64 sum ∧ IsInts wr vl cur ∧ AnyRel l p T k cur sum ∧ Below w.heap.size w wr) (fun _ _ ix _ => 40 - (intOf ix).toNat)
  case atStart => exact ⟨0, l, 0, by omega, by omega, rfl, rfl, HV2.out, HS0.out, HB2.out⟩
  case round =>
    obtain ⟨k, cur, sum, hk, hk40, rfl, rfl, hvl, har, hbr⟩ := hrel
    have HBR : Hid (Below w.heap.size w wr) := hbr
    have HAR : Hid (AnyRel l p T k cur sum) := har
    obtain ⟨hs0, hs1⟩ := har.pos
    have hcl20 := har.fine.many
    obtain ⟨al, cl, rfl, hcl, hcu⟩ := hvl.opened
    unfold maxLen at hcl
    have HVL : Hid (IsInts wr (.slice al cur.length cl) cur) := hvl
    have HCUR0 : Hid (∀ j, j < cur.length → ∃ b off, al = some ⟨b, off, none⟩ ∧ cur.length ≤ cl ∧ b < wr.heap.size ∧ ∀ i, i < cur.length → wr.cell? ⟨b, off + i, none⟩ = some (.int .i64 (cur[i]?.getD 0))) := hcu
    have HXB : Hid (∀ j, j < cur.length → 0 ≤ cur[j]?.getD 0 ∧ cur[j]?.getD 0 ≤ 1000) := fun j hj => by rw [List.getElem?_eq_getElem hj]; exact har.fine.times _ (List.getElem_mem hj)
    clear hcu hvl har hbr
    by_cases hlt : k < T.length
    · by_cases hlt40 : k < 40
      · obtain ⟨bT, offT, rfl, hlT, hbT, hcT⟩ := HT.out k hlt
        have hct1 : wr.cell? ⟨bT, offT + k, none⟩ = some (.int .i64 (T[k]?.getD 0)) := (HBR.out.cell (by exact hbT)).trans (hcT k hlt)
        by_cases hq : within (T[k]?.getD 0) 0 3000 = true
        case neg =>
          have HQ : Hid (within (T[k]?.getD 0) 0 3000 = false) := by unfold Hid; simpa using hq
          have HWF : Hid (∀ n, Calls Try.prog 10 #[.int .i64 (T[k]?.getD 0), .int .i64 0, .int .i64 3000] (wr.drewN n) fun e w' => e = .returned (.bool false) ∧ w' = wr.drewN n) := fun n => by
            have := within_any (T[k]?.getD 0) 0 3000 (wr.drewN n)
            rwa [HQ.out] at this
          clear hq hcT
          generalize T[k]?.getD 0 = t at *
          go_wp2
          go_quiet (first | (go_at_call 10; exact Calls.quiet_of_same (HWF.out _)))
          go_wp2
          go_ret
          exact ⟨rfl, below_drewN HBR.out _⟩
        have HQ : Hid (within (T[k]?.getD 0) 0 3000 = true) := hq
        have hd40 : decide ((k : Int) < 40) = true := decide_eq_true (by omega)
        simp [within] at hq
        have HSTEP : Hid (AnyRel l p T (k+1) (past (T[k]?.getD 0) cur) (sum + late (upto (T[k]?.getD 0) cur) (T[k]?.getD 0) + p)) := HAR.out.step hlt hq
        have HLB : Hid (∀ j, 0 ≤ late (upto (T[k]?.getD 0) (cur.take j)) (T[k]?.getD 0) ∧ late (upto (T[k]?.getD 0) (cur.take j)) (T[k]?.getD 0) ≤ 60000) := fun j => late_some hcl20 (fun x hx => (HAR.out.fine.times x hx).1) hq j
        have HWI : Hid (∀ n, Calls Try.prog 10 #[.int .i64 (T[k]?.getD 0), .int .i64 0, .int .i64 3000] (wr.drewN n) fun e w' => e = .returned (.bool true) ∧ w' = wr.drewN n) := fun n => by
          have := within_any (T[k]?.getD 0) 0 3000 (wr.drewN n)
          rwa [HQ.out] at this
        by_cases h0 : k = 0
        · have hk0 : decide (0 < (k : Int)) = false := decide_eq_false (by omega)
          have hk1 : ¬ 0 < k := by omega
          clear hcT h0
          generalize T[k]?.getD 0 = t at *
          go_wp2
          go_quiet (first | (go_at_call 10; exact Calls.quiet_of_same (HWI.out _)))
          have HBS : Hid (Below w.heap.size w (wr.drewN nq)) := below_drewN HBR.out _
          have HCUR : Hid (∀ j, j < cur.length → ∃ b off, al = some ⟨b, off, none⟩ ∧ cur.length ≤ cl ∧ b < (wr.drewN nq).heap.size ∧ ∀ i, i < cur.length → (wr.drewN nq).cell? ⟨b, off + i, none⟩ = some (.int .i64 (cur[i]?.getD 0))) := HCUR0.out
          have hct : (wr.drewN nq).cell? ⟨bT, offT + k, none⟩ = some (.int .i64 t) := hct1
          clear HBR HCUR0 hct1 HVL
          generalize wr.drewN nq = ws at *
          go_wp2
          have hal : ws.cell? ⟨bT, offT + k, none⟩ = some (.int .i64 t) := hct
          have hct0 := hct
          clear hal
          go_loopw [11, 13, 14] (fun sm vm jx wj => ∃ j : Nat, j ≤ cur.length ∧ jx = .int .i64 j ∧ sm = .int .i64 (sum + late (upto t (cur.take j)) t) ∧ OwnI wj ws.heap.size vm (past t (cur.take j)) ∧ Below ws.heap.size ws wj) (fun _ _ jx _ => cur.length - (intOf jx).toNat)
          case atStart => exact ⟨0, Nat.zero_le _, rfl, by rw [List.take_zero]; show Value.int .i64 sum = Value.int .i64 (sum + 0); rw [Int.add_zero], by rw [List.take_zero]; exact OwnI.nil _ _, Below.refl _ _⟩
          case round =>
            obtain ⟨j, hj, rfl, rfl, hom, hbj⟩ := hrel
            have HBJ : Hid (Below ws.heap.size ws wr) := hbj
            have HLT : Hid (∀ j, 0 ≤ late (upto t (cur.take j)) t ∧ late (upto t (cur.take j)) t ≤ 60000) := HLB.out
            obtain ⟨l1, l2⟩ := HLT.out j
            by_cases hlj : j < cur.length
            · obtain ⟨bl, offl, rfl, hlc, hbl, hcell⟩ := HCUR.out j hlj
              have hcj : wr.cell? ⟨bl, offl + j, none⟩ = some (.int .i64 (cur[j]?.getD 0)) := (hbj.cell (by exact hbl)).trans (hcell j hlj)
              have htj : wr.cell? ⟨bT, offT + k, none⟩ = some (.int .i64 t) := (hbj.cell (World.block_lt_of_cell? ws _ hct0)).trans hct0
              have hx0 := HXB.out j hlj
              have hsz : ws.heap.size ≤ wr.heap.size := hbj.size
              obtain ⟨l3, l4⟩ := HLT.out (j + 1)
              have EL := upto_late (l := cur) (a := t) hlj
              have EP := past_snoc (l := cur) (a := t) hlj
              obtain ⟨am, cm, rfl⟩ := hom.form
              have hpl : (past t (cur.take j)).length ≤ 20 := by
                have := past_le t (cur.take j)
                rw [List.length_take] at this
                omega
              have HOM : Hid (OwnI wr ws.heap.size (.slice am (past t (cur.take j)).length cm) (past t (cur.take j))) := hom
              clear hcell hom hbj
              by_cases hgt : t < cur[j]?.getD 0
              · rw [if_neg (by omega)] at EL
                rw [if_pos hgt] at EP
                rw [EL] at l3 l4
                have HEL : Hid (late (upto t (cur.take (j+1))) t = late (upto t (cur.take j)) t + 0) := EL
                have HEP : Hid (past t (cur.take (j+1)) = past t (cur.take j) ++ [cur[j]?.getD 0]) := EP
                clear EL EP
                generalize cur[j]?.getD 0 = c at *
                generalize past t (cur.take j) = pl at *
                generalize late (upto t (cur.take j)) t = x1 at *
                have d1 : decide (t < c) = true := decide_eq_true hgt
                go_wp2
                go_quiet (fail)
                have HOM2 : Hid (OwnI (wr.drewN nq) ws.heap.size (.slice am pl.length cm) pl) := HOM.out.rows rfl rfl
                have HBJ2 : Hid (Below ws.heap.size ws (wr.drewN nq)) := below_drewN HBJ.out _
                have hcj2 : (wr.drewN nq).cell? ⟨bl, offl + j, none⟩ = some (.int .i64 c) := hcj
                have hsz2 : ws.heap.size ≤ (wr.drewN nq).heap.size := hsz
                clear HOM HBJ hcj htj hsz
                generalize wr.drewN nq = wk at *
                go_wp2_with (at_builtin; (refine wpList_append_own _ rfl _ _ 22 rfl ws.heap.size 3 i0 (.int .i64 0) 1 8 Try.underlying22 HI.out.1 HI.out.2.1 HI.out.2.2.1 HI.out.2.2.2 rfl (by decide) _ pl.length (pl.map (Value.int .i64)) rfl (World.ownsRow.alloc (HOM2.out.rows rfl rfl) _) ⟨wk.heap.size, 0, none⟩ 1 1 [.int .i64 c] rfl rfl (by exact new_one _ _ _) (one_cell _) (by unfold maxLen; omega) (by omega) (by simp; omega) ?_; intro v2 w3 hown' hgrow _; have R := keeps_append HOM2.out rfl hsz2 hown' hgrow; have HR2 : Hid (OwnI w3 ws.heap.size v2 (pl ++ [c])) := R.1; have HK2 : Hid (Below ws.heap.size ws w3) := R.2.2 _ (Nat.le_refl _) HBJ2.out; clear hown' hgrow R))
                go_roundw
                case rel =>
                  have HF : ∃ j', j' ≤ cur.length ∧ Value.int .i64 ((j : Int) + 1) = .int .i64 (j' : Nat) ∧ Value.int .i64 (sum + x1) = .int .i64 (sum + late (upto t (cur.take j')) t) ∧ OwnI w3 ws.heap.size v2 (past t (cur.take j')) ∧ Below ws.heap.size ws w3 := ⟨j + 1, by omega, by go_num, by rw [HEL.out, Int.add_zero], by rw [HEP.out]; exact HR2.out, HK2.out⟩
                  first | exact HF | ((repeat apply Exists.intro); exact ⟨HF, rfl⟩)
                case measure => simp [intOf]; omega
              · rw [if_pos (by omega)] at EL
                rw [if_neg hgt, List.append_nil] at EP
                rw [EL] at l3 l4
                have HEL : Hid (late (upto t (cur.take (j+1))) t = late (upto t (cur.take j)) t + (t - cur[j]?.getD 0)) := EL
                have HEP : Hid (past t (cur.take (j+1)) = past t (cur.take j)) := EP
                clear EL EP
                generalize cur[j]?.getD 0 = c at *
                generalize past t (cur.take j) = pl at *
                generalize late (upto t (cur.take j)) t = x1 at *
                have d1 : decide (t < c) = false := decide_eq_false hgt
                go_wp2
                go_quiet (fail)
                go_wp2
                go_quiet (fail)
                go_wp2
                go_roundw
                case rel =>
                  first
                  | exact ⟨j + 1, by omega, by go_num, by first | (rw [HEL.out]; done) | (rw [HEL.out]; go_num), by rw [HEP.out]; exact HOM.out.rows rfl rfl, below_drewN HBJ.out _⟩
                  | ((repeat apply Exists.intro); exact ⟨⟨j + 1, by omega, by go_num, by first | (rw [HEL.out]; done) | (rw [HEL.out]; go_num), by rw [HEP.out]; exact HOM.out.rows rfl rfl, below_drewN HBJ.out _⟩, rfl⟩)
                case measure => simp [intOf]; omega
            · have hjc : j = cur.length := by omega
              subst hjc
              rw [List.take_length] at hom l1 l2 ⊢
              have HOM : Hid (OwnI wr ws.heap.size u13 (past t cur)) := hom
              have HBB : Hid (Below w.heap.size w wr) := HBS.out.trans (HBJ.out.mono HBS.out.size)
              clear hom hbj hct hct0
              have HST2 := HSTEP.out
              generalize late (upto t cur) t = x1 at *
              go_wp2
              go_roundw
              case rel => exact ⟨k + 1, past t cur, sum + x1 + p, by omega, by omega, by go_num, by go_num, HOM.out.isInts, HST2, HBB.out⟩
              case measure => simp [intOf]; omega
        · obtain ⟨m, hm⟩ : ∃ m : Nat, k = m + 1 := ⟨k - 1, by omega⟩
          have hcm : wr.cell? ⟨bT, offT + m, none⟩ = some (.int .i64 (T[m]?.getD 0)) := (HBR.out.cell (by exact hbT)).trans (hcT m (by omega))
          have hk0 : decide (0 < (k : Int)) = true := decide_eq_true (by omega)
          have hk1 : 0 < k := by omega
          have hsub : IntKind.i64.wrap ((k : Int) - 1) = (m : Int) := by rw [IntKind.wrap_i64]; omega
          have hmT : m < T.length := by omega
          clear hcT h0 hm
          generalize T[k]?.getD 0 = t at *
          generalize T[m]?.getD 0 = tm at *
          by_cases hlo : t < tm
          · have d0 : decide (t < tm) = true := decide_eq_true hlo
            go_wp2
            go_quiet (first | (go_at_call 10; exact Calls.quiet_of_same (HWI.out _)))
            go_wp2
            go_ret
            exact ⟨rfl, below_drewN HBR.out _⟩
          · have d0 : decide (t < tm) = false := decide_eq_false hlo
            go_wp2
            go_quiet (first | (go_at_call 10; exact Calls.quiet_of_same (HWI.out _)))
            clear hcm
            have HBS : Hid (Below w.heap.size w (wr.drewN nq)) := below_drewN HBR.out _
            have HCUR : Hid (∀ j, j < cur.length → ∃ b off, al = some ⟨b, off, none⟩ ∧ cur.length ≤ cl ∧ b < (wr.drewN nq).heap.size ∧ ∀ i, i < cur.length → (wr.drewN nq).cell? ⟨b, off + i, none⟩ = some (.int .i64 (cur[i]?.getD 0))) := HCUR0.out
            have hct : (wr.drewN nq).cell? ⟨bT, offT + k, none⟩ = some (.int .i64 t) := hct1
            clear HBR HCUR0 hct1 HVL
            generalize wr.drewN nq = ws at *
            go_wp2
            have hal : ws.cell? ⟨bT, offT + k, none⟩ = some (.int .i64 t) := hct
            have hct0 := hct
            clear hal
            go_loopw [11, 13, 14] (fun sm vm jx wj => ∃ j : Nat, j ≤ cur.length ∧ jx = .int .i64 j ∧ sm = .int .i64 (sum + late (upto t (cur.take j)) t) ∧ OwnI wj ws.heap.size vm (past t (cur.take j)) ∧ Below ws.heap.size ws wj) (fun _ _ jx _ => cur.length - (intOf jx).toNat)
            case atStart => exact ⟨0, Nat.zero_le _, rfl, by rw [List.take_zero]; show Value.int .i64 sum = Value.int .i64 (sum + 0); rw [Int.add_zero], by rw [List.take_zero]; exact OwnI.nil _ _, Below.refl _ _⟩
            case round =>
              obtain ⟨j, hj, rfl, rfl, hom, hbj⟩ := hrel
              have HBJ : Hid (Below ws.heap.size ws wr) := hbj
              have HLT : Hid (∀ j, 0 ≤ late (upto t (cur.take j)) t ∧ late (upto t (cur.take j)) t ≤ 60000) := HLB.out
              obtain ⟨l1, l2⟩ := HLT.out j
              by_cases hlj : j < cur.length
              · obtain ⟨bl, offl, rfl, hlc, hbl, hcell⟩ := HCUR.out j hlj
                have hcj : wr.cell? ⟨bl, offl + j, none⟩ = some (.int .i64 (cur[j]?.getD 0)) := (hbj.cell (by exact hbl)).trans (hcell j hlj)
                have htj : wr.cell? ⟨bT, offT + k, none⟩ = some (.int .i64 t) := (hbj.cell (World.block_lt_of_cell? ws _ hct0)).trans hct0
                have hx0 := HXB.out j hlj
                have hsz : ws.heap.size ≤ wr.heap.size := hbj.size
                obtain ⟨l3, l4⟩ := HLT.out (j + 1)
                have EL := upto_late (l := cur) (a := t) hlj
                have EP := past_snoc (l := cur) (a := t) hlj
                obtain ⟨am, cm, rfl⟩ := hom.form
                have hpl : (past t (cur.take j)).length ≤ 20 := by
                  have := past_le t (cur.take j)
                  rw [List.length_take] at this
                  omega
                have HOM : Hid (OwnI wr ws.heap.size (.slice am (past t (cur.take j)).length cm) (past t (cur.take j))) := hom
                clear hcell hom hbj
                by_cases hgt : t < cur[j]?.getD 0
                · rw [if_neg (by omega)] at EL
                  rw [if_pos hgt] at EP
                  rw [EL] at l3 l4
                  have HEL : Hid (late (upto t (cur.take (j+1))) t = late (upto t (cur.take j)) t + 0) := EL
                  have HEP : Hid (past t (cur.take (j+1)) = past t (cur.take j) ++ [cur[j]?.getD 0]) := EP
                  clear EL EP
                  generalize cur[j]?.getD 0 = c at *
                  generalize past t (cur.take j) = pl at *
                  generalize late (upto t (cur.take j)) t = x1 at *
                  have d1 : decide (t < c) = true := decide_eq_true hgt
                  go_wp2
                  go_quiet (fail)
                  have HOM2 : Hid (OwnI (wr.drewN nq) ws.heap.size (.slice am pl.length cm) pl) := HOM.out.rows rfl rfl
                  have HBJ2 : Hid (Below ws.heap.size ws (wr.drewN nq)) := below_drewN HBJ.out _
                  have hcj2 : (wr.drewN nq).cell? ⟨bl, offl + j, none⟩ = some (.int .i64 c) := hcj
                  have hsz2 : ws.heap.size ≤ (wr.drewN nq).heap.size := hsz
                  clear HOM HBJ hcj htj hsz
                  generalize wr.drewN nq = wk at *
                  go_wp2_with (at_builtin; (refine wpList_append_own _ rfl _ _ 22 rfl ws.heap.size 3 i0 (.int .i64 0) 1 8 Try.underlying22 HI.out.1 HI.out.2.1 HI.out.2.2.1 HI.out.2.2.2 rfl (by decide) _ pl.length (pl.map (Value.int .i64)) rfl (World.ownsRow.alloc (HOM2.out.rows rfl rfl) _) ⟨wk.heap.size, 0, none⟩ 1 1 [.int .i64 c] rfl rfl (by exact new_one _ _ _) (one_cell _) (by unfold maxLen; omega) (by omega) (by simp; omega) ?_; intro v2 w3 hown' hgrow _; have R := keeps_append HOM2.out rfl hsz2 hown' hgrow; have HR2 : Hid (OwnI w3 ws.heap.size v2 (pl ++ [c])) := R.1; have HK2 : Hid (Below ws.heap.size ws w3) := R.2.2 _ (Nat.le_refl _) HBJ2.out; clear hown' hgrow R))
                  go_roundw
                  case rel =>
                    have HF : ∃ j', j' ≤ cur.length ∧ Value.int .i64 ((j : Int) + 1) = .int .i64 (j' : Nat) ∧ Value.int .i64 (sum + x1) = .int .i64 (sum + late (upto t (cur.take j')) t) ∧ OwnI w3 ws.heap.size v2 (past t (cur.take j')) ∧ Below ws.heap.size ws w3 := ⟨j + 1, by omega, by go_num, by rw [HEL.out, Int.add_zero], by rw [HEP.out]; exact HR2.out, HK2.out⟩
                    first | exact HF | ((repeat apply Exists.intro); exact ⟨HF, rfl⟩)
                  case measure => simp [intOf]; omega
                · rw [if_pos (by omega)] at EL
                  rw [if_neg hgt, List.append_nil] at EP
                  rw [EL] at l3 l4
                  have HEL : Hid (late (upto t (cur.take (j+1))) t = late (upto t (cur.take j)) t + (t - cur[j]?.getD 0)) := EL
                  have HEP : Hid (past t (cur.take (j+1)) = past t (cur.take j)) := EP
                  clear EL EP
                  generalize cur[j]?.getD 0 = c at *
                  generalize past t (cur.take j) = pl at *
                  generalize late (upto t (cur.take j)) t = x1 at *
                  have d1 : decide (t < c) = false := decide_eq_false hgt
                  go_wp2
                  go_quiet (fail)
                  go_wp2
                  go_quiet (fail)
                  go_wp2
                  go_roundw
                  case rel =>
                    first
                    | exact ⟨j + 1, by omega, by go_num, by first | (rw [HEL.out]; done) | (rw [HEL.out]; go_num), by rw [HEP.out]; exact HOM.out.rows rfl rfl, below_drewN HBJ.out _⟩
                    | ((repeat apply Exists.intro); exact ⟨⟨j + 1, by omega, by go_num, by first | (rw [HEL.out]; done) | (rw [HEL.out]; go_num), by rw [HEP.out]; exact HOM.out.rows rfl rfl, below_drewN HBJ.out _⟩, rfl⟩)
                  case measure => simp [intOf]; omega
              · have hjc : j = cur.length := by omega
                subst hjc
                rw [List.take_length] at hom l1 l2 ⊢
                have HOM : Hid (OwnI wr ws.heap.size u13 (past t cur)) := hom
                have HBB : Hid (Below w.heap.size w wr) := HBS.out.trans (HBJ.out.mono HBS.out.size)
                clear hom hbj hct hct0
                have HST2 := HSTEP.out
                generalize late (upto t cur) t = x1 at *
                go_wp2
                go_roundw
                case rel => exact ⟨k + 1, past t cur, sum + x1 + p, by omega, by omega, by go_num, by go_num, HOM.out.isInts, HST2, HBB.out⟩
                case measure => simp [intOf]; omega
      · have hk4 : k = 40 := by omega
        subst hk4
        by_cases he : cur = []
        · have hle := HEND.out HAR.out he
          subst he
          simp only [List.length_nil]
          go_wp2
          go_ret
          exact ⟨rfl, HBR.out⟩
        · have hpos : 0 < cur.length := List.length_pos_iff.2 he
          go_wp2
          go_ret
          exact ⟨rfl, HBR.out⟩
    · by_cases he : cur = []
      · have hle := HEND.out HAR.out he
        subst he
        simp only [List.length_nil]
        go_wp2
        go_ret
        exact ⟨rfl, HBR.out⟩
      · have hpos : 0 < cur.length := List.length_pos_iff.2 he
        go_wp2
        go_ret
        exact ⟨rfl, HBR.out⟩

theorem ackAny_own : ownKnob Try.prog.godebug = none := by kernel_rfl
theorem ackAny_laidOut : laidOutB Try.prog = true := by kernel_rfl

set_option maxRecDepth 100000 in
theorem ackAny_lifted (os : Os) (started : os.Started) (H : Type) (enc : TypeId × Value → H) :
    ReturnsInHanded {} Try.checked os 4 .any (Rows.ackAnySpec.pre6 enc Try.prog Try.f4 Rows.ackAnyRow.domain false) (Rows.ackAnySpec.post enc Try.prog Try.f4 false true false false) := by
  refine returnsInHanded_of_change (C := Try.checked) ackAny_own started (by kernel_rfl) Try.func4
    (ChangeSpec.witness6 (enc := enc) (C := Try.checked) false ⟨#[], #[.slice none 0 0, .int .i64 0, .slice none 0 0], []⟩ 8 (by kernel_rfl) (by kernel_rfl) (by kernel_rfl) (by kernel_rfl)) ?_
  intro W base args ds gs before hval0 hW _ _
  have hval : ∀ (j : Nat) t v, Try.f4.params[j]? = some t → args[j]? = some v → Value.okWide Try.prog W .any base t v := hval0
  have hW' : DataW.Whole enc Try.prog Try.f4.params.toList Rows.ackAnySpec.vars false W args.toList ds gs before := hW
  obtain ⟨p, q, hA0, hV, rfl, hfz, hnd⟩ := hW
  have hA : DataW.TrodAll enc Try.prog W 0 (fun _ => true) true Try.f4.params.toList args.toList ds p := hA0
  rw [Try.params4] at hA hval
  obtain ⟨v0, vs0, d0, ds0, p0, q0, hargs, rfl, rfl, h0, r0⟩ := trodAll_cons hA
  obtain ⟨v1, vs1, d1, ds1, p1, q1, rfl, rfl, rfl, h1, r1⟩ := trodAll_cons r0
  obtain ⟨v2, vs2, d2, ds2, p2, q2, rfl, rfl, rfl, h2, r2⟩ := trodAll_cons r1
  obtain ⟨rfl, rfl, rfl⟩ := trodAll_nil r2
  obtain rfl : args = #[v0, v1, v2] := by cases args; simp_all
  obtain ⟨rfl, rfl⟩ := trodVars_none hV
  obtain ⟨n1, rfl, rfl, rfl, wn1⟩ := open_int Try.underlying3 (hval 1 3 v1 rfl rfl) h1
  obtain ⟨l0, ao0, cap0, hv0, hl0⟩ := arg_ints Try.underlying22 Try.underlying3 (by kernel_rfl) (hval 0 22 v0 rfl rfl) h0
  obtain ⟨l2, ao2, cap2, hv2, hl2⟩ := arg_ints Try.underlying22 Try.underlying3 (by kernel_rfl) (hval 2 22 v2 rfl rfl) h2
  clear hA0 hval0
  refine (aany_any v0 l0 n1 v2 l2 W hl0 ⟨ao0, cap0, hv0⟩ hl2 ⟨ao2, cap2, hv2⟩).mono fun e W' ⟨he, hb⟩ => ?_
  subst he
  exact ⟨_, rfl, law_post hW' hb ackAny_laidOut rfl (by kernel_rfl) (by kernel_rfl) Try.underlying4 rfl rfl rfl⟩

theorem ackAny_holds : Rows.AckAnySaid :=
  OpenClaim.holds_of_wide 4 Try.f4 rfl rfl rfl rfl rfl rfl rfl ⟨rfl, rfl, rfl, rfl, rfl⟩ rfl rfl rfl rfl rfl (by kernel_rfl) Try.func4 (by kernel_rfl)
    (of_decide_eq_true (by kernel_rfl)) (by unfold Func.isWrapper; first | (rw [if_pos (by decide +kernel)]; kernel_rfl) | (rw [if_neg (by decide +kernel)]; exact ⟨rfl, rfl⟩))
    (fun os started H enc _ => ackAny_lifted os started H enc)
end Go.Proofs.Ytbdkpgjbcjmoiaa
