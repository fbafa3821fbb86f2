/- The walk of the document's answer (larderwickref1): Near. -/
import Derived.Test.YtnjfmlojbaigjaaDoorRefGo
import Derived.Deep.QuietTactic
import Derived.Deep.RegionLaw
import Derived.RangeFuncLeaves
import Derived.RangeFuncBox
import Derived.Shelf.Abstract
import Derived.Deep.RegionLawGrows
namespace Go.Proofs.YtnjfmlojbaigjaaDoor
set_option maxRecDepth 100000
open Go.RowKit Go.Sort

theorem step_append_own {P : Program} {ops : Array Oper} {o : Oper} {a : Act} {w : World} {K : Act → World → Prop} {Q : Exit → Act → World → Prop} {E : Prop}
    (hg : o.guard = none) (s x : Operand) (t : TypeId) (hop : o.op = Op.call { callee := Callee.builtin Builtin.append, args := #[s, x], argTypes := #[t, t] })
    (base : Nat) (e : TypeId) (i : TypeInfo) (z : Value) (size bytes : Nat) (ht : P.underlying t = some (.slice e)) (hi : P.info? e = some i) (hz : i.zero = some z)
    (hsize : i.size = size) (hby : i.bytes = bytes) (hzs : z.cells.size = size) (hsz : 0 < size)
    (v : Value) (n : Nat) (xs : List Value) (hs : a.eval s = v) (hown : w.ownsRow base e size v n xs)
    (ad : Addr) (m c : Nat) (news : List Value) (hx : a.eval x = .slice (some ad) m c) (hl : news.length = m * size) (hnews : ∀ j u, news[j]? = some u → w.cell? (ad.add j) = some u) (h1 : ∀ u ∈ news, u.oneCell' = true)
    (h63 : n + m ≤ maxLen) (hbytes : (n + m) * bytes ≤ 140737488355328) (hbase : base ≤ w.heap.size)
    (hK : ∀ v' w', w'.ownsRow base e size v' (n + m) (xs ++ news) → w.grownBy w' v.ownBlock → (v' = .slice none 0 0 ↔ v = .slice none 0 0 ∧ m = 0) → K (a.put o.dst v') w') :
    if Region.wanted o (yielded ops a.tmps) = true then Oper.wp P o a w K Q else E := by
  have hw : Region.wanted o (yielded ops a.tmps) = true := by simp [Region.wanted, hg]
  rw [if_pos hw]
  exact wp_append_own w s x t hop base e i z size bytes ht hi hz hsize hby hzs hsz v n xs hs hown ad m c news hx hl hnews h1 h63 hbytes hbase hK
/-- A call of a function, as one step of a region that draws, by its contract. -/
theorem step_call {P : Program} {ops : Array Oper} {o : Oper} {a : Act} {w : World} {K : Act → World → Prop} {Q : Exit → Act → World → Prop} {E : Prop} (hgd : o.guard = none) (f : Nat) (xs : Array Operand) (ts : Array TypeId)
    (ho : o.op = .call { callee := .value (.func f), args := xs, argTypes := ts }) (vals : Array Value) (hv : xs.map a.eval = vals) (hen : ∀ w, (callFunc f vals).run P w = .ok (.enter f vals) w) {R : Ending → World → Prop} (hc : Calls P f vals w R)
    (h : ∀ e w', R e w' → ∃ v, e = .returned v ∧ K (a.put o.dst v) w') : if Region.wanted o (yielded ops a.tmps) = true then Oper.wp P o a w K Q else E := by
  rw [if_pos (show Region.wanted o (yielded ops a.tmps) = true by simp [Region.wanted, hgd])]
  unfold Oper.wp
  have hrun : (execOp a.eval o).run P w = .ok (.enter f vals) w := by
    simp [execOp, ho, resolve, invoke, go_sem, hv, hen]
  rw [hrun, Oper.upon_enter]
  exact hc.mono fun e w' hr => by
    obtain ⟨v, rfl, hk⟩ := h e w' hr
    exact hk
theorem one_at {W : World} {b : Nat} {x : Value} (h : W.cell? ⟨b, 0, none⟩ = some x) : ∀ j u, [x][j]? = some u → W.cell? (Addr.add ⟨b, 0, none⟩ j) = some u := by
  intro j u hj
  match j, hj with
  | 0, hj =>
    have e : x = u := by simpa using hj
    subst e
    simpa [Addr.add] using h
/-- What an append of one number leaves, where its row lay there already. -/
theorem keeps_append_here {w wr w1 : World} {n : Nat} {v v1 : Value} {l : List Int} {x : Int} (hoh : OwnI wr w.heap.size v l) (hn : l.length = n) (hb : Below w.heap.size w wr)
    (h1 : w1.ownsRow w.heap.size 3 1 v1 (n + 1) (l.map (Value.int .i64) ++ [.int .i64 x])) (h2 : wr.grownBy w1 v.ownBlock) : OwnI w1 w.heap.size v1 (l ++ [x]) ∧ Below w.heap.size w w1 := by
  subst hn
  refine ⟨?_, hb.grown h2 hb.size fun k hk => (World.ownsRow.lt hoh k hk).1⟩
  unfold OwnI
  rw [List.length_append, List.map_append]
  exact h1
set_option maxHeartbeats 8000000 in
theorem rnear_any (v va : Value) (s asks : List Int) (w : World) (hv : IsInts w v s) (hform : ∃ ao cap, v = .slice ao s.length cap) (ha : IsInts w va asks) (hc0 : chkV s asks = 0) :
    Calls Tryd.prog 8 #[v, va] w fun e w' => ∃ vr, e = .returned (.tuple #[.int .i64 (goCost false s asks asks.length), vr]) ∧ OwnI w' w.heap.size vr (goRow false s asks asks.length) ∧ Below w.heap.size w w' := by
  have F := chkV_zero hc0
  have HF : Hid (FineV s asks) := F
  have hn1 : 1 ≤ s.length := List.length_pos_iff.2 F.some
  have hn3 := F.few
  have ha20 := F.many
  have HRS : Hid (Calls Tryd.prog 18 #[v] w fun e w' => ∃ v', e = .returned v' ∧ OwnI w' w.heap.size v' (s.mergeSort zle) ∧ Below w.heap.size w w') := rising_any v s w hv hform (by omega)
  obtain ⟨aa, capa, rfl, hcapa, ho⟩ := ha.opened
  have HO : Hid (∀ k, k < asks.length → ∃ b off, aa = some ⟨b, off, none⟩ ∧ asks.length ≤ capa ∧ b < w.heap.size ∧ ∀ j, j < asks.length → w.cell? ⟨b, off + j, none⟩ = some (.int .i64 (asks[j]?.getD 0))) := ho
  obtain ⟨i0, hi, hz0, hz1, hz2⟩ := info_parts Tryd.info3
  have HI : Hid (Tryd.prog.info? 3 = some i0 ∧ i0.zero = some (.int .i64 0) ∧ i0.size = 1 ∧ i0.bytes = 8) := ⟨hi, hz0, hz1, hz2⟩
  obtain ⟨av, cv, rfl⟩ := hform
  unfold maxLen at hcapa
  clear ho ha hc0 F hv hi hz0 hz1 hz2
  go_enter Tryd.func8, Tryd.ntmps8
  go_wp2_with (go_at_call 18; fail)
  refine HRS.out.mono ?_
  rintro e w1 ⟨v1, rfl, hO1, hb1⟩
  have HR0 : Hid (RGRel false s asks w v1 (.int .i64 0) (.int .i64 0) w1) := ⟨0, Nat.zero_le _, rfl, rfl, hO1, hb1⟩
  clear hO1 hb1
  go_wp2
  go_loopw [6, 7, 8] (fun vs t i wr => RGRel false s asks w vs t i wr) (fun _ _ i _ => asks.length - (intOf i).toNat)
  case atStart => exact HR0.out
  case round =>
    clear HR0
    obtain ⟨k, hk, rfl, rfl, hO, hbel⟩ := hrel
    have RK := rowOk false HF.out.some HF.out.line HF.out.asked k hk
    have hlen := goRow_length false s asks k
    have HW : Hid (OwnI wr w.heap.size u6 (goRow false s asks k)) := hO
    have HB : Hid (Below w.heap.size w wr) := hbel
    obtain ⟨as_, cs, hvs⟩ := hO.form
    rw [hlen] at hvs
    subst hvs
    by_cases hlt : k < asks.length
    · obtain ⟨ba, offa, rfl, hlca, hbaw, hcell⟩ := HO.out k hlt
      have hck : wr.cell? ⟨ba, offa + k, none⟩ = some (.int .i64 (asks[k]?.getD 0)) := (hbel.cell (by exact hbaw)).trans (hcell k hlt)
      have hbar : ba < wr.heap.size := World.block_lt_of_cell? wr _ hck
      have hr := ask_in HF.out.asked hlt
      have HROW : Hid (goRow false s asks (k+1) = (goStep false (goRow false s asks k) (asks[k]?.getD 0)).1) := rfl
      have HCST : Hid (goCost false s asks (k+1) = goCost false s asks k + (goStep false (goRow false s asks k) (asks[k]?.getD 0)).2) := rfl
      have HC0 : Hid (0 ≤ goCost false s asks k ∧ goCost false s asks k ≤ 240) := by have := RK.cost; unfold Hid; omega
      have HNS := nstep RK.ris (rowNe false asks HF.out.some k) RK.line hr
      have HLIN : Hid (onLine (goRow false s asks k)) := RK.line
      have HRNE : Hid (goRow false s asks k ≠ []) := rowNe false asks HF.out.some k
      have HNF := nearTo_facts (l := goRow false s asks k) (List.length_pos_iff.2 (rowNe false asks HF.out.some k)) (asks[k]?.getD 0)
      rw [hlen] at HNS HNF
      clear hcell hbaw RK hO hbel
      generalize goRow false s asks k = R at *
      generalize goCost false s asks k = C at *
      generalize asks[k]?.getD 0 = r at *
      have HLEN : Hid (R.length = s.length) := hlen
      have HST : Hid ((goStep false R r).1 = (R.erase (nearTo R r s.length) ++ [r]).mergeSort zle ∧ (goStep false R r).2 = zabs (nearTo R r s.length - r)) := ⟨HNS.1, HNS.2.1⟩
      have HMEM : Hid (nearTo R r s.length ∈ R) := HNS.2.2
      have HN12 : Hid (∀ m, m ≤ s.length → 0 ≤ nearTo R r m ∧ nearTo R r m ≤ 12) := fun m hm => by
        obtain ⟨i, hi, e, _⟩ := HNF m hm
        rw [← e]
        exact HLIN.out _ (get_mem (by rw [HLEN.out]; exact hi))
      obtain ⟨g, hg, hgc, hcl⟩ : ∃ g, as_ = some ⟨g, 0, none⟩ ∧ s.length ≤ cs ∧ ∀ j, j < s.length → wr.cell? ⟨g, j, none⟩ = some (.int .i64 (R[j]?.getD 0)) := by
        obtain ⟨g, cap, cur, hv, _, _, _, h2, _⟩ := HW.out.block HRNE.out
        simp only [Value.slice.injEq] at hv
        obtain ⟨rfl, _, rfl⟩ := hv
        exact ⟨g, rfl, by omega, fun j hj => HW.out.cellN HLEN.out hj⟩
      subst hg
      have HCL : Hid (∀ j, j < s.length → wr.cell? ⟨g, j, none⟩ = some (.int .i64 (R[j]?.getD 0))) := hcl
      have h0c := hcl 0 (by omega)
      have HN0 : Hid (nearTo R r 0 = R[0]?.getD 0) := rfl
      have HRI : Hid (∀ j, j < s.length → 0 ≤ R[j]?.getD 0 ∧ R[j]?.getD 0 ≤ 12) := fun j hj => HLIN.out _ (get_mem (by rw [HLEN.out]; exact hj))
      clear hcl hlen HNS HNF
      obtain ⟨wr', hwr'⟩ : ∃ wr', wr' = wr := ⟨_, rfl⟩
      subst hwr'
      go_wp2
      clear h0c
      go_loopw [9, 10] (fun N j wi => ∃ m q : Nat, m ≤ s.length ∧ j = .int .i64 m ∧ N = .int .i64 (nearTo R r m) ∧ wi = wr'.drewN q) (fun _ j _ => s.length - (intOf j).toNat)
      case atStart => exact ⟨0, 0, Nat.zero_le _, rfl, rfl, rfl⟩
      case round =>
        obtain ⟨m, q, hm, rfl, rfl, hwi⟩ := hrel
        subst hwi
        have hn12 := HN12.out m hm
        by_cases hml : m < s.length
        · -- <<A
          have hcg : (wr'.drewN q).cell? ⟨g, m, none⟩ = some (.int .i64 (R[m]?.getD 0)) := HCL.out m hml
          have hca : (wr'.drewN q).cell? ⟨ba, offa + k, none⟩ = some (.int .i64 r) := hck
          have hri := HRI.out m hml
          have HW0 : Hid (∀ n, ∃ q', (wr'.drewN q).drewN n = wr'.drewN q') := fun n => ⟨q + n, by rw [World.drewN_drewN]⟩
          have HA1 : Hid (∀ w, Calls Tryd.prog 19 #[.int .i64 (R[m]?.getD 0), .int .i64 r] w fun e w' => e = .returned (.int .i64 (zabs (R[m]?.getD 0 - r))) ∧ w' = w) := fun w => abs_any _ _ (by omega) (by omega) w
          have HA2 : Hid (∀ w, Calls Tryd.prog 19 #[.int .i64 (nearTo R r m), .int .i64 r] w fun e w' => e = .returned (.int .i64 (zabs (nearTo R r m - r))) ∧ w' = w) := fun w => abs_any _ _ (by omega) (by omega) w
          have hNN : (zabs (R[m]?.getD 0 - r) < zabs (nearTo R r m - r) ∧ nearTo R r (m+1) = R[m]?.getD 0) ∨ (¬ zabs (R[m]?.getD 0 - r) < zabs (nearTo R r m - r) ∧ nearTo R r (m+1) = nearTo R r m) := by
            show (_ ∧ (if _ then _ else _) = _) ∨ (_ ∧ (if _ then _ else _) = _)
            split
            · rename_i h; exact .inl ⟨h, rfl⟩
            · rename_i h; exact .inr ⟨h, rfl⟩
          obtain ⟨N2, hN2⟩ : ∃ N2, nearTo R r (m+1) = N2 := ⟨_, rfl⟩
          have HN2 : Hid (nearTo R r (m+1) = N2) := hN2
          rw [hN2] at hNN
          clear hN2 hn12 hri
          generalize zabs (R[m]?.getD 0 - r) = z1 at *
          generalize zabs (nearTo R r m - r) = z2 at *
          generalize R[m]?.getD 0 = a at *
          generalize nearTo R r m = N at *
          generalize wr'.drewN q = wq at *
          rcases hNN with ⟨hc, rfl⟩ | ⟨hc, rfl⟩
          · have hd : decide (z1 < z2) = true := decide_eq_true hc
            go_wp2
            go_quiet (first | (go_at_call_of 19 (Value.int .i64 N2); exact Calls.quiet_of_same (HA1.out _)) | (go_at_call_of 19 (Value.int .i64 N); exact Calls.quiet_of_same (HA2.out _)))
            have hcg2 : (wq.drewN nq).cell? ⟨g, m, none⟩ = some (.int .i64 N2) := hcg
            go_wp2
            go_roundw
            case rel => exact ⟨m + 1, (HW0.out _).choose, by omega, by go_num, by rw [HN2.out], (HW0.out _).choose_spec⟩
            case measure => simp [intOf]; omega
          · have hd : decide (z1 < z2) = false := decide_eq_false hc
            go_wp2
            go_quiet (first | (go_at_call_of 19 (Value.int .i64 a); exact Calls.quiet_of_same (HA1.out _)) | (go_at_call_of 19 (Value.int .i64 N2); exact Calls.quiet_of_same (HA2.out _)))
            go_wp2
            go_roundw
            case rel => exact ⟨m + 1, (HW0.out _).choose, by omega, by go_num, by rw [HN2.out], (HW0.out _).choose_spec⟩
            case measure => simp [intOf]; omega
          -- >>A
        · have hmn : m = s.length := by omega
          subst hmn
          have hca : (wr'.drewN q).cell? ⟨ba, offa + k, none⟩ = some (.int .i64 r) := hck
          have HAB : Hid (∀ w, Calls Tryd.prog 19 #[.int .i64 (nearTo R r s.length), .int .i64 r] w fun e w' => e = .returned (.int .i64 (zabs (nearTo R r s.length - r))) ∧ w' = w) := fun w => abs_any _ _ (by omega) (by omega) w
          have hz : 0 ≤ zabs (nearTo R r s.length - r) ∧ zabs (nearTo R r s.length - r) ≤ 12 := by unfold zabs; omega
          have hc240 := HC0.out
          have hww : IntKind.i64.wrap (C + zabs (nearTo R r s.length - r)) = C + zabs (nearTo R r s.length - r) := by rw [IntKind.wrap_i64]; omega
          have HEL : Hid ((R.erase (nearTo R r s.length)).length = s.length - 1) := by unfold Hid; rw [List.length_erase_of_mem HMEM.out, HLEN.out]
          clear HCL HRI HN12
          generalize zabs (nearTo R r s.length - r) = z at *
          generalize nearTo R r s.length = N at *
          go_wp2_with (go_at_call 19; go_must (refine (HAB.out _).mono ?_; rintro e w' ⟨rfl, hw⟩; have hw := hw.symm; subst hw))
          have HWO : Hid (∀ W, Below wr'.heap.size wr' W → Calls Tryd.prog 20 #[.slice (some ⟨g, 0, none⟩) s.length cs, .int .i64 N] W fun e w' => ∃ a2 c2, e = .returned (.slice a2 (s.length - 1) c2) ∧ Hid (OwnI w' w.heap.size (.slice a2 (s.length - 1) c2) (R.erase N)) ∧ Hid (∀ p v, W.cell? p = some v → w'.cell? p = some v) ∧ Hid (Below w.heap.size w w')) := fun W hW => by
            refine (without_any _ R N W (HW.out.isInts.below hW) (by rw [HLEN.out]; omega)).mono ?_
            rintro e w' ⟨v', rfl, h1, h2⟩
            obtain ⟨a2, c2, hv2⟩ := h1.form
            rw [HEL.out] at hv2
            subst hv2
            have hbs := HB.out.size
            have hws := hW.size
            exact ⟨a2, c2, rfl, ownI_mono h1 (by omega), fun p v hp => (h2.cell (World.block_lt_of_cell? W _ hp)).trans hp, (HB.out.trans (hW.mono hbs)).trans (h2.mono (by omega))⟩
          have HDD : Hid (Below wr'.heap.size wr' (wr'.drewN q).drew) := (below_drewN (Below.refl _ _) q).drew
          have hcd : (wr'.drewN q).drew.cell? ⟨ba, offa + k, none⟩ = some (.int .i64 r) := hck
          have HTN : Hid (((wr'.drewN q).drew.alloc (.cells #[.int .i64 r] 3)).cell? ⟨wr'.heap.size, 0, none⟩ = some (.int .i64 r)) := (Boxed.new (wr'.drewN q).drew 3 (.int .i64 r)).cell
          have HRG : Hid (∀ (v3 : Value) W, OwnI W w.heap.size v3 (R.erase N ++ [r]) → Below w.heap.size w W → Calls Tryd.prog 18 #[v3] W fun e w' => ∃ v4, e = .returned v4 ∧ Hid (OwnI w' w.heap.size v4 (goRow false s asks (k+1))) ∧ Hid (Below w.heap.size w w')) := fun v3 W hO hb => by
            refine (rising_any v3 (R.erase N ++ [r]) W hO.isInts hO.form (by rw [List.length_append, HEL.out]; simp; omega)).mono ?_
            rintro e w' ⟨v4, rfl, h1, h2⟩
            refine ⟨v4, rfl, ?_, hb.trans (h2.mono hb.size)⟩
            show OwnI w' w.heap.size v4 (goRow false s asks (k+1))
            rw [HROW.out, HST.out.1]
            exact ownI_mono h1 hb.size
          have hm1 : s.length - 1 ≤ 2 := by omega
          have hwsz : w.heap.size ≤ wr'.heap.size := HB.out.size
          have HCC : Hid (goCost false s asks (k+1) = C + z) := by unfold Hid; rw [HCST.out, HST.out.2]
          clear HAB HCST HLIN HROW HST HMEM HRNE
          go_region_law (first
            | (refine step_call rfl 20 _ _ rfl #[.slice (some ⟨g, 0, none⟩) s.length cs, .int .i64 N] (by simp [Act.eval, Act.put]) (enters_of Tryd.func20 (by kernel_rfl) rfl _) (HWO.out _ (by first | exact HDD.out | exact HDD.out.alloc (Nat.le_refl _) _)) ?_; rintro e W2 ⟨a2, c2, rfl, HO2, HK2, HB2⟩; refine ⟨_, rfl, ?_⟩; have hca2 := HK2.out ⟨ba, offa + k, none⟩ (.int .i64 r) (by first | exact hcd | exact Lib.cell?_alloc_some _ hcd); try have HTM : Hid (W2.cell? ⟨wr'.heap.size, 0, none⟩ = some (.int .i64 r)) := HK2.out _ _ HTN.out)
            | (refine step_append_own rfl (.tmp 58) (.tmp 63) 22 rfl w.heap.size 3 i0 (.int .i64 0) 1 8 Tryd.underlying22 HI.out.1 HI.out.2.1 HI.out.2.2.1 HI.out.2.2.2 rfl (by decide) (.slice a2 (s.length - 1) c2) (s.length - 1) ((R.erase N).map (Value.int .i64)) (by first | rfl | simp [Act.eval, Act.put]) (World.ownsRow.alloc (HO2.out.rows HEL.out rfl) _) ⟨W2.heap.size, 0, none⟩ 1 1 [.int .i64 r] (by first | rfl | simp [Act.eval, Act.put]) rfl (by exact new_one _ _ _) (one_cell _) (by unfold maxLen; omega) (by omega) (by have := HB2.out.size; rw [World.size_alloc]; omega) ?_; intro v3 w3 hown' hgrow _; have Rr := keeps_append HO2.out HEL.out HB2.out.size hown' hgrow; have HO3 : Hid (OwnI w3 w.heap.size v3 (R.erase N ++ [r])) := Rr.1; have HB3 : Hid (Below w.heap.size w w3) := Rr.2.2 _ (Nat.le_refl _) HB2.out; clear Rr hown' hgrow)
            | (refine step_append_own rfl (.tmp 58) (.tmp 63) 22 rfl w.heap.size 3 i0 (.int .i64 0) 1 8 Tryd.underlying22 HI.out.1 HI.out.2.1 HI.out.2.2.1 HI.out.2.2.2 rfl (by decide) (.slice a2 (s.length - 1) c2) (s.length - 1) ((R.erase N).map (Value.int .i64)) (by first | rfl | simp [Act.eval, Act.put]) (HO2.out.rows HEL.out rfl) ⟨wr'.heap.size, 0, none⟩ 1 1 [.int .i64 r] (by first | rfl | simp [Act.eval, Act.put]) rfl (one_at HTM.out) (one_cell _) (by unfold maxLen; omega) (by omega) (by have := HB2.out.size; omega) ?_; intro v3 w3 hown' hgrow _; have Rr := keeps_append_here HO2.out HEL.out HB2.out hown' hgrow; have HO3 : Hid (OwnI w3 w.heap.size v3 (R.erase N ++ [r])) := Rr.1; have HB3 : Hid (Below w.heap.size w w3) := Rr.2; clear Rr hown' hgrow)
            | (refine step_call rfl 18 _ _ rfl #[v3] (by simp [Act.eval]) (enters_of Tryd.func18 (by kernel_rfl) rfl _) (HRG.out v3 _ HO3.out HB3.out) ?_; rintro e W4 ⟨v4, rfl, HO4, HB4⟩; refine ⟨_, rfl, ?_⟩))
          all_goals
            go_wp2
            go_roundw
            case rel => exact ⟨k + 1, by omega, by go_num, by rw [HCC.out], HO4.out, HB4.out⟩
            case measure => simp [intOf]; omega
    · have hkl : k = asks.length := by omega
      subst hkl
      go_wp2
      go_ret2
      exact ⟨_, rfl, HW.out, HB.out⟩
end Go.Proofs.YtnjfmlojbaigjaaDoor
