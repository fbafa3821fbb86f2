/- The walk of the document's answer (larderwickref1) for chapter 13: Acks. -/
import Derived.Test.YtbdkpgjbcjmoiaaDoorRefMsg
import Derived.Test.YtbdkpgjbcjmoiaaDoorARun
import Derived.Test.YtbdkpgjbcjmoiaaDoorTri
namespace Go.Proofs.YtbdkpgjbcjmoiaaDoor
set_option maxRecDepth 100000
open Go.RowKit Go.Sort

theorem own_apart {w0 ws wj : World} {vt vn : Value} {lt ln : List Int} (ho : OwnI ws w0.heap.size vt lt) (hn : OwnI wj ws.heap.size vn ln) : vn.ownBlock = none ∨ vn.ownBlock ≠ vt.ownBlock := by
  cases hv : vn.ownBlock with
  | none => exact .inl rfl
  | some k =>
    refine .inr fun e => ?_
    have h1 := (World.ownsRow.lt hn k hv).1
    have h2 := (World.ownsRow.lt ho k e.symm).2
    omega
theorem upto_take {l : List Int} {k : Nat} (hk : k < l.length) (a : Int) : upto a (l.take (k+1)) = upto a (l.take k) ++ (if l[k]?.getD 0 ≤ a then [l[k]?.getD 0] else []) := by
  unfold upto
  rw [List.take_succ_eq_append_getElem hk, List.filter_append, List.getElem?_eq_getElem hk, Option.getD_some]
  congr 1
  by_cases h : l[k] ≤ a
  · rw [List.filter_cons_of_pos (by simpa using h), if_pos h]; rfl
  · rw [List.filter_cons_of_neg (by simpa using h), if_neg h]; rfl
theorem past_took {l : List Int} {k : Nat} (hk : k < l.length) (a : Int) : past a (l.take (k+1)) = past a (l.take k) ++ (if l[k]?.getD 0 ≤ a then [] else [l[k]?.getD 0]) := by
  unfold past
  rw [List.take_succ_eq_append_getElem hk, List.filter_append, List.getElem?_eq_getElem hk, Option.getD_some]
  congr 1
  by_cases h : l[k] ≤ a
  · rw [List.filter_cons_of_neg (by simp; omega), if_pos h]; rfl
  · rw [List.filter_cons_of_pos (by simp; omega), if_neg h]; rfl
theorem few_take (f : Int → Bool) (l : List Int) (k : Nat) (hl : l.length ≤ 20) : ((l.take k).filter f).length ≤ 20 := by
  have := List.length_filter_le f (l.take k)
  rw [List.length_take] at this; omega

set_option maxHeartbeats 4000000 in
theorem racks_any (v : Value) (l : List Int) (p : Int) (w : World) (hv : IsInts w v l) (hc0 : chkA l p = 0) :
    Calls Tryd.prog 7 #[v, .int .i64 p] w fun e w' => ∃ vt, e = .returned (.tuple #[vt, .int .i64 (tc p l)]) ∧ OwnI w' w.heap.size vt (tl p l) ∧ Below w.heap.size w w' := by
  have HV : Hid (IsInts w v l) := hv
  have HF : Hid (FineA l p) := chkA_zero hc0
  obtain ⟨i0, hi, hz0, hz1, hz2⟩ := info_parts Tryd.info3
  have HI : Hid (Tryd.prog.info? 3 = some i0 ∧ i0.zero = some (.int .i64 0) ∧ i0.size = 1 ∧ i0.bytes = 8) := ⟨hi, hz0, hz1, hz2⟩
  obtain ⟨ao, cap, rfl, hcap, _⟩ := hv.opened
  clear hc0 hv hi hz0 hz1 hz2
  unfold maxLen at hcap
  go_enter Tryd.func7, Tryd.ntmps7
  go_wp2
  go_loopw [0, 6, 7] (fun vl vt vs wr => ∃ (cur sofar : List Int) (x : Int), vs = .int .i64 x ∧ OwnI wr w.heap.size vt sofar ∧ IsInts wr vl cur ∧ Hid (ARel w p l cur sofar x) ∧ Below w.heap.size w wr) (fun vl _ _ _ => lenV vl)
  case atStart => exact ⟨l, [], 0, rfl, OwnI.nil _ _, HV.out, ARel.start HF.out, Below.refl _ _⟩
  case round =>
    obtain ⟨cur, sofar, x, rfl, hO, hvc, HR, hbel⟩ := hrel
    have hpos := HR.out.pos
    have hmost := HR.out.most
    have hfew := HR.out.few
    have hpr := HR.out.fine.price
    have hc20 := HR.out.fine.many
    obtain ⟨at_, cp, rfl⟩ := hO.form
    have HO : Hid (OwnI wr w.heap.size (.slice at_ sofar.length cp) sofar) := hO
    have HB : Hid (Below w.heap.size w wr) := hbel
    have hsz : w.heap.size ≤ wr.heap.size := hbel.size
    have HVC : Hid (IsInts wr u0 cur) := hvc
    obtain ⟨al, cl, rfl, hcl, hcells⟩ := hvc.opened
    unfold maxLen at hcl
    clear hO hbel hvc
    by_cases h0 : 0 < cur.length
    · obtain ⟨b, off, rfl, hlc, hbw, hcell⟩ := hcells 0 h0
      have hne : cur ≠ [] := List.length_pos_iff.1 h0
      obtain ⟨t, r, hcr⟩ : ∃ t r, cur = t :: r := by cases cur with | nil => exact absurd rfl hne | cons t r => exact ⟨t, r, rfl⟩
      have hc0 : wr.cell? ⟨b, off, none⟩ = some (.int .i64 t) := by have := hcell 0 h0; rw [hcr] at this; simpa using this
      have HCELL : Hid (∀ j, j < cur.length → wr.cell? ⟨b, off + j, none⟩ = some (.int .i64 (cur[j]?.getD 0))) := hcell
      have htt := HR.out.fine.times t (by rw [hcr]; exact List.mem_cons_self)
      have hfa := first_le HR.out.fine hne
      have hfl := first_late (show 0 ≤ p by omega) HR.out.fine.rise hne
      have HST : Hid (ARel w p l (cur.drop (cameN cur (firstAt p cur))) (sofar ++ [firstAt p cur]) (x + (p + late cur (firstAt p cur)))) := HR.out.step hne rfl rfl rfl
      have HDR : Hid (cur.drop (cameN cur (firstAt p cur)) = past (firstAt p cur) cur) := (came_split _ HR.out.fine.rise).2
      have HUL : Hid (late (upto (firstAt p cur) cur) (firstAt p cur) = late cur (firstAt p cur)) := late_upto HR.out.fine.rise (by omega)
      have HF0 : Hid (tellAt p cur (p.toNat + 1) t = firstAt p cur) := by unfold Hid; rw [hcr]; rfl
      have HL0 : Hid (late cur t = 0) := by
        unfold Hid
        rw [hcr]
        have hrise := HR.out.fine.rise
        rw [hcr] at hrise
        exact late_none fun y hy => by
          rcases List.mem_cons.1 hy with rfl | hy
          · exact Int.le_refl _
          · exact (List.pairwise_cons.1 hrise).1 y hy
      have hh : Hid (∀ d : Int, 0 ≤ d → d ≤ late cur (t + d)) := fun d _ => by rw [hcr]; exact late_head r
      have HLA : Hid (∀ a, 0 ≤ a ∧ a ≤ 4000 → Calls Tryd.prog 16 #[.slice (some ⟨b, off, none⟩) cur.length cl, .int .i64 a] wr fun e w' => e = .returned (.int .i64 (late cur a)) ∧ w' = wr) := fun a ha => rlate_any _ cur a wr HR.out.fine.many (fun y hy => (HR.out.fine.times y hy).1) ha HVC.out
      have H0X : Hid (∀ y, y ∈ cur → 0 ≤ y) := fun y hy => (HR.out.fine.times y hy).1
      have hLT : Hid ((past (firstAt p cur) cur).length < cur.length) := by
        have h1 := HDR.out
        have h2 := congrArg List.length h1
        rw [List.length_drop] at h2
        unfold Hid; omega
      clear hcells hcell hcr hne
      go_wp2
      go_loop [8] (fun s => ∃ (a : Int) (f : Nat), s = .int .i64 a ∧ Hid (tellAt p cur f a = firstAt p cur) ∧ t ≤ a ∧ Hid (late cur a ≤ p) ∧ p < a - t + f ∧ a ≤ t + p) (fun s => (1100 - intOf s).toNat)
      case atStart => exact ⟨t, p.toNat + 1, rfl, HF0.out, Int.le_refl _, by rw [Hid, HL0.out]; omega, by omega, by omega⟩
      case round =>
        obtain ⟨a, f, rfl, HT, hta, HLE, hpf, hap⟩ := hrel
        have hw1 : IntKind.i64.wrap (a + 1) = a + 1 := by rw [IntKind.wrap_i64]; omega
        have HCH := HLA.out (a + 1) (by omega)
        have HCH2 : Hid (Calls Tryd.prog 16 #[.slice (some ⟨b, off, none⟩) cur.length cl, .int .i64 (a + 1)] wr fun e w' => e = .returned (.int .i64 (late cur (a + 1))) ∧ w' = wr) := HCH
        clear HCH
        by_cases hx : late cur (a + 1) ≤ p
        · have h1 := hh.out (a + 1 - t) (by omega)
          rw [show t + (a + 1 - t) = a + 1 by omega] at h1
          obtain ⟨f', rfl⟩ : ∃ f', f = f' + 1 := ⟨f - 1, by omega⟩
          have HT2 : Hid (tellAt p cur f' (a + 1) = firstAt p cur) := by
            have := HT.out
            rw [tellAt, if_pos hx] at this
            exact this
          have HX : Hid (late cur (a + 1) ≤ p) := hx
          clear HT HLE
          generalize hxe : late cur (a + 1) = y at *
          have HXE : Hid (late cur (a + 1) = y) := hxe
          clear hxe
          go_wp2_with (go_at_call 16; go_must (refine HCH2.out.mono ?_; rintro e w' ⟨rfl, hw⟩; have hw := hw.symm; subst hw))
          go_round
          case rel => exact ⟨a + 1, f', by go_num, HT2, by omega, by show late cur (a + 1) ≤ p; rw [HXE.out]; exact HX.out, by omega, by omega⟩
          case measure => simp [intOf]; omega
        · have HT2 : a = firstAt p cur := by
            have := HT.out
            cases f with
            | zero => exact this
            | succ f => rw [tellAt, if_neg hx] at this; exact this
          subst HT2
          clear HT HLE hh HLA HF0 HL0
          generalize late cur (firstAt p cur + 1) = y1 at *
          generalize hae : firstAt p cur = a at *
          clear hae
          generalize late cur a = y at *
          generalize cameN cur a = m at *
          go_wp2_with (go_at_call 16; go_must (refine HCH2.out.mono ?_; rintro e w' ⟨rfl, hw⟩; have hw := hw.symm; subst hw))
          obtain ⟨ws, hws⟩ : ∃ ws, ws = wr := ⟨_, rfl⟩
          subst hws
          go_loopw [9, 10, 11] (fun vn vl2 ix wj => ∃ j : Nat, j ≤ cur.length ∧ ix = .int .i64 j ∧ Tri ws wj (.slice none 0 0) vn vl2 [] (upto a (cur.take j)) (past a (cur.take j))) (fun _ _ ix _ => cur.length - (intOf ix).toNat)
          case atStart => exact ⟨0, Nat.zero_le _, rfl, by rw [List.take_zero]; exact Tri.start ws⟩
          case round =>
            obtain ⟨j, hj, rfl, hT⟩ := hrel
            have HT : Hid (Tri ws wr (.slice none 0 0) u9 u10 [] (upto a (cur.take j)) (past a (cur.take j))) := hT
            have hsz3 := hT.below.size
            by_cases hlj : j < cur.length
            · have hcj : wr.cell? ⟨b, off + j, none⟩ = some (.int .i64 (cur[j]?.getD 0)) := (hT.below.cell (World.block_lt_of_cell? ws _ (HCELL.out j hlj))).trans (HCELL.out j hlj)
              have EU := upto_take hlj a
              have EP := past_took hlj a
              have hnl : (upto a (cur.take j)).length ≤ 20 := few_take _ cur j hc20
              have hpl : (past a (cur.take j)).length ≤ 20 := few_take _ cur j hc20
              obtain ⟨an, cn, rfl⟩ := hT.p.form
              obtain ⟨ap, cpp, rfl⟩ := hT.a.form
              clear hT
              by_cases hle : cur[j]?.getD 0 ≤ a
              · rw [if_pos hle] at EU EP
                rw [List.append_nil] at EP
                have HEU : Hid (upto a (cur.take (j+1)) = upto a (cur.take j) ++ [cur[j]?.getD 0]) := EU
                have HEP : Hid (past a (cur.take (j+1)) = past a (cur.take j)) := EP
                clear EU EP
                generalize cur[j]?.getD 0 = c at *
                generalize upto a (cur.take j) = nl at *
                generalize past a (cur.take j) = pl at *
                go_wp2_with (at_builtin; (refine wpList_append_own_at _ rfl _ _ 22 rfl ws.heap.size 3 i0 (.int .i64 0) 1 8 Tryd.underlying22 HI.out.1 HI.out.2.1 HI.out.2.2.1 HI.out.2.2.2 rfl (by decide) _ nl.length (nl.map (Value.int .i64)) rfl (World.ownsRow.alloc (HT.out.p.rows rfl rfl) _) ⟨wr.heap.size, 0, none⟩ 1 1 [.int .i64 c] rfl rfl (by exact new_one _ _ _) (one_cell _) (by unfold maxLen; omega) (by omega) (by simp; omega) ?_; intro v2 w3 hown' hgrow _ hat; have HT3 : Hid (Tri ws w3 (.slice none 0 0) v2 (.slice ap pl.length cpp) [] (nl ++ [c]) pl) := HT.out.pages rfl hown' hgrow hat; clear hown' hgrow hat))
                go_roundw
                case rel => exact ⟨j + 1, by omega, by go_num, by rw [HEU.out, HEP.out]; exact HT3.out⟩
                case measure => simp [intOf]; omega
              · rw [if_neg hle] at EU EP
                rw [List.append_nil] at EU
                have HEU : Hid (upto a (cur.take (j+1)) = upto a (cur.take j)) := EU
                have HEP : Hid (past a (cur.take (j+1)) = past a (cur.take j) ++ [cur[j]?.getD 0]) := EP
                clear EU EP
                generalize cur[j]?.getD 0 = c at *
                generalize upto a (cur.take j) = nl at *
                generalize past a (cur.take j) = pl at *
                go_wp2_with (at_builtin; (refine wpList_append_own_at _ rfl _ _ 22 rfl ws.heap.size 3 i0 (.int .i64 0) 1 8 Tryd.underlying22 HI.out.1 HI.out.2.1 HI.out.2.2.1 HI.out.2.2.2 rfl (by decide) _ pl.length (pl.map (Value.int .i64)) rfl (World.ownsRow.alloc (HT.out.a.rows rfl rfl) _) ⟨wr.heap.size, 0, none⟩ 1 1 [.int .i64 c] rfl rfl (by exact new_one _ _ _) (one_cell _) (by unfold maxLen; omega) (by omega) (by simp; omega) ?_; intro v2 w3 hown' hgrow _ hat; have HT3 : Hid (Tri ws w3 (.slice none 0 0) (.slice an nl.length cn) v2 [] nl (pl ++ [c])) := HT.out.asked rfl hown' hgrow hat; clear hown' hgrow hat))
                go_roundw
                case rel => exact ⟨j + 1, by omega, by go_num, by rw [HEU.out, HEP.out]; exact HT3.out⟩
                case measure => simp [intOf]; omega
            · have hjc : j = cur.length := by omega
              subst hjc
              rw [List.take_length] at hT
              have HTF : Hid (Tri ws wr (.slice none 0 0) u9 u10 [] (upto a cur) (past a cur)) := hT
              have hnl : (upto a cur).length ≤ 20 := by have := few_take (fun t => decide (t ≤ a)) cur cur.length hc20; rw [List.take_length] at this; exact this
              have HON : Hid (OwnI wr ws.heap.size u9 (upto a cur)) := hT.p
              have HOL : Hid (OwnI wr ws.heap.size u10 (past a cur)) := hT.a
              have HOT : Hid (OwnI wr w.heap.size (.slice at_ sofar.length cp) sofar) := HO.out.later hT.below
              have HBB : Hid (Below w.heap.size w wr) := HB.out.trans (hT.below.mono hsz)
              have HAN : Hid (u9.ownBlock = none ∨ u9.ownBlock ≠ (Value.slice at_ sofar.length cp).ownBlock) := own_apart HO.out hT.p
              have HAL : Hid (u10.ownBlock = none ∨ u10.ownBlock ≠ (Value.slice at_ sofar.length cp).ownBlock) := own_apart HO.out hT.a
              have HUX : Hid (∀ z, z ∈ upto a cur → 0 ≤ z) := fun z hz => H0X.out z (List.mem_filter.1 hz).1
              obtain ⟨an, cn, rfl⟩ := hT.p.form
              obtain ⟨ap, cpp, rfl⟩ := hT.a.form
              have HST2 : Hid (ARel w p l (past a cur) (sofar ++ [a]) (x + (p + y))) := by unfold Hid; rw [← HDR.out]; exact HST.out
              clear hT HT HTF HST HDR HCELL hc0
              have hlt2 := hLT.out
              generalize past a cur = pl at *
              generalize upto a cur = nl at *
              go_wp2_with (first | (at_builtin; (refine wpList_append_own _ rfl _ _ 22 rfl w.heap.size 3 i0 (.int .i64 0) 1 8 Tryd.underlying22 HI.out.1 HI.out.2.1 HI.out.2.2.1 HI.out.2.2.2 rfl (by decide) _ sofar.length (sofar.map (Value.int .i64)) rfl (World.ownsRow.alloc (HOT.out.rows rfl rfl) _) ⟨wr.heap.size, 0, none⟩ 1 1 [.int .i64 a] rfl rfl (by exact new_one _ _ _) (one_cell _) (by unfold maxLen; omega) (by omega) (by simp; omega) ?_; intro v2 w3 hown' hgrow _; have R := own_append (w := w) HOT.out HBB.out (Nat.le_refl _) hown' hgrow; have HO3 : Hid (OwnI w3 w.heap.size v2 (sofar ++ [a])) := R.1; have HB3 : Hid (Below w.heap.size w w3) := R.2; have HN3 : Hid (IsInts w3 (.slice an nl.length cn) nl) := (OwnI.kept (World.ownsRow.alloc HON.out _) hgrow HAN.out).isInts; have HL3 : Hid (IsInts w3 (.slice ap pl.length cpp) pl) := (OwnI.kept (World.ownsRow.alloc HOL.out _) hgrow HAL.out).isInts; clear hown' hgrow R)) | (go_at_call 16; go_must (refine (rlate_any _ nl a _ hnl HUX.out (by omega) HN3.out).mono ?_; rintro e w' ⟨rfl, hw⟩; have hw := hw.symm; subst hw; rw [HUL.out])))
              go_roundw
              case rel => exact ⟨pl, sofar ++ [a], x + (p + y), by go_num, HO3.out, HL3.out, HST2.out, HB3.out⟩
              case measure => exact hlt2
    · have h00 : cur = [] := List.eq_nil_of_length_eq_zero (by omega)
      subst h00
      have e1 : sofar = tl p l := by have := HR.out.told; rwa [show tl p [] = [] from rfl, List.append_nil] at this
      have e2 : x = tc p l := by have := HR.out.cost; rw [show tc p [] = 0 from rfl] at this; omega
      clear hcells
      subst e1
      subst e2
      go_wp2
      go_ret2
      exact ⟨_, rfl, HO.out, HB.out⟩
end Go.Proofs.YtbdkpgjbcjmoiaaDoor
