/- Several texts in one. -/
import Derived.Test.YtmibnceadciidaaDoorRK
import Derived.Test.YtmibnceadciidaaDoorBase
import Derived.ProofKit
import Derived.OpenShut
import Derived.Test.YtmibnceadciidaaDoorBools
import Derived.Laws.AppendOwnNone
import Derived.Test.YtmibnceadciidaaDoorKeep
import Derived.Test.YtmibnceadciidaaDoorKBox
import Derived.Test.YtmibnceadciidaaDoorWorlds
import Derived.Test.YtmibnceadciidaaDoorStepL
/- The walks of the document's Is and Count (larderwickref2). -/
namespace Go.Proofs.YtmibnceadciidaaDoor
set_option maxRecDepth 100000
open Go.RowKit Go.Sort

set_option maxHeartbeats 1000000 in
theorem ris_any (c : KS) (x : Int) (vo vr vh : Value) (w : World) (h : IsK w vo vr vh c) :
    Calls Tryd.prog 20 #[.agg #[vo, vr, vh], .int .i64 x] w fun e w' => e = .returned (.bool (c.is x)) ∧ Below w.heap.size w w' := by
  obtain ⟨ao, co, ar, cr, ah, ch, rfl, rfl, rfl, hco, hcr, hch⟩ := h.forms
  have HB : Hid (Below w.heap.size w (w.alloc (.cells #[.slice ao c.outs.length co, .slice ar c.roots.length cr, .slice ah c.here.length ch] 28))) := (Below.refl _ _).alloc (Nat.le_refl _) _
  have HB0 : Hid (IsK w (.slice ao c.outs.length co) (.slice ar c.roots.length cr) (.slice ah c.here.length ch) c) := h
  clear h
  go_enter Tryd.func20, Tryd.ntmps20
  by_cases h0 : 0 ≤ x
  · obtain ⟨k, rfl⟩ : ∃ k : Nat, x = (k : Int) := ⟨x.toNat, by omega⟩
    by_cases hk : k < c.here.length
    · have hk' : (k : Int) < (c.here.length : Int) := by omega
      obtain ⟨b, off, rfl, hlc, hbs, hck⟩ := HB0.out.bools.at hk
      have hck2 := (HB.out.cell (p := ⟨b, off + k, none⟩) hbs).trans hck
      have HE : Hid (c.is (k : Int) = c.here[k]?.getD false) := isN_is
      clear hck
      generalize c.here[k]?.getD false = q at *
      cases q
      all_goals (
        go_wp2
        go_ret
        exact ⟨by rw [HE.out]; rfl, HB.out⟩)
    · have hk' : ¬ (k : Int) < (c.here.length : Int) := by omega
      have HE : Hid (c.is (k : Int) = false) := by
        unfold Hid
        cases e : c.is (k : Int)
        · rfl
        · have := is_lt e; omega
      go_wp2
      go_ret
      exact ⟨by rw [HE.out]; rfl, HB.out⟩
  · have HE : Hid (c.is x = false) := by
      unfold Hid
      cases e : c.is x
      · rfl
      · have := is_lt e; omega
    go_wp2
    go_ret
    exact ⟨by rw [HE.out]; rfl, HB.out⟩
set_option maxHeartbeats 2000000 in
theorem rcnt_any (c : KS) (x : Int) (vo vr vh : Value) (w : World) (h : IsK w vo vr vh c) (hc : KMid c) :
    Calls Tryd.prog 13 #[.agg #[vo, vr, vh], .int .i64 x] w fun e w' => e = .returned (.int .i64 ((c.count x : Nat) : Int)) ∧ Below w.heap.size w w' := by
  obtain ⟨ao, co, ar, cr, ah, ch, rfl, rfl, rfl, hco, hcr, hch⟩ := h.forms
  have HB : Hid (Below w.heap.size w (w.alloc (.cells #[.slice ao c.outs.length co, .slice ar c.roots.length cr, .slice ah c.here.length ch] 28))) := (Below.refl _ _).alloc (Nat.le_refl _) _
  have HX : Hid ((w.alloc (.cells #[.slice ao c.outs.length co, .slice ar c.roots.length cr, .slice ah c.here.length ch] 28)).heap[w.heap.size]? = some (.cells #[.slice ao c.outs.length co, .slice ar c.roots.length cr, .slice ah c.here.length ch] 28 (0, 0))) := heap_alloc_new w _
  have HI : Hid (IsInts (w.alloc (.cells #[.slice ao c.outs.length co, .slice ar c.roots.length cr, .slice ah c.here.length ch] 28)) (.slice ar c.roots.length cr) c.roots) := h.ints.below HB.out
  have HO : Hid (IsRows (w.alloc (.cells #[.slice ao c.outs.length co, .slice ar c.roots.length cr, .slice ah c.here.length ch] 28)) (.slice ao c.outs.length co) c.outs) := h.rows.below HB.out
  have HC : Hid (KMid c) := hc
  have hl12 := hc.outs12
  have hr12 := hc.roots
  clear h hc
  go_enter Tryd.func13, Tryd.ntmps13
  go_wp2
  generalize (w.alloc (.cells #[.slice ao c.outs.length co, .slice ar c.roots.length cr, .slice ah c.here.length ch] 28)) = W at *
  obtain ⟨hx0, hx1, hx2, _, _, _⟩ := tri_cells HX.out
  go_loop [5, 6] (fun n i => ∃ k : Nat, k ≤ c.roots.length ∧ i = .int .i64 k ∧ n = .int .i64 (((c.roots.take k).count x : Nat) : Int)) (fun _ i => c.roots.length - (intOf i).toNat)
  case atStart => exact ⟨0, by omega, rfl, by simp⟩
  case round =>
    obtain ⟨k, hk, rfl, rfl⟩ := hrel
    have hml : (c.roots.take k).count x ≤ k := Nat.le_trans List.count_le_length (by simp; omega)
    by_cases hlt : k < c.roots.length
    · have hlt' : (k : Int) < (c.roots.length : Int) := by omega
      obtain ⟨b, off, rfl, hlc, hbs, hcell⟩ := HI.out.open_at hlt
      have hck := hcell k hlt
      have HM : Hid ((c.roots.take (k+1)).count x = (c.roots.take k).count x + if c.roots[k]?.getD 0 = x then 1 else 0) := count_take hlt x
      clear hcell
      generalize c.roots[k]?.getD 0 = y at *
      by_cases hb : y = x
      · have HM2 : Hid ((c.roots.take (k+1)).count x = (c.roots.take k).count x + 1) := by unfold Hid; rw [HM.out, if_pos hb]
        generalize (c.roots.take k).count x = n at *
        subst hb
        go_wp2
        go_round
        case rel => exact ⟨k + 1, by omega, by go_num, by rw [HM2.out]; go_num⟩
        case measure => simp [intOf]; omega
      · have HM2 : Hid ((c.roots.take (k+1)).count x = (c.roots.take k).count x) := by unfold Hid; rw [HM.out, if_neg hb, Nat.add_zero]
        generalize (c.roots.take k).count x = n at *
        go_wp2
        go_round
        case rel => exact ⟨k + 1, by omega, by go_num, by rw [HM2.out]⟩
        case measure => simp [intOf]; omega
    · have hlt' : ¬ (k : Int) < (c.roots.length : Int) := by omega
      have HE : Hid ((c.roots.take k).count x = cTo c x 0) := by unfold Hid; rw [cTo_zero, List.take_of_length_le (by omega)]
      rw [HE.out]
      clear HE hml
      go_wp2
      go_loop [5, 7, 8] (fun n i _ => ∃ k : Nat, k ≤ c.outs.length ∧ i = .int .i64 k ∧ n = .int .i64 ((cTo c x k : Nat) : Int)) (fun _ i _ => c.outs.length - (intOf i).toNat)
      case atStart => exact ⟨0, by omega, rfl, rfl⟩
      case round =>
        obtain ⟨j, hj, rfl, rfl⟩ := hrel
        have hml := cTo_le HC.out x j hj
        by_cases hlj : j < c.outs.length
        · have hlj' : (j : Int) < (c.outs.length : Int) := by omega
          obtain ⟨b, off, rfl, hlc, hbs, au, cu, hcu, hiu, hmm, hcum⟩ := HO.out.at hlj
          have HIU : Hid (IsInts W (.slice au (rowAt c.outs j).length cu) (rowAt c.outs j)) := hiu
          have HM : Hid (cTo c x (j+1) = cTo c x j + (rowAt c.outs j).count x) := cTo_succ hlj x
          have h4 := HC.out.rows _ (rowAt_mem hlj)
          clear hiu
          generalize rowAt c.outs j = r at *
          generalize cTo c x j = n0 at *
          go_wp2
          go_loop [5, 8] (fun n i => ∃ k : Nat, k ≤ r.length ∧ i = .int .i64 k ∧ n = .int .i64 ((n0 + (r.take k).count x : Nat) : Int)) (fun _ i => r.length - (intOf i).toNat)
          case atStart => exact ⟨0, by omega, rfl, by simp⟩
          case round =>
            obtain ⟨q, hq, rfl, rfl⟩ := hrel
            have hmq : (r.take q).count x ≤ q := Nat.le_trans List.count_le_length (by simp; omega)
            by_cases hlq : q < r.length
            · have hlq' : (q : Int) < (r.length : Int) := by omega
              obtain ⟨b2, off2, rfl, hlc2, hbs2, hcell⟩ := HIU.out.open_at hlq
              have hck := hcell q hlq
              have HQ : Hid ((r.take (q+1)).count x = (r.take q).count x + if r[q]?.getD 0 = x then 1 else 0) := count_take hlq x
              clear hcell
              generalize r[q]?.getD 0 = y at *
              by_cases hb : y = x
              · have HM2 : Hid ((r.take (q+1)).count x = (r.take q).count x + 1) := by unfold Hid; rw [HQ.out, if_pos hb]
                generalize (r.take q).count x = n at *
                subst hb
                go_wp2
                go_round
                case rel => exact ⟨q + 1, by omega, by go_num, by rw [HM2.out]; go_num⟩
                case measure => simp [intOf]; omega
              · have HM2 : Hid ((r.take (q+1)).count x = (r.take q).count x) := by unfold Hid; rw [HQ.out, if_neg hb, Nat.add_zero]
                generalize (r.take q).count x = n at *
                go_wp2
                go_round
                case rel => exact ⟨q + 1, by omega, by go_num, by rw [HM2.out]⟩
                case measure => simp [intOf]; omega
            · have hlq' : ¬ (q : Int) < (r.length : Int) := by omega
              have HE : Hid (n0 + (r.take q).count x = cTo c x (j+1)) := by unfold Hid; rw [HM.out, List.take_of_length_le (by omega)]
              rw [HE.out]
              clear hmq HM
              go_wp2
              go_round
              case rel => exact ⟨j + 1, by omega, by go_num, rfl⟩
              case measure => simp [intOf]; omega
        · have hlj' : ¬ (j : Int) < (c.outs.length : Int) := by omega
          have HE : Hid (cTo c x j = c.count x) := by unfold Hid; rw [← cTo_last, show c.outs.length = j by omega]
          generalize cTo c x j = n at *
          go_wp2
          go_ret
          exact ⟨by rw [HE.out]; rfl, HB.out⟩
end Go.Proofs.YtmibnceadciidaaDoor

/- From a walk to a law's row: a law returns true and leaves all old memory as it was. -/
namespace Go.Proofs.YtmibnceadciidaaDoor
open Go.ChangeShapes Go.WideShapes Go.ChangeAt Go.RowKit

theorem trodAll_below {H : Type} {enc : TypeId × Value → H} {P : Program} (hl : laidOutB P = true) {W W' : World} (hb : Below W.heap.size W W') :
    ∀ (ts : List TypeId) (vs : List Value) (ds : List (DataW H)) (ps : List MemPlace), ts.all (fun t => P.readableRec t && decide (t < P.types.size)) = true →
    DataW.TrodAll enc P W 0 (fun _ => true) true ts vs ds ps → (∀ x ∈ ps, x.block < W.heap.size) → DataW.TrodAll enc P W' 0 (fun b => decide (b < W.heap.size)) true ts vs ds ps
  | [], vs, ds, ps, _, h, _ => by
    obtain ⟨rfl, rfl, rfl⟩ := trodAll_nil h
    exact trodAll_mk0
  | t :: ts, vs, ds, ps, hr, h, hlt => by
    obtain ⟨v0, vs0, d0, ds0, p0, q0, rfl, rfl, rfl, h0, r0⟩ := trodAll_cons h
    simp only [List.all_cons, Bool.and_eq_true, decide_eq_true_eq] at hr
    exact trodAll_cons_mk (Below.trod hl hr.1.1 hr.1.2 h0 hb fun x hx => hlt x (List.mem_append_left _ hx))
      (trodAll_below hl hb ts vs0 ds0 q0 hr.2 r0 fun x hx => hlt x (List.mem_append_right _ hx))

theorem law_post {H : Type} {enc : TypeId × Value → H} {P : Program} {f : Func} {s : ChangeSpec} {W W' : World} {args : Array Value} {ds gs : List (DataW H)} {before : List MemPlace} {tb : TypeId}
    (hW : DataW.Whole enc P f.params.toList s.vars false W args.toList ds gs before) (hb : Below W.heap.size W W') (hl : laidOutB P = true) (hvars : s.vars = [])
    (hp : f.params.toList.all (fun t => P.readableRec t && decide (t < P.types.size)) = true) (hr : f.resultTypes = #[tb]) (ht : P.underlying tb = some .bool)
    (hres : (s.fn H (ds ++ gs)).results = [.lit (.bool true)]) (hargs : (s.fn H (ds ++ gs)).args = ds) (hv : (s.fn H (ds ++ gs)).vars = []) :
    s.post enc P f false true false false W args (.bool true) W' := by
  have hlt := hW.lt
  have hW2 := hW
  obtain ⟨p, q, hA, hV, rfl, hfz, hnd⟩ := hW
  rw [hvars] at hV
  obtain ⟨rfl, rfl⟩ := trodVars_none hV
  refine ⟨ds, [], p ++ [], [], p, [], hW2, ?_, ?_, ?_, hb.frame _, fun h => by cases h⟩
  · rw [hres, hr]
    exact trodAll_cons_mk (shut_bool ht _) trodAll_mk0
  · rw [hargs]
    exact trodAll_below hl hb _ _ _ _ hp hA fun x hx => by simpa using hlt x (by simpa using hx)
  · rw [hv, hvars]; exact rfl

theorem arg_ints {H : Type} {enc : TypeId × Value → H} {P : Program} {W : World} {base : Nat} {t e : TypeId} {v : Value} {d : DataW H} {ps : List MemPlace}
    (ht : P.underlying t = some (.slice e)) (he : P.underlying e = some (.int .i64)) (hc : P.cellsOf e = 1) (hok : Value.okWide P W .any base t v) (h : DataW.Trod enc P W 0 (fun _ => true) true t v d ps) :
    ∃ l ao cap, v = .slice ao l.length cap ∧ IsInts W v l := by
  obtain ⟨a0, len, cap, rfl⟩ := okWide_slice ht hok
  obtain ⟨fuel, hf⟩ := h
  rcases open_ints ht he hc hf with ⟨h0, _⟩ | ⟨a, len', cap', zs, h1, _, hlc, hcap, hzl, _, hcell, hw⟩
  · have hv : Value.slice a0 len cap = .slice none 0 0 := by simpa [Value.cells] using h0
    exact ⟨[], none, 0, hv, .inl ⟨rfl, none, 0, hv, by simp⟩⟩
  · have hv : Value.slice a0 len cap = .slice (some a) len' cap' := by simpa [Value.cells] using h1
    rw [hv]
    have hzl' : zs.length = cap' := by simpa using hzl
    have hlen : (zs.take len').length = len' := by simp; omega
    refine ⟨zs.take len', some a, cap', by rw [hlen], ?_⟩
    by_cases h0 : len' = 0
    · subst h0
      exact .inl ⟨by simp, _, _, rfl, hcap⟩
    · obtain ⟨b, off, sp⟩ := a
      have hsp : sp = none := by
        have := hcell 0 (by omega)
        unfold World.cell? at this
        split at this
        · split at this
          · cases this
          · rename_i h
            simpa [Addr.add] using h
        · cases this
      subst hsp
      refine .inr ⟨b, off, cap', by rw [hlen], by omega, by omega, hcap, fun j hj => ?_⟩
      have hj' : j < len' := by omega
      have := hcell j (by omega)
      rw [List.getElem?_take_of_lt hj', ← List.getD_eq_getElem?_getD]
      rw [add_plain] at this
      exact this
end Go.Proofs.YtmibnceadciidaaDoor

/- A slice of ints that came in, whole: appended to a slice of one's own; and how great it may be. -/
namespace Go.Proofs.YtmibnceadciidaaDoor
set_option maxRecDepth 100000
open Go.ChangeShapes Go.WideShapes Go.ChangeAt Go.RowKit Go.Sort

/-- v came in and holds l: nil, or at an address. -/
def Came (w : World) (v : Value) (l : List Int) : Prop :=
  (v = .slice none 0 0 ∧ l = []) ∨ ∃ a cap, v = .slice (some a) l.length cap ∧ ∀ j u, (l.map (Value.int .i64))[j]? = some u → w.cell? (a.add j) = some u

theorem Came.below {w w' : World} {v : Value} {l : List Int} (h : Came w v l) (hb : Below w.heap.size w w') : Came w' v l := by
  rcases h with h | ⟨a, cap, hv, hc⟩
  · exact .inl h
  · refine .inr ⟨a, cap, hv, fun j u hj => ?_⟩
    have := hc j u hj
    rw [hb.cell (World.block_lt_of_cell? w _ this)]
    exact this

theorem Came.form {w : World} {v : Value} {l : List Int} (h : Came w v l) : ∃ ao cap, v = .slice ao l.length cap := by
  rcases h with ⟨rfl, rfl⟩ | ⟨a, cap, rfl, _⟩
  · exact ⟨none, 0, rfl⟩
  · exact ⟨some a, cap, rfl⟩

theorem append_came {w : World} {ops : Array Oper} {rest : List Oper} {o : Oper} {a : Act} {Q : Exit → Act → World → Prop} (hgd : o.guard = none) (s x : Operand)
    (ho : o.op = .call { callee := .builtin .append, args := #[s, x], argTypes := #[25, 25] }) (base : Nat) (v vx : Value) (xs l : List Int) (hs : a.eval s = v) (hx : a.eval x = vx) (hown : OwnI w base v xs) (hc : Came w vx l) (hB : base ≤ w.heap.size)
    (hlen : (xs.length + l.length) * 8 ≤ 140737488355328) (h : ∀ v' w', OwnI w' base v' (xs ++ l) → w.grownBy w' v.ownBlock → wpList Tryd.prog ops Q rest (a.put o.dst v') w') : wpList Tryd.prog ops Q (o :: rest) a w := by
  obtain ⟨i0, hi, hz0, hz1, hz2⟩ := info_parts Tryd.info3
  rcases hc with ⟨rfl, rfl⟩ | ⟨ad, cap, rfl, hcell⟩
  · refine wpList_append_own_none hgd s x 25 ho base 3 i0 1 Tryd.underlying25 hi v xs.length (xs.map (Value.int .i64)) hs hown hx ?_
    have := h v w (by simpa using hown) (World.grownBy.refl _ _)
    exact this
  · refine wpList_append_own w hgd s x 25 ho base 3 i0 (.int .i64 0) 1 8 Tryd.underlying25 hi hz0 hz1 hz2 rfl (by decide) v xs.length (xs.map (Value.int .i64)) hs hown ad l.length cap (l.map (Value.int .i64)) hx (by simp) hcell ?_ (by unfold maxLen; omega) hlen hB ?_
    · intro u hu
      obtain ⟨y, _, rfl⟩ := List.mem_map.1 hu
      rfl
    · intro v' w' h1 h2 _
      refine h v' w' ?_ h2
      unfold OwnI
      rw [List.length_append, List.map_append]
      exact h1

/-- A []int argument: what it holds, how it lies, how great it is. -/
theorem arg_came {H : Type} {enc : TypeId × Value → H} {W : World} {base : Nat} {ts : List TypeId} {ds : List (DataW H)} {j : Nat} {v : Value} {d : DataW H} {ps : List MemPlace}
    (hsz : (DataW.weightsEach Tryd.prog ts ds).all (· ≤ reachBytes) = true) (htj : ts[j]? = some 25) (hdj : ds[j]? = some d)
    (hok : Value.okWide Tryd.prog W .any base 25 v) (h : DataW.Trod enc Tryd.prog W 0 (fun _ => true) true 25 v d ps) :
    ∃ l, IsInts W v l ∧ Came W v l ∧ l.length * 8 ≤ 140737488351232 := by
  obtain ⟨a0, len, cap, rfl⟩ := okWide_slice Tryd.underlying25 hok
  obtain ⟨fuel, hf⟩ := h
  rcases open_ints Tryd.underlying25 Tryd.underlying3 (by kernel_rfl) hf with ⟨h0, _⟩ | ⟨a, len', cap', zs, h1, _, hlc, hcap, hzl, hdd, hcell, hw⟩
  · have hv : Value.slice a0 len cap = .slice none 0 0 := by simpa [Value.cells] using h0
    exact ⟨[], .inl ⟨rfl, none, 0, hv, by simp⟩, .inl ⟨hv, rfl⟩, by simp⟩
  · have hv : Value.slice a0 len cap = .slice (some a) len' cap' := by simpa [Value.cells] using h1
    rw [hv]
    have hzl' : zs.length = cap' := by simpa using hzl
    have hlen : (zs.take len').length = len' := by simp; omega
    have hreach : len' * 8 ≤ 140737488351232 := by
      simp only [Prod.mk.injEq] at hdd
      obtain ⟨rfl, _⟩ := hdd
      have := sized_slice hsz (j := j) (t := 25) (e := 3) htj hdj Tryd.underlying25
      rw [show Tryd.prog.bytesOf 3 = 8 by kernel_rfl] at this
      simp only [lits, List.length_map, List.length_take, List.length_drop, reachBytes] at this
      omega
    refine ⟨zs.take len', ?_, .inr ⟨a, cap', by rw [hlen], ?_⟩, by rw [hlen]; exact hreach⟩
    · by_cases h0 : len' = 0
      · subst h0
        exact .inl ⟨by simp, _, _, rfl, hcap⟩
      · obtain ⟨b, off, rfl, hc⟩ := ints_at hcell (by omega)
        refine .inr ⟨b, off, cap', by rw [hlen], by omega, by omega, hcap, fun j hj => ?_⟩
        have hj' : j < len' := by omega
        rw [List.getElem?_take_of_lt hj', ← List.getD_eq_getElem?_getD]
        exact hc j (by omega)
    · intro j u hj
      have hjl : j < len' := by have := (List.getElem?_eq_some_iff.1 hj).1; simp at this; omega
      rw [List.getElem?_map, List.getElem?_take_of_lt hjl, List.getElem?_eq_getElem (by omega : j < zs.length)] at hj
      have := hcell j (by omega)
      rw [List.getD_eq_getElem?_getD, List.getElem?_eq_getElem (by omega : j < zs.length)] at this
      rw [this]
      simpa using hj
end Go.Proofs.YtmibnceadciidaaDoor

/- The walk of the document's answer (larderwickref1): Put. -/
namespace Go.Proofs.YtmibnceadciidaaDoor
set_option maxRecDepth 100000
open Go.ChangeShapes Go.WideShapes Go.ChangeAt Go.RowKit Go.Sort

theorem came_of {w : World} {a : Addr} {n cap : Nat} {l : List Int} (h : IsInts w (.slice (some a) n cap) l) (hn : l.length = n) : Came w (.slice (some a) n cap) l := by
  subst hn
  refine .inr ⟨a, cap, rfl, fun j u hj => ?_⟩
  rcases h with ⟨rfl, _⟩ | ⟨b, off, cap2, hv, hpos, hlc, hcap, hc⟩
  · simp at hj
  · simp at hv
    obtain ⟨rfl, rfl⟩ := hv
    have hjl : j < l.length := by have := (List.getElem?_eq_some_iff.1 hj).1; simpa using this
    rw [List.getElem?_map, List.getElem?_eq_getElem hjl] at hj
    have := hc j hjl
    rw [List.getElem?_eq_getElem hjl] at this
    rw [add_plain, this]
    simpa using hj
theorem below_nil {w w1 : World} (h : w.grownBy w1 none) : Below w.heap.size w w1 := (Below.refl w.heap.size w).grown h (Nat.le_refl _) fun k hk => by cases hk
set_option maxHeartbeats 1000000 in
theorem rput_any (v : Value) (l : List Int) (a : Nat) (x : Int) (w : World) (B : Nat) (hv : OwnI w B v l) (ha : a ≤ l.length) (hlen : l.length ≤ 1000) :
    Calls Tryd.prog 19 #[v, .int .i64 (a : Nat), .int .i64 x] w fun e w' => ∃ v', e = .returned v' ∧ OwnI w' w.heap.size v' (l.take a ++ x :: l.drop a) ∧ Below w.heap.size w w' := by
  obtain ⟨i0, hi, hz0, hz1, hz2⟩ := info_parts Tryd.info3
  have HI : Hid (Tryd.prog.info? 3 = some i0 ∧ i0.zero = some (.int .i64 0) ∧ i0.size = 1 ∧ i0.bytes = 8) := ⟨hi, hz0, hz1, hz2⟩
  clear hi hz0 hz1 hz2
  have HR : Hid (l.take a ++ x :: l.drop a = (l.take a ++ [x]) ++ l.drop a) := by unfold Hid; simp
  have hIn := hv.isInts
  rcases hv.2 with ⟨rfl, h0⟩ | ⟨g, cap, cur, rfl, hbg, hg, hn, hm, hs, ht⟩
  · obtain rfl : l = [] := List.eq_nil_of_length_eq_zero h0
    obtain rfl : a = 0 := by simpa using ha
    rw [show ((0 : Nat) : Int) = 0 from rfl]
    clear hv hIn h0 ha hlen
    have HC1 : Hid (Came w (.slice none 0 0) []) := .inl ⟨rfl, rfl⟩
    go_enter Tryd.func19, Tryd.ntmps19
    go_wp2_with (at_builtin; go_must (first | (refine append_came rfl _ _ rfl w.heap.size (.slice none 0 0) _ [] ([]) rfl rfl (OwnI.nil _ _) HC1.out (Nat.le_refl _) (by simp) ?_; intro v1 w1 ho1 hg1; have HO1 : Hid (OwnI w1 w.heap.size v1 ([])) := ho1; have HB1 : Hid (Below w.heap.size w w1) := below_nil hg1; have hs1 : w.heap.size ≤ w1.heap.size := HB1.out.size; clear ho1 hg1 HC1) | (refine wpList_append_own _ rfl _ _ 25 rfl w.heap.size 3 i0 (.int .i64 0) 1 8 Tryd.underlying25 HI.out.1 HI.out.2.1 HI.out.2.2.1 HI.out.2.2.2 rfl (by decide) _ ([]).length (([]).map (Value.int .i64)) rfl (World.ownsRow.alloc HO1.out _) ⟨w1.heap.size, 0, none⟩ 1 1 [.int .i64 x] rfl rfl (new_one _ _ _) (one_cell _) (by simp [maxLen]) (by simp) (by simp; omega) ?_; intro v2 w2 hown' hgrow _; have R := own_append (l := []) HO1.out HB1.out (Nat.le_refl _) hown' hgrow; have HO2 : Hid (OwnI w2 w.heap.size v2 ([] ++ [x])) := R.1; have HB2 : Hid (Below w.heap.size w w2) := R.2; have hs2 : w.heap.size ≤ w2.heap.size := HB2.out.size; clear R hown' hgrow HO1 HB1) | (refine append_came rfl _ _ rfl w.heap.size v2 _ ([] ++ [x]) ([]) rfl rfl HO2.out (.inl ⟨rfl, rfl⟩) HB2.out.size (by simp) ?_; intro v3 w3 ho3 hg3; have HO3 : Hid (OwnI w3 w.heap.size v3 (([] ++ [x]) ++ [])) := ho3; have HB3 : Hid (Below w.heap.size w w3) := HB2.out.grown hg3 HB2.out.size fun k hk => (World.ownsRow.lt HO2.out k hk).1; clear ho3 hg3 HO2 HB2)))
    go_ret
    exact ⟨_, rfl, HO3.out, HB3.out⟩
  · have HC1 : Hid (Came w (.slice (some ⟨g, 0, none⟩) a cap) (l.take a)) := came_of (isInts_prefix hIn rfl ha) (by rw [List.length_take]; omega)
    have hla : (l.take a).length = a := by rw [List.length_take]; omega
    have hld : (l.drop a).length = l.length - a := List.length_drop
    have HLA : Hid ((l.take a).length = a) := hla
    have HLD : Hid ((l.drop a).length = l.length - a) := hld
    unfold maxLen at hm
    have key : ∀ (ao2 : Option Addr) (cap2 : Nat) (w2 : World), Below w.heap.size w w2 → (∃ b, ao2 = some b) → (a < l.length → ao2 = some ⟨g, a, none⟩ ∧ cap2 = cap - a) → Came w2 (.slice ao2 (l.length - a) cap2) (l.drop a) := by
      rintro ao2 cap2 w2 hb2 ⟨b, rfl⟩ h2
      by_cases hal : a < l.length
      · obtain ⟨h3, rfl⟩ := h2 hal
        rw [h3]
        refine came_of ?_ List.length_drop
        exact IsInts.below (isInts_drop hIn rfl ha (fun y hy _ => by cases hy; simp)) hb2
      · have : l.drop a = [] := List.drop_eq_nil_of_le (by omega)
        rw [this, show l.length - a = 0 by omega]
        exact .inr ⟨b, cap2, rfl, fun j u hj => by simp at hj⟩
    have HKEY : Hid (∀ (ao2 : Option Addr) (cap2 : Nat) (w2 : World), Below w.heap.size w w2 → (∃ b, ao2 = some b) → (a < l.length → ao2 = some ⟨g, a, none⟩ ∧ cap2 = cap - a) → Came w2 (.slice ao2 (l.length - a) cap2) (l.drop a)) := key
    have HA : Hid (a ≤ l.length ∧ l.length ≤ 1000) := ⟨ha, hlen⟩
    clear hv hIn ht hs hg hla hld key
    have hsub : IntKind.i64.wrap ((l.length : Int) - (a : Int)) = ((l.length - a : Nat) : Int) := by rw [IntKind.wrap_i64]; omega
    by_cases hac : cap = a
    · obtain rfl : a = l.length := by omega
      subst hac
      have hkey : ∀ w2 : World, Below w.heap.size w w2 → Came w2 (.slice (some ⟨g, 0, none⟩) 0 0) (l.drop l.length) := fun w2 hb => by have hk := HKEY.out (some ⟨g, 0, none⟩) 0 w2 hb ⟨_, rfl⟩ (fun h => absurd h (Nat.lt_irrefl _)); rw [Nat.sub_self] at hk; exact hk
      have HK2 : Hid (∀ w2 : World, Below w.heap.size w w2 → Came w2 (.slice (some ⟨g, 0, none⟩) 0 0) (l.drop l.length)) := hkey
      clear hkey HKEY
      generalize hL : l.length = a at *
      have HLL : Hid (l.length = a) := hL
      clear hL
      go_enter Tryd.func19, Tryd.ntmps19
      go_wp2_with (at_builtin; go_must (first | (refine append_came rfl _ _ rfl w.heap.size (.slice none 0 0) _ [] (l.take a) rfl rfl (OwnI.nil _ _) HC1.out (Nat.le_refl _) (by rw [HLA.out]; have := HA.out; simp only [List.length_nil]; omega) ?_; intro v1 w1 ho1 hg1; have HO1 : Hid (OwnI w1 w.heap.size v1 (l.take a)) := ho1; have HB1 : Hid (Below w.heap.size w w1) := below_nil hg1; have hs1 : w.heap.size ≤ w1.heap.size := HB1.out.size; clear ho1 hg1 HC1) | (refine wpList_append_own _ rfl _ _ 25 rfl w.heap.size 3 i0 (.int .i64 0) 1 8 Tryd.underlying25 HI.out.1 HI.out.2.1 HI.out.2.2.1 HI.out.2.2.2 rfl (by decide) _ (l.take a).length ((l.take a).map (Value.int .i64)) rfl (World.ownsRow.alloc HO1.out _) ⟨w1.heap.size, 0, none⟩ 1 1 [.int .i64 x] rfl rfl (new_one _ _ _) (one_cell _) (by rw [HLA.out]; have := HA.out; unfold maxLen; omega) (by rw [HLA.out]; have := HA.out; omega) (by simp; omega) ?_; intro v2 w2 hown' hgrow _; have R := own_append (l := l.take a) HO1.out HB1.out (Nat.le_refl _) hown' hgrow; have HO2 : Hid (OwnI w2 w.heap.size v2 (l.take a ++ [x])) := R.1; have HB2 : Hid (Below w.heap.size w w2) := R.2; have hs2 : w.heap.size ≤ w2.heap.size := HB2.out.size; clear R hown' hgrow HO1 HB1) | (refine append_came rfl _ _ rfl w.heap.size v2 _ (l.take a ++ [x]) (l.drop a) rfl rfl HO2.out (HK2.out _ HB2.out) HB2.out.size (by rw [List.length_append, HLA.out, HLD.out]; have := HA.out; simp only [List.length_cons, List.length_nil]; omega) ?_; intro v3 w3 ho3 hg3; have HO3 : Hid (OwnI w3 w.heap.size v3 ((l.take a ++ [x]) ++ l.drop a)) := ho3; have HB3 : Hid (Below w.heap.size w w3) := HB2.out.grown hg3 HB2.out.size fun k hk => (World.ownsRow.lt HO2.out k hk).1; clear ho3 hg3 HO2 HB2)))
      go_ret
      exact ⟨_, rfl, by rw [HR.out]; exact HO3.out, HB3.out⟩
    · have hac2 : ¬ (cap : Int) = (a : Int) := by omega
      go_enter Tryd.func19, Tryd.ntmps19
      go_wp2_with (at_builtin; go_must (first | (refine append_came rfl _ _ rfl w.heap.size (.slice none 0 0) _ [] (l.take a) rfl rfl (OwnI.nil _ _) HC1.out (Nat.le_refl _) (by rw [HLA.out]; have := HA.out; simp only [List.length_nil]; omega) ?_; intro v1 w1 ho1 hg1; have HO1 : Hid (OwnI w1 w.heap.size v1 (l.take a)) := ho1; have HB1 : Hid (Below w.heap.size w w1) := below_nil hg1; have hs1 : w.heap.size ≤ w1.heap.size := HB1.out.size; clear ho1 hg1 HC1) | (refine wpList_append_own _ rfl _ _ 25 rfl w.heap.size 3 i0 (.int .i64 0) 1 8 Tryd.underlying25 HI.out.1 HI.out.2.1 HI.out.2.2.1 HI.out.2.2.2 rfl (by decide) _ (l.take a).length ((l.take a).map (Value.int .i64)) rfl (World.ownsRow.alloc HO1.out _) ⟨w1.heap.size, 0, none⟩ 1 1 [.int .i64 x] rfl rfl (new_one _ _ _) (one_cell _) (by rw [HLA.out]; have := HA.out; unfold maxLen; omega) (by rw [HLA.out]; have := HA.out; omega) (by simp; omega) ?_; intro v2 w2 hown' hgrow _; have R := own_append (l := l.take a) HO1.out HB1.out (Nat.le_refl _) hown' hgrow; have HO2 : Hid (OwnI w2 w.heap.size v2 (l.take a ++ [x])) := R.1; have HB2 : Hid (Below w.heap.size w w2) := R.2; have hs2 : w.heap.size ≤ w2.heap.size := HB2.out.size; clear R hown' hgrow HO1 HB1) | (refine append_came rfl _ _ rfl w.heap.size v2 _ (l.take a ++ [x]) (l.drop a) rfl rfl HO2.out (HKEY.out _ _ _ HB2.out ⟨_, rfl⟩ (fun _ => ⟨rfl, rfl⟩)) HB2.out.size (by rw [List.length_append, HLA.out, HLD.out]; have := HA.out; simp only [List.length_cons, List.length_nil]; omega) ?_; intro v3 w3 ho3 hg3; have HO3 : Hid (OwnI w3 w.heap.size v3 ((l.take a ++ [x]) ++ l.drop a)) := ho3; have HB3 : Hid (Below w.heap.size w w3) := HB2.out.grown hg3 HB2.out.size fun k hk => (World.ownsRow.lt HO2.out k hk).1; clear ho3 hg3 HO2 HB2)))
      go_ret
      exact ⟨_, rfl, by rw [HR.out]; exact HO3.out, HB3.out⟩
end Go.Proofs.YtmibnceadciidaaDoor

/- All of a row appended to nothing: rows of slices, rows of bools; the walk of the document's outs (larderwickref2). -/
namespace Go.Proofs.YtmibnceadciidaaDoor
set_option maxRecDepth 100000
open Go.ChangeShapes Go.WideShapes Go.ChangeAt Go.RowKit Go.Sort

theorem rows_one {w : World} {B : Nat} {us : List Value} {L : List (List Int)} (h : ∀ j u, us[j]? = some u → OwnI w B u (rowAt L j)) : ∀ u ∈ us, u.oneCell' = true := fun u hu => by
  obtain ⟨k, hk, rfl⟩ := List.getElem_of_mem hu
  obtain ⟨ao, cap, e⟩ := OwnI.form (h k _ (List.getElem?_eq_getElem hk))
  rw [e]; rfl
/-- A row of rows, all of it. -/
theorem append_rows {w : World} {ops : Array Oper} {rest : List Oper} {o : Oper} {a : Act} {Q : Exit → Act → World → Prop} (hgd : o.guard = none) (s x : Operand)
    (ho : o.op = .call { callee := .builtin .append, args := #[s, x], argTypes := #[22, 22] }) (B : Nat) (vx : Value) (us : List Value) (hs : a.eval s = .slice none 0 0) (hx : a.eval x = vx) (n : Nat) (hnl : us.length = n) (hsrc : w.ownsRow B 25 1 vx n us) (hone : ∀ u ∈ us, u.oneCell' = true)
    (hlen : us.length ≤ 1000) (h : ∀ v' w', w'.ownsRow w.heap.size 25 1 v' n us → Below w.heap.size w w' → wpList Tryd.prog ops Q rest (a.put o.dst v') w') : wpList Tryd.prog ops Q (o :: rest) a w := by
  subst hnl
  obtain ⟨i0, hi, hz0, hz1, hz2⟩ := info_parts info_row
  rcases hsrc.2 with ⟨rfl, h0⟩ | ⟨g, cap, cur, rfl, hb, hg, hn, hm, hsz, ht⟩
  · obtain rfl : us = [] := List.eq_nil_of_length_eq_zero h0
    refine wpList_append_own_none hgd s x 22 ho w.heap.size 25 i0 1 Tryd.underlying22 hi (.slice none 0 0) 0 [] hs (World.ownsRow_nil _ _ _ _) hx ?_
    exact h _ w (World.ownsRow_nil _ _ _ _) (Below.refl _ _)
  · refine wpList_append_own w hgd s x 22 ho w.heap.size 25 i0 (.slice none 0 0) 1 24 Tryd.underlying22 hi hz0 hz1 hz2 rfl (by decide) (.slice none 0 0) 0 [] hs (World.ownsRow_nil _ _ _ _) ⟨g, 0, none⟩ us.length cap us hx (by simp) ?_ hone (by unfold maxLen; omega) (by omega) (Nat.le_refl _) ?_
    · intro j u hj
      have hjl := (List.getElem?_eq_some_iff.1 hj).1
      rw [add_plain, Nat.zero_add, World.ownsRow.cellAt hsrc j (by omega)]
      exact hj
    · intro v' w' h1 h2 _
      rw [Nat.zero_add, List.nil_append] at h1
      exact h v' w' h1 (below_nil h2)
theorem append_bools {w : World} {ops : Array Oper} {rest : List Oper} {o : Oper} {a : Act} {Q : Exit → Act → World → Prop} (hgd : o.guard = none) (s x : Operand)
    (ho : o.op = .call { callee := .builtin .append, args := #[s, x], argTypes := #[26, 26] }) (B : Nat) (vx : Value) (l : List Bool) (hs : a.eval s = .slice none 0 0) (hx : a.eval x = vx) (hsrc : OwnB w B vx l)
    (hlen : l.length ≤ 1000) (h : ∀ v' w', OwnB w' w.heap.size v' l → Below w.heap.size w w' → wpList Tryd.prog ops Q rest (a.put o.dst v') w') : wpList Tryd.prog ops Q (o :: rest) a w := by
  obtain ⟨i0, hi, hz0, hz1, hz2⟩ := info_parts Tryd.infoB
  rcases hsrc.2 with ⟨rfl, h0⟩ | ⟨g, cap, cur, rfl, hb, hg, hn, hm, hsz, ht⟩
  · obtain rfl : l = [] := List.eq_nil_of_length_eq_zero h0
    refine wpList_append_own_none hgd s x 26 ho w.heap.size 4 i0 1 Tryd.underlying26 hi (.slice none 0 0) 0 [] hs (World.ownsRow_nil _ _ _ _) hx ?_
    exact h _ w (OwnB.nil _ _) (Below.refl _ _)
  · refine wpList_append_own w hgd s x 26 ho w.heap.size 4 i0 (.bool false) 1 1 Tryd.underlying26 hi hz0 hz1 hz2 rfl (by decide) (.slice none 0 0) 0 [] hs (World.ownsRow_nil _ _ _ _) ⟨g, 0, none⟩ l.length cap (l.map Value.bool) hx (by simp) ?_ ?_ (by unfold maxLen; omega) (by omega) (Nat.le_refl _) ?_
    · intro j u hj
      have hjl := (List.getElem?_eq_some_iff.1 hj).1
      rw [List.length_map] at hjl
      rw [add_plain, Nat.zero_add, World.ownsRow.cellAt hsrc j (by omega)]
      exact hj
    · intro u hu
      obtain ⟨y, _, rfl⟩ := List.mem_map.1 hu
      rfl
    · intro v' w' h1 h2 _
      rw [Nat.zero_add, List.nil_append] at h1
      exact h v' w' h1 (below_nil h2)
theorem own_some {w : World} {B n : Nat} {v : Value} {us : List Value} {t : TypeId} (h : w.ownsRow B t 1 v n us) (hn : 0 < n) : ∃ g cap, v = .slice (some ⟨g, 0, none⟩) n cap ∧ B ≤ g ∧ n ≤ cap ∧ cap ≤ 9223372036854775807 := by
  rcases h.2 with ⟨_, h0⟩ | ⟨g, cap, cur, rfl, hb, hg, hnc, hm, _⟩
  · omega
  · exact ⟨g, cap, rfl, hb, hnc, hm⟩
set_option maxHeartbeats 1000000 in
theorem routs_any {S : Nat → Prop} (L : List (List Int)) (i : Nat) (r : List Int) (v x : Value) (B : Nat) (w : World) (hv : OwnX S w B v L) (hx : OwnI w B x r) (hxo : Out S x) (hS : ∀ k, S k → k < w.heap.size) (hi : i < L.length) (hl : L.length ≤ 100) (hB : B ≤ w.heap.size) :
    Calls Tryd.prog 23 #[v, .int .i64 (i : Nat), x] w fun e w' => ∃ v', e = .returned v' ∧ OwnX S w' B v' (L.set i r) ∧ Below w.heap.size w w' := by
  obtain ⟨ax, cx, rfl⟩ := OwnI.form hx
  obtain ⟨us, h1, h2, _, h3⟩ := hv
  have HS : Hid (w.ownsRow B 25 1 v us.length us) := by rw [h1]; exact h2
  have H3 : Hid (∀ j u, us[j]? = some u → OwnI w B u (rowAt L j)) := fun j u hj => (h3 j u hj).1
  have H4 : Hid (∀ (j : Nat) u, us[j]? = some u → Out S u) := fun j u hj => (h3 j u hj).2
  have HXO : Hid (Out S (.slice ax r.length cx)) := hxo
  have HSL : Hid (∀ k, S k → k < w.heap.size) := hS
  have HX : Hid (OwnI w B (.slice ax r.length cx) r) := hx
  have HL : Hid (us.length = L.length) := h1
  have hiu : i < us.length := by omega
  have hul : us.length ≤ 1000 := by omega
  clear h1 h2 h3 hx hi hl hxo hS
  go_enter Tryd.func23, Tryd.ntmps23
  go_wp2_with (at_builtin; go_must (refine append_rows rfl _ _ rfl B v us rfl rfl us.length rfl HS.out (rows_one H3.out) hul ?_; intro v1 w1 ho1 hb1; have HO1 : Hid (w1.ownsRow w.heap.size 25 1 v1 us.length us) := ho1; have HB1 : Hid (Below w.heap.size w w1) := hb1; (obtain ⟨g, c1, rfl, hg1, hlc1, hmm1⟩ := own_some ho1 (by omega)); have hfz := World.ownsRow.frozenAt ho1 i; have hcl := (World.ownsRow.cellAt ho1 i (by omega)).trans (List.getElem?_eq_getElem hiu); clear ho1 hb1))
  have HST : Hid _ := (World.ownsRow.stored HO1.out i (.slice ax r.length cx)).1
  have HBS : Hid (Below w.heap.size w (w1.setCell ⟨g, i, none⟩ (.slice ax r.length cx))) := HB1.out.setCell hg1 _
  go_ret
  refine ⟨_, rfl, ⟨us.set i (.slice ax r.length cx), by simp [HL.out], ?_, Out.new HST.out HSL.out, fun j u hj => ?_⟩, HBS.out⟩
  · rw [List.length_set, ← HL.out]
    exact ownsRow_mono HST.out hB
  · have hil : i < L.length := by rw [← HL.out]; exact hiu
    have key : ∀ {y : Value} {l : List Int}, OwnI w B y l → OwnI (w1.setCell ⟨g, i, none⟩ (.slice ax r.length cx)) B y l := fun hy => hy.later HBS.out
    rw [rowAt_set hil]
    by_cases e : j = i
    · subst e
      rw [List.getElem?_set_self hiu] at hj
      cases hj
      rw [if_pos rfl]
      exact ⟨key HX.out, HXO.out⟩
    · rw [List.getElem?_set_ne (fun x => e x.symm)] at hj
      rw [if_neg e]
      exact ⟨key (H3.out j u hj), H4.out j u hj⟩
end Go.Proofs.YtmibnceadciidaaDoor

/- The walk of the document's swept (larderwickref2). -/
namespace Go.Proofs.YtmibnceadciidaaDoor
set_option maxRecDepth 100000
open Go.ChangeShapes Go.WideShapes Go.ChangeAt Go.RowKit Go.Sort

/-- A row of bools of one's own, written into. -/
theorem ownB_some {w : World} {B : Nat} {v : Value} {l : List Bool} {j : Nat} (h : OwnB w B v l) (hj : j < l.length) : ∃ g cap, v = .slice (some ⟨g, 0, none⟩) l.length cap ∧ B ≤ g ∧ l.length ≤ cap ∧ w.frozen? ⟨g, j, none⟩ = false ∧ w.cell? ⟨g, j, none⟩ = some (.bool (l[j]?.getD false)) ∧ OwnB (w.setCell ⟨g, j, none⟩ (.bool false)) B v (l.set j false) := by
  have ho : w.ownsRow B 4 1 v l.length (l.map Value.bool) := h
  obtain ⟨g, cap, rfl, hg, hlc, _⟩ := own_some ho (by omega)
  refine ⟨g, cap, rfl, hg, hlc, World.ownsRow.frozenAt ho j, ?_, ?_⟩
  · rw [World.ownsRow.cellAt ho j (by omega), List.getElem?_map, List.getElem?_eq_getElem hj]; rfl
  · have := (World.ownsRow.stored ho j (.bool false)).1
    unfold OwnB
    rw [List.length_set, List.map_set]
    exact this
set_option maxHeartbeats 4000000 in
theorem rswept_any {S : Nat → Prop} (c : KS) (vo vr vh : Value) (B : Nat) (w : World) (h : OwnK S w B vo vr vh c) (hc : KMid c) (hB : B ≤ w.heap.size) (hS : ∀ k, S k → k < w.heap.size) :
    Calls Tryd.prog 24 #[.agg #[vo, vr, vh]] w fun e w' => ∃ vo' vr' vh', e = .returned (.agg #[vo', vr', vh']) ∧ OwnK S w' B vo' vr' vh' c.swept ∧ Below w.heap.size w w' := by
  obtain ⟨ao, co, ar, cr, ah, ch, rfl, rfl, rfl, hco, hcr, hch⟩ := h.isK.forms
  have HB : Hid (KB2 S w ((w.alloc (.cells #[.slice ao c.outs.length co, .slice ar c.roots.length cr, .slice ah c.here.length ch] 28)).alloc (.cells #[.slice none 0 0, .slice none 0 0, .slice none 0 0] 28)) B w.heap.size (.slice ao c.outs.length co) (.slice ar c.roots.length cr) (.slice ah c.here.length ch) c) := KB2.new h hB hS
  have HC : Hid (KMid c) := hc
  clear h hc hS
  go_enter Tryd.func24, Tryd.ntmps24
  go_wp2
  generalize (w.alloc (.cells #[.slice ao c.outs.length co, .slice ar c.roots.length cr, .slice ah c.here.length ch] 28)).alloc (.cells #[.slice none 0 0, .slice none 0 0, .slice none 0 0] 28) = W at *
  go_loopw [3, 4, 5] (fun n _ _ wr => ∃ (k : Nat) (uo ur uh : Value), k ≤ 13 ∧ n = .int .i64 (k : Nat) ∧ Hid (KB2 S w wr B w.heap.size uo ur uh (c.passes k))) (fun n _ _ _ => 13 - (intOf n).toNat)
  case atStart => exact ⟨0, _, _, _, by omega, rfl, HB⟩
  case round =>
    obtain ⟨k, uo, ur, uh, hk, rfl, HK⟩ := hrel
    clear HB hco hcr hch
    by_cases hlt : k < 13
    · have hlt' : (k : Int) < 13 := by omega
      have HP : Hid (c.passes (k+1) = (c.passes k).pass (c.passes k).here.length) := rfl
      have HM : Hid (KMid (c.passes k)) := passes_mid HC.out k
      generalize c.passes k = d at *
      go_wp2
      have HP2 : Hid (d.pass d.here.length = c.passes (k+1)) := HP.out.symm
      clear HP
      go_loopw [4, 5] (fun i _ wr => ∃ (j : Nat) (uo ur uh : Value), j ≤ d.here.length ∧ i = .int .i64 (j : Nat) ∧ Hid (KB2 S w wr B w.heap.size uo ur uh (d.pass j))) (fun i _ _ => d.here.length - (intOf i).toNat)
      case atStart => exact ⟨0, _, _, _, by omega, rfl, HK⟩
      case round =>
        obtain ⟨j, vo, vr, vh, hj, rfl, HQ⟩ := hrel
        have HMJ : Hid (KMid (d.pass j)) := pass_mid HM.out j
        have HLJ : Hid ((d.pass j).here.length = d.here.length) := pass_here HM.out j
        have HVI : Hid (d.pass (j+1) = (d.pass j).visit j) := rfl
        have hl12 : d.here.length ≤ 12 := HM.out.few
        have HEX : Hid (j = d.here.length → d.pass j = c.passes (k+1)) := fun h => by rw [h]; exact HP2.out
        generalize d.pass j = e at *
        obtain ⟨ao, co, ar, cr, ah, ch, rfl, rfl, rfl, hco, hcr, hch⟩ := HQ.out.kb.own.isK.forms
        obtain ⟨hx0, hx1, hx2, hf0, hf1, hf2⟩ := HQ.out.cells
        have hle : e.here.length = d.here.length := HLJ.out
        rw [hle] at hx2 HQ
        clear hle
        by_cases hjl : j < d.here.length
        · have hjl' : (j : Int) < (d.here.length : Int) := by omega
          have HJE : Hid (j < e.here.length) := by unfold Hid; rw [HLJ.out]; exact hjl
          obtain ⟨bh, offh, rfl, hlch, hbsh, hck⟩ := HQ.out.kb.own.isK.bools.at HJE.out
          have hlch' : d.here.length ≤ ch := by have := HLJ.out; omega
          clear hlch
          cases hb : e.here[j]?.getD false with
          | false =>
            have HN : Hid (KB2 S w wr B w.heap.size (.slice ao e.outs.length co) (.slice ar e.roots.length cr) (.slice (some ⟨bh, offh, none⟩) d.here.length ch) (d.pass (j+1))) := by
              unfold Hid
              rw [HVI.out, show e.visit j = e by unfold KS.visit KS.isN; rw [hb]; rfl]
              exact HQ.out
            rw [hb] at hck
            clear hb
            go_wp2
            go_roundw
            case rel => exact ⟨j + 1, _, _, _, by omega, by go_num, HN⟩
            case measure => simp [intOf]; omega
          | true =>
            have HIN : Hid (e.isN j = true) := hb
            rw [hb] at hck
            clear hb
            by_cases hz : e.count (j : Int) = 0
            · have HVG : Hid (e.visit j = ⟨e.outs.set j [], e.roots, e.here.set j false⟩) := by
                unfold Hid KS.visit
                rw [HIN.out, hz]; rfl
              have HZ : Hid (e.count (j : Int) = 0) := hz
              clear hz
              have HJO : Hid (j < e.outs.length) := by unfold Hid; rw [HMJ.out.even]; exact HJE.out
              have HLO : Hid (e.outs.length ≤ 100 ∧ e.here.length ≤ 1000) := by unfold Hid; have := HMJ.out.outs12; have := HMJ.out.few; omega
              have hje : (j : Int) < (e.here.length : Int) := by have := HJE.out; omega
              go_wp2_with (first
                | (go_at_call 13; go_must (refine (rcnt_any e (j : Int) _ _ _ _ HQ.out.kb.own.isK HMJ.out).mono ?_; rintro x2 w2 ⟨rfl, hb2⟩; have HQ2 : Hid _ := HQ.out.later hb2; clear hb2; obtain ⟨hy0, hy1, hy2, hg0, hg1, hg2⟩ := HQ2.out.cells; rw [HZ.out]))
                | (go_at_call 23; go_must (refine (routs_any e.outs j [] _ _ B _ HQ2.out.kb.own.rows (OwnI.nil _ _) out_nil HQ2.out.hS HJO.out HLO.out.1 HQ2.out.hB).mono ?_; rintro x3 w3 ⟨v3, rfl, hr3, hb3⟩; obtain ⟨a3, c3, hf3⟩ := hr3.form; rw [List.length_set] at hf3; subst hf3; have HQ3 : Hid _ := HQ2.out.later hb3; have HQ4 : Hid _ := HQ3.out.setO hr3; clear hb3 hr3; obtain ⟨hz0, hz1, hz2, hh0, hh1, hh2⟩ := HQ3.out.cells; obtain ⟨hu0, hu1, hu2, hk0, hk1, hk2⟩ := HQ4.out.cells))
                | (at_builtin; go_must (refine append_bools rfl _ _ rfl B _ e.here rfl rfl HQ4.out.kb.own.bools HLO.out.2 ?_; intro v5 w5 ho5 hb5; obtain ⟨g5, c5, rfl, hg5, hlc5, hfz5, hcl5, hst5⟩ := ownB_some ho5 HJE.out; have HQ6 : Hid _ := HQ4.out.later (show Below _ _ (w5.setCell ⟨g5, j, none⟩ (.bool false)) from hb5.setCell hg5 _); have HQ7 : Hid _ := HQ6.out.setH (ownB_mono hst5 HQ4.out.hB) (Out.new ho5 HQ4.out.hS); obtain ⟨hp0, hp1, hp2, hq0, hq1, hq2⟩ := HQ6.out.cells; clear ho5 hb5 hst5)))
              go_roundw
              case rel => exact ⟨j + 1, _, _, _, by omega, by go_num, by rw [HVI.out, HVG.out]; exact HQ7⟩
              case measure => simp [intOf]; omega
            · have HN : Hid (d.pass (j+1) = e) := by
                unfold Hid
                rw [HVI.out]
                unfold KS.visit
                rw [HIN.out]
                have : (e.count (j : Int) == 0) = false := by simpa using hz
                rw [this]; rfl
              have hz' : ¬ ((e.count (j : Int) : Nat) : Int) = 0 := by omega
              clear hz
              go_wp2_with (go_at_call 13; go_must (refine (rcnt_any e (j : Int) _ _ _ _ HQ.out.kb.own.isK HMJ.out).mono ?_; rintro x2 w2 ⟨rfl, hb2⟩; have HQ2 : Hid _ := HQ.out.later hb2; clear hb2))
              go_roundw
              case rel => exact ⟨j + 1, _, _, _, by omega, by go_num, by rw [HN.out]; exact HQ2⟩
              case measure => simp [intOf]; omega
        · have hjl' : ¬ (j : Int) < (d.here.length : Int) := by omega
          have HN : Hid (e = c.passes (k+1)) := by
            exact HEX.out (by omega)
          go_wp2
          go_roundw
          case rel => exact ⟨k + 1, _, _, _, by omega, by go_num, by rw [← HN.out]; exact HQ⟩
          case measure => simp [intOf]; omega
    · have hlt' : ¬ (k : Int) < 13 := by omega
      have HS : Hid (c.passes k = c.swept) := by unfold Hid KS.swept; rw [show k = 13 by omega]
      rw [HS.out] at HK
      generalize hcs : c.swept = d at *
      have HSW : Hid (c.swept = d) := hcs
      clear hcs
      obtain ⟨ao, co, ar, cr, ah, ch, rfl, rfl, rfl, hco, hcr, hch⟩ := HK.out.kb.own.isK.forms
      obtain ⟨hx0, hx1, hx2, hf0, hf1, hf2⟩ := HK.out.cells
      obtain ⟨hy0, hy1, hy2, hg0, hg1, hg2⟩ := tri_cells HK.out.res
      have HEND := HK.out.end_
      go_wp2
      refine bodyPost_ret_by (results_cell_row Tryd.results24 _ _ (w.heap.size+1) 28 #[.slice ao d.outs.length co, .slice ar d.roots.length cr, .slice ah d.here.length ch] (0, 0) _ rfl HEND.1 Tryd.underlying28 rfl (by kernel_rfl)) rfl ?_
      exact ⟨_, _, _, rfl, by rw [HSW.out]; exact HEND.2.1, HEND.2.2⟩
end Go.Proofs.YtmibnceadciidaaDoor

/- The document's Counted while a node is made: plain lemmas on worlds. -/
namespace Go.Proofs.YtmibnceadciidaaDoor
set_option maxRecDepth 100000
open Go.RowKit Go.Sort

structure Mk (S : Nat → Prop) (w0 w : World) (B g : Nat) (a0 a1 a2 v1 vr v2 : Value) (X : List (List Int)) (Y : List Int) (Z : List Bool) : Prop where
  box : w.heap[g]? = some (.cells #[a0, a1, a2] 28 (0, 0))
  res : w.heap[g+1]? = some (.cells #[.slice none 0 0, .slice none 0 0, .slice none 0 0] 28 (0, 0))
  below : Below w0.heap.size w0 w
  ge : w0.heap.size ≤ g
  le : B ≤ w0.heap.size
  rows : ∃ us : List Value, us.length = X.length ∧ w.ownsRow w0.heap.size 25 1 v1 X.length us ∧ ∀ j u, us[j]? = some u → OwnI w B u (rowAt X j) ∧ Out S u
  ints : OwnI w B vr Y
  bools : OwnB w w0.heap.size v2 Z
  intsO : Out S vr
  lt : ∀ k, S k → k < w0.heap.size
section
variable {S : Nat → Prop} {w0 w w1 : World} {B g : Nat} {a0 a1 a2 v1 vr v2 v' u : Value} {X : List (List Int)} {Y : List Int} {Z : List Bool} {us : List Value} {o : Obj}
theorem Mk.later (h : Mk S w0 w B g a0 a1 a2 v1 vr v2 X Y Z) (hb : Below w.heap.size w w1) : Mk S w0 w1 B g a0 a1 a2 v1 vr v2 X Y Z := by
  obtain ⟨us, h1, h2, h3⟩ := h.rows
  exact ⟨(hb.block g (Array.getElem?_eq_some_iff.1 h.box).1).trans h.box, (hb.block _ (Array.getElem?_eq_some_iff.1 h.res).1).trans h.res, h.below.trans (hb.mono h.below.size), h.ge, h.le, ⟨us, h1, ownsRow_below h2 hb, fun j u hj => ⟨OwnI.later (h3 j u hj).1 hb, (h3 j u hj).2⟩⟩, h.ints.later hb, h.bools.later hb, h.intsO, h.lt⟩
theorem Mk.cells (h : Mk S w0 w B g a0 a1 a2 v1 vr v2 X Y Z) : w.cell? ⟨g, 0, none⟩ = some a0 ∧ w.cell? ⟨g, 1, none⟩ = some a1 ∧ w.cell? ⟨g, 2, none⟩ = some a2 ∧ w.frozen? ⟨g, 0, none⟩ = false ∧ w.frozen? ⟨g, 1, none⟩ = false ∧ w.frozen? ⟨g, 2, none⟩ = false := tri_cells h.box
theorem Mk.set0 (h : Mk S w0 w B g a0 a1 a2 v1 vr v2 X Y Z) (u : Value) : Mk S w0 (w.setCell ⟨g, 0, none⟩ u) B g u a1 a2 v1 vr v2 X Y Z := by
  obtain ⟨us, h1, h2, h3⟩ := h.rows
  exact ⟨(tri_set u h.box).1, res_set h.res, h.below.setCell h.ge _, h.ge, h.le, ⟨us, h1, own_set h2 h.box (by decide) _, fun j u hj => ⟨own_set (h3 j u hj).1 h.box (by decide) _, (h3 j u hj).2⟩⟩, own_set h.ints h.box (by decide) _, own_set h.bools h.box (by decide) _, h.intsO, h.lt⟩
theorem Mk.set1 (h : Mk S w0 w B g a0 a1 a2 v1 vr v2 X Y Z) (u : Value) : Mk S w0 (w.setCell ⟨g, 1, none⟩ u) B g a0 u a2 v1 vr v2 X Y Z := by
  obtain ⟨us, h1, h2, h3⟩ := h.rows
  exact ⟨(tri_set u h.box).2.1, res_set h.res, h.below.setCell h.ge _, h.ge, h.le, ⟨us, h1, own_set h2 h.box (by decide) _, fun j u hj => ⟨own_set (h3 j u hj).1 h.box (by decide) _, (h3 j u hj).2⟩⟩, own_set h.ints h.box (by decide) _, own_set h.bools h.box (by decide) _, h.intsO, h.lt⟩
theorem Mk.set2 (h : Mk S w0 w B g a0 a1 a2 v1 vr v2 X Y Z) (u : Value) : Mk S w0 (w.setCell ⟨g, 2, none⟩ u) B g a0 a1 u v1 vr v2 X Y Z := by
  obtain ⟨us, h1, h2, h3⟩ := h.rows
  exact ⟨(tri_set u h.box).2.2, res_set h.res, h.below.setCell h.ge _, h.ge, h.le, ⟨us, h1, own_set h2 h.box (by decide) _, fun j u hj => ⟨own_set (h3 j u hj).1 h.box (by decide) _, (h3 j u hj).2⟩⟩, own_set h.ints h.box (by decide) _, own_set h.bools h.box (by decide) _, h.intsO, h.lt⟩
/-- A row more, with nothing in it. -/
theorem Mk.appR (h : Mk S w0 w B g a0 a1 a2 v1 vr v2 X Y Z) (h1 : us.length = X.length) (h2 : w.ownsRow w0.heap.size 25 1 v1 X.length us) (h3 : ∀ (j : Nat) (u : Value), us[j]? = some u → OwnI w B u (rowAt X j) ∧ Out S u)
    (ha : w1.ownsRow w0.heap.size 25 1 v' (X.length + 1) (us ++ [.slice none 0 0])) (hg : (w.alloc o).grownBy w1 v1.ownBlock) : Mk S w0 w1 B g a0 a1 a2 v' vr v2 (X ++ [[]]) Y Z := by
  have hz := h.below.size
  have hbox := (Array.getElem?_eq_some_iff.1 h.box).1
  have hres := (Array.getElem?_eq_some_iff.1 h.res).1
  have h2a := World.ownsRow.alloc h2 o
  have key : ∀ {t s n : Nat} {b : Nat} {x : Value} {xs : List Value}, w.ownsRow b t s x n xs → t ≠ 25 → w1.ownsRow b t s x n xs := fun hx ht =>
    World.ownsRow.kept (World.ownsRow.alloc hx o) hg (apart_none (apart_type (World.ownsRow.alloc hx o) h2a ht))
  refine ⟨?_, ?_, ?_, h.ge, h.le, ⟨us ++ [.slice none 0 0], by simp [h1], by rw [List.length_append]; exact ha, fun j u hj => ?_⟩, key h.ints (by decide), key h.bools (by decide), h.intsO, h.lt⟩
  · rw [hg.block g (by simp; omega) (fun e => own_not h2 h.box (by decide) e.symm), heap_alloc_old _ _ hbox]; exact h.box
  · rw [hg.block (g+1) (by simp; omega) (fun e => own_not h2 h.res (by decide) e.symm), heap_alloc_old _ _ hres]; exact h.res
  · exact (h.below.alloc (by omega) o).grown hg (by simp; omega) fun k hk => (World.ownsRow.lt h2 k hk).1
  · unfold rowAt
    by_cases hjl : j < us.length
    · rw [List.getElem?_append_left hjl] at hj
      rw [List.getElem?_append_left (by omega)]
      exact ⟨key (h3 j u hj).1 (by decide), (h3 j u hj).2⟩
    · rw [List.getElem?_append_right (by omega)] at hj
      have hj0 : j - us.length = 0 := by
        have := (List.getElem?_eq_some_iff.1 hj).1
        simp at this; omega
      rw [hj0] at hj
      have hxu : Value.slice none 0 0 = u := by simpa using hj
      subst hxu
      rw [List.getElem?_append_right (by omega), show j - X.length = 0 by omega]
      exact ⟨OwnI.nil _ _, out_nil⟩
/-- A node more that is here. -/
theorem Mk.appB (h : Mk S w0 w B g a0 a1 a2 v1 vr v2 X Y Z) (ha : OwnB w1 w0.heap.size v' (Z ++ [true])) (hg : (w.alloc o).grownBy w1 v2.ownBlock) : Mk S w0 w1 B g a0 a1 a2 v1 vr v' X Y (Z ++ [true]) := by
  have hz := h.below.size
  have hbox := (Array.getElem?_eq_some_iff.1 h.box).1
  have hres := (Array.getElem?_eq_some_iff.1 h.res).1
  have h2 : w.ownsRow w0.heap.size 4 1 v2 Z.length (Z.map Value.bool) := h.bools
  have h2a := World.ownsRow.alloc h2 o
  have key : ∀ {t s n : Nat} {b : Nat} {x : Value} {xs : List Value}, w.ownsRow b t s x n xs → t ≠ 4 → w1.ownsRow b t s x n xs := fun hx ht =>
    World.ownsRow.kept (World.ownsRow.alloc hx o) hg (apart_none (apart_type (World.ownsRow.alloc hx o) h2a ht))
  obtain ⟨us, r1, r2, r3⟩ := h.rows
  refine ⟨?_, ?_, ?_, h.ge, h.le, ⟨us, r1, key r2 (by decide), fun j u hj => ⟨key (r3 j u hj).1 (by decide), (r3 j u hj).2⟩⟩, key h.ints (by decide), ha, h.intsO, h.lt⟩
  · rw [hg.block g (by simp; omega) (fun e => own_not h2 h.box (by decide) e.symm), heap_alloc_old _ _ hbox]; exact h.box
  · rw [hg.block (g+1) (by simp; omega) (fun e => own_not h2 h.res (by decide) e.symm), heap_alloc_old _ _ hres]; exact h.res
  · exact (h.below.alloc (by omega) o).grown hg (by simp; omega) fun k hk => (World.ownsRow.lt h2 k hk).1
theorem Mk.ownK (h : Mk S w0 w B g a0 a1 a2 v1 vr v2 X Y Z) : OwnK S w B v1 vr v2 ⟨X, Y, Z⟩ := by
  obtain ⟨us, h1, h2, h3⟩ := h.rows
  exact ⟨⟨us, h1, ownsRow_mono h2 h.le, Out.new h2 h.lt, h3⟩, h.ints, ownB_mono h.bools h.le, h.intsO, Out.new h.bools h.lt⟩
theorem Mk.hS (h : Mk S w0 w B g a0 a1 a2 v1 vr v2 X Y Z) : ∀ k, S k → k < w.heap.size := fun k hk => Nat.lt_of_lt_of_le (h.lt k hk) h.below.size
theorem Mk.hB (h : Mk S w0 w B g a0 a1 a2 v1 vr v2 X Y Z) : B ≤ w.heap.size := Nat.le_trans h.le h.below.size
end
end Go.Proofs.YtmibnceadciidaaDoor

/- Results of a function, the first of which lies in a block: plain laws. -/
namespace Go.Proofs.YtmibnceadciidaaDoor
open Go.RowKit Go.Sort

theorem results_cell2_row {P : Program} {fn : Func} {p u v : Tmp} {ty : TypeId} (h : fn.results = #[.cell p ty, .tmp u, .tmp v]) (tmps : Array Value) (w : World) (g : Nat) (t : TypeId) (cs : Array Value) (fr : Nat × Nat) (d : TypeDesc)
    (hp : tmps.getD p undef = .pointer (some ⟨g, 0, none⟩)) (hg : w.heap[g]? = some (.cells cs t fr))
    (hu : P.underlying ty = some d) (hd : (match d with | .struct _ | .array _ _ => true | _ => false) = true) (hi : (P.info? ty).map (·.size) = some cs.size) :
    (results fn tmps).run P w = .ok (.tuple #[.agg cs, tmps.getD u undef, tmps.getD v undef]) w := by
  have hp' : tmps[p]?.getD undef = .pointer (some ⟨g, 0, none⟩) := by simpa using hp
  simp [results, h, hp', asAddr, run_loadVar_row w g t ty cs fr d hg hu hd hi]
theorem results_cell1_row {P : Program} {fn : Func} {p u : Tmp} {ty : TypeId} (h : fn.results = #[.cell p ty, .tmp u]) (tmps : Array Value) (w : World) (g : Nat) (t : TypeId) (cs : Array Value) (fr : Nat × Nat) (d : TypeDesc)
    (hp : tmps.getD p undef = .pointer (some ⟨g, 0, none⟩)) (hg : w.heap[g]? = some (.cells cs t fr))
    (hu : P.underlying ty = some d) (hd : (match d with | .struct _ | .array _ _ => true | _ => false) = true) (hi : (P.info? ty).map (·.size) = some cs.size) :
    (results fn tmps).run P w = .ok (.tuple #[.agg cs, tmps.getD u undef]) w := by
  have hp' : tmps[p]?.getD undef = .pointer (some ⟨g, 0, none⟩) := by simpa using hp
  simp [results, h, hp', asAddr, run_loadVar_row w g t ty cs fr d hg hu hd hi]
end Go.Proofs.YtmibnceadciidaaDoor

/- The walk of the document's Do (larderwickref2), where a node is made. -/
namespace Go.Proofs.YtmibnceadciidaaDoor
set_option maxRecDepth 100000
open Go.ChangeShapes Go.WideShapes Go.ChangeAt Go.RowKit Go.Sort Go.Maps

/-- What Do answers. -/
def DoIs (S : Nat → Prop) (w : World) (B : Nat) (c : KS) (kind i j : Int) (e : Ending) (w' : World) : Prop :=
  ∃ vo' vr' vh', e = .returned (.tuple #[.agg #[vo', vr', vh'], .int .i64 (((c.doK kind i j).2.1 : Nat) : Int), .int .i64 (((c.doK kind i j).2.2 : Nat) : Int)]) ∧ OwnK S w' B vo' vr' vh' (c.doK kind i j).1 ∧ Below w.heap.size w w'
set_option maxHeartbeats 4000000 in
theorem rdo_make {S : Nat → Prop} (c : KS) (i j : Int) (vo vr vh : Value) (B : Nat) (w : World) (h : OwnK S w B vo vr vh c) (hc : KGood c) (hB : B ≤ w.heap.size) (hS : ∀ k, S k → k < w.heap.size) :
    Calls Tryd.prog 6 #[.agg #[vo, vr, vh], .int .i64 0, .int .i64 i, .int .i64 j] w (DoIs S w B c 0 i j) := by
  obtain ⟨ao, co, ar, cr, ah, ch, rfl, rfl, rfl, hco, hcr, hch⟩ := h.isK.forms
  have HB : Hid (KB2 S w ((w.alloc (.cells #[.slice ao c.outs.length co, .slice ar c.roots.length cr, .slice ah c.here.length ch] 28)).alloc (.cells #[.slice none 0 0, .slice none 0 0, .slice none 0 0] 28)) B w.heap.size (.slice ao c.outs.length co) (.slice ar c.roots.length cr) (.slice ah c.here.length ch) c) := KB2.new h hB hS
  have HC : Hid (KGood c) := hc
  have HOK : Hid _ := h
  clear h hc hS
  by_cases h12 : 12 ≤ c.here.length ∨ 12 ≤ c.roots.length
  · have HD : Hid (c.doK 0 i j = (c, 0, 4)) := by
      unfold Hid KS.doK
      rw [if_pos rfl, if_pos h12]
    have HEND := k_fresh HOK.out (.cells #[.slice ao c.outs.length co, .slice ar c.roots.length cr, .slice ah c.here.length ch] 28)
    by_cases hh : 12 ≤ c.here.length
    · have hh' : (12 : Int) ≤ (c.here.length : Int) := by omega
      clear h12
      go_enter Tryd.func6, Tryd.ntmps6
      go_wp2
      refine bodyPost_ret_by (results_cell2_row Tryd.results6 _ _ (w.heap.size + 1) 28 _ (0, 0) _ rfl HEND.1 Tryd.underlying28 rfl (by kernel_rfl)) rfl ?_
      unfold DoIs
      rw [HD.out]
      exact ⟨_, _, _, rfl, HEND.2.1, HEND.2.2⟩
    · have hr : 12 ≤ c.roots.length := by omega
      have hh' : ¬ (12 : Int) ≤ (c.here.length : Int) := by omega
      have hr' : (12 : Int) ≤ (c.roots.length : Int) := by omega
      clear h12
      go_enter Tryd.func6, Tryd.ntmps6
      go_wp2
      refine bodyPost_ret_by (results_cell2_row Tryd.results6 _ _ (w.heap.size + 1) 28 _ (0, 0) _ rfl HEND.1 Tryd.underlying28 rfl (by kernel_rfl)) rfl ?_
      unfold DoIs
      rw [HD.out]
      exact ⟨_, _, _, rfl, HEND.2.1, HEND.2.2⟩
  · obtain ⟨hh, hr⟩ : ¬ 12 ≤ c.here.length ∧ ¬ 12 ≤ c.roots.length := ⟨fun e => h12 (.inl e), fun e => h12 (.inr e)⟩
    have hh' : ¬ (12 : Int) ≤ (c.here.length : Int) := by omega
    have hr' : ¬ (12 : Int) ≤ (c.roots.length : Int) := by omega
    have HD : Hid (c.doK 0 i j = (⟨c.outs ++ [[]], c.roots ++ [(c.here.length : Int)], c.here ++ [true]⟩, c.here.length, 0)) := by
      unfold Hid KS.doK
      rw [if_pos rfl, if_neg h12]
    clear h12
    obtain ⟨us, hu1, hu2, _, hu3⟩ := HB.out.kb.own.rows
    have HU1 : Hid (us.length = c.outs.length) := hu1
    have HU3 : Hid (∀ j u, us[j]? = some u → OwnI _ B u (rowAt c.outs j)) := fun j u hj => (hu3 j u hj).1
    have HU4 : Hid (∀ (j : Nat) u, us[j]? = some u → Out S u) := fun j u hj => (hu3 j u hj).2
    have HS : Hid _ := hu2
    have HLO : Hid (us.length ≤ 1000 ∧ c.here.length ≤ 1000 ∧ c.roots.length ≤ 1000) := by unfold Hid; have := HC.out.mid.outs12; omega
    clear hu1 hu2 hu3
    obtain ⟨i0, hi, hz0, hz1, hz2⟩ := info_parts info_row
    have HI : Hid (Tryd.prog.info? 25 = some i0 ∧ i0.zero = some (.slice none 0 0) ∧ i0.size = 1 ∧ i0.bytes = 24) := ⟨hi, hz0, hz1, hz2⟩
    clear hi hz0 hz1 hz2
    obtain ⟨i1, hi, hz0, hz1, hz2⟩ := info_parts Tryd.infoB
    have HI1 : Hid (Tryd.prog.info? 4 = some i1 ∧ i1.zero = some (.bool false) ∧ i1.size = 1 ∧ i1.bytes = 1) := ⟨hi, hz0, hz1, hz2⟩
    clear hi hz0 hz1 hz2
    go_enter Tryd.func6, Tryd.ntmps6
    go_wp2_with (first | (go_at_call 19; fail) | (at_builtin; go_must (first
      | (refine append_rows rfl _ _ rfl B _ us rfl rfl c.outs.length HU1.out HS.out (rows_one HU3.out) HLO.out.1 ?_; intro v1 w1 ho1 hb1; have HK1 : Hid _ := HB.out.later hb1; have HO1 : Hid (w1.ownsRow w.heap.size 25 1 v1 c.outs.length us) := ownsRow_mono ho1 HB.out.kb.below.size; have HV1 : Hid (∀ (j : Nat) (u : Value), us[j]? = some u → OwnI w1 B u (rowAt c.outs j)) := fun j u hj => (HU3.out j u hj).later hb1; clear ho1 hb1; obtain ⟨hx0, hx1, hx2, hf0, hf1, hf2⟩ := HK1.out.cells)
      | (refine append_bools rfl _ _ rfl B _ c.here rfl rfl HK1.out.kb.own.bools HLO.out.2.1 ?_; intro v2 w2 ho2 hb2; have HK2 : Hid _ := HK1.out.later hb2; have HM2 : Hid (Mk S w w2 B w.heap.size _ _ _ v1 _ v2 c.outs c.roots c.here) := ⟨HK2.out.kb.box, HK2.out.res, HK2.out.kb.below, HK2.out.kb.ge, HK2.out.kb.le, ⟨us, HU1.out, ownsRow_below HO1.out hb2, fun j u hj => ⟨OwnI.later (HV1.out j u hj) hb2, HU4.out j u hj⟩⟩, HK2.out.kb.own.ints, ownB_mono ho2 HK1.out.kb.below.size, HK2.out.kb.own.intsO, HK2.out.kb.lt⟩; (obtain ⟨a2, c2, rfl⟩ := OwnB.form ho2); clear ho2 hb2; (obtain ⟨us2, q1, q2, q3⟩ := HM2.out.rows); have HQ1 : Hid _ := q1; have HQ2 : Hid _ := q2; have HQ3 : Hid _ := q3; clear q1 q2 q3; obtain ⟨hy0, hy1, hy2, hg0, hg1, hg2⟩ := HM2.out.cells)
      | (refine wpList_append_own _ rfl _ _ 22 rfl w.heap.size 25 i0 (.slice none 0 0) 1 24 Tryd.underlying22 HI.out.1 HI.out.2.1 HI.out.2.2.1 HI.out.2.2.2 rfl (by decide) v1 c.outs.length us2 rfl (World.ownsRow.alloc HQ2.out _) ⟨w2.heap.size, 0, none⟩ 1 1 [.slice none 0 0] rfl rfl (new_one _ _ _) (by intro u hu; have : u = .slice none 0 0 := (by simpa using hu); subst this; rfl) (by unfold maxLen; have := HLO.out; have := HU1.out; omega) (by have := HLO.out; have := HU1.out; omega) (by have := HM2.out.below.size; rw [World.size_alloc]; omega) ?_; intro v3 w3 hown3 hgrow _; have HM3 : Hid _ := HM2.out.appR HQ1.out HQ2.out HQ3.out hown3 hgrow; (obtain ⟨g3, c3, rfl, _, _, _⟩ := own_some hown3 (by omega)); clear hown3 hgrow; obtain ⟨hz0, hz1, hz2, hh0, hh1, hh2⟩ := HM3.out.cells; have HM4 : Hid _ := HM3.out.set0 (.slice (some ⟨g3, 0, none⟩) (c.outs.length + 1) c3); have HSZ : Hid ((w3.setCell ⟨w.heap.size, 0, none⟩ (.slice (some ⟨g3, 0, none⟩) (c.outs.length + 1) c3)).heap.size = w3.heap.size) := (by unfold Hid; simp [World.setCell]); have HN : Hid (∀ j u, [Value.bool true][j]? = some u → ((w3.setCell ⟨w.heap.size, 0, none⟩ (.slice (some ⟨g3, 0, none⟩) (c.outs.length + 1) c3)).alloc (.cells #[.bool true] 4)).cell? (Addr.add ⟨w3.heap.size, 0, none⟩ j) = some u) := (by have := new_one (w3.setCell ⟨w.heap.size, 0, none⟩ (.slice (some ⟨g3, 0, none⟩) (c.outs.length + 1) c3)) (.bool true) 4; rw [HSZ.out] at this; exact this); obtain ⟨hp0, hp1, hp2, hq0, hq1, hq2⟩ := HM4.out.cells)
      | (refine wpList_append_own _ rfl _ _ 26 rfl w.heap.size 4 i1 (.bool false) 1 1 Tryd.underlying26 HI1.out.1 HI1.out.2.1 HI1.out.2.2.1 HI1.out.2.2.2 rfl (by decide) (.slice a2 c.here.length c2) c.here.length (c.here.map Value.bool) rfl (World.ownsRow.alloc HM4.out.bools _) ⟨w3.heap.size, 0, none⟩ 1 1 [.bool true] rfl rfl HN.out (one_cellB true) (by unfold maxLen; have := HLO.out; omega) (by have := HLO.out; omega) (by have := HM4.out.below.size; rw [World.size_alloc]; omega) ?_; intro v5 w5 hown5 hgrow _; have HO5 : Hid (OwnB w5 w.heap.size v5 (c.here ++ [true])) := (by unfold Hid OwnB; rw [List.length_append, List.map_append]; exact hown5); have HM5 : Hid _ := HM4.out.appB HO5.out hgrow; (obtain ⟨g5, c5, rfl, _, _, _⟩ := own_some hown5 (by omega)); clear hown5 hgrow; obtain ⟨hr0, hr1, hr2, hs0, hs1, hs2⟩ := HM5.out.cells; have HM6 : Hid _ := HM5.out.set2 (.slice (some ⟨g5, 0, none⟩) (c.here.length + 1) c5); obtain ⟨ht0, ht1, ht2, hu0, hu1, hu2⟩ := HM6.out.cells))))
    refine (rput_any _ c.roots c.roots.length (c.here.length : Int) _ B HM6.out.ints (Nat.le_refl _) HLO.out.2.2).mono ?_
    rintro e w7 ⟨v7, rfl, h7, hb7⟩
    rw [List.take_length, List.drop_length] at h7
    obtain ⟨a7, c7, hf7⟩ := OwnI.form h7
    rw [List.length_append, List.length_singleton] at hf7
    subst hf7
    have HM7 : Hid _ := HM6.out.later hb7
    have H7 : Hid (OwnI w7 B (.slice a7 (c.roots.length + 1) c7) (c.roots ++ [(c.here.length : Int)])) := ownI_mono h7 HM6.out.hB
    have H7O : Hid (Out S (.slice a7 (c.roots.length + 1) c7)) := Out.new h7 HM6.out.hS
    clear h7 hb7 ht0 ht1 ht2 hu0 hu1 hu2
    obtain ⟨ht0, ht1, ht2, hu0, hu1, hu2⟩ := HM7.out.cells
    have HM8 : Hid _ := HM7.out.set1 (.slice a7 (c.roots.length + 1) c7)
    have H8 : Hid (OwnI (w7.setCell ⟨w.heap.size, 1, none⟩ (.slice a7 (c.roots.length + 1) c7)) B (.slice a7 (c.roots.length + 1) c7) (c.roots ++ [(c.here.length : Int)])) := own_set H7.out HM7.out.box (by decide) _
    obtain ⟨hv0, hv1, hv2, hw0, hw1, hw2⟩ := HM8.out.cells
    obtain ⟨hx0, hx1, hx2, hy0, hy1, hy2⟩ := tri_cells HM8.out.res
    have HEND := k_end (w0 := w) (c := ⟨c.outs ++ [[]], c.roots ++ [(c.here.length : Int)], c.here ++ [true]⟩) HM8.out.res ⟨HM8.out.ownK.rows, H8.out, HM8.out.ownK.bools, H7O.out, HM8.out.ownK.boolsO⟩ (by omega) HM8.out.below
    go_wp2
    refine bodyPost_ret_by (results_cell2_row Tryd.results6 _ _ (w.heap.size + 1) 28 _ (0, 0) _ rfl HEND.1 Tryd.underlying28 rfl (by kernel_rfl)) rfl ?_
    unfold DoIs
    rw [HD.out]
    exact ⟨_, _, _, rfl, HEND.2.1, HEND.2.2⟩
end Go.Proofs.YtmibnceadciidaaDoor
