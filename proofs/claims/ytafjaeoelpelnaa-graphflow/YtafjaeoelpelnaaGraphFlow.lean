/- GraphFlow is proved: of whatever heap and root, in whatever memory and on every schedule, it returns true and leaves its arguments as they were: roots are come to, and what is pointed to from there, too; with one root more just what either comes to. No condition. -/
import Derived.Test.YtafjaeoelpelnaaGFact
import Derived.Test.YtafjaeoelpelnaaRBit
import Derived.Test.YtafjaeoelpelnaaInRange
import Derived.Test.YtafjaeoelpelnaaArgHeap
import Derived.Test.YtafjaeoelpelnaaStepL
namespace Go.Proofs.Ytafjaeoelpelnaa
set_option maxRecDepth 100000
open Go.ChangeShapes Go.WideShapes Go.ChangeAt Go.RowKit Go.Sort

/-- The error of a heap with one root more. -/
theorem more_err {L : List (List Int)} {R : List Int} {r : Int} (hf : FineH L R) (h : chkH L (R ++ [r]) ≠ 0) : R.length = 12 ∨ ¬ (0 ≤ r ∧ r ≤ (L.length : Int) - 1) := by
  refine Classical.byContradiction fun hno => h (chkH_zero.2 (hf.with ?_ ?_))
  · have := hf.roots
    rw [List.length_append, List.length_singleton]
    have : R.length ≠ 12 := fun e => hno (.inl e)
    omega
  · intro x hx
    rcases List.mem_append.1 hx with hx | hx
    · exact hf.root x hx
    · rw [List.mem_singleton] at hx
      subst hx
      have : 0 ≤ x ∧ x ≤ (L.length : Int) - 1 := Classical.byContradiction fun hc => hno (.inr hc)
      omega
theorem one_fine {L : List (List Int)} {R : List Int} {r : Int} (hf : FineH L (R ++ [r])) : FineH L [r] :=
  hf.with (by simp) fun x hx => hf.root x (List.mem_append_right _ hx)
theorem comes_root {L : List (List Int)} {R : List Int} {m : Nat} (hf : FineH L R) (hm : Comes L R m) {x : Nat} (hx : (x : Int) ∈ R) : m.testBit x = true := by
  have := hf.root _ hx; have := hf.few
  exact (hm.2 x (by omega)).2 (.root hx)
theorem comes_step {L : List (List Int)} {R : List Int} {m : Nat} (hf : FineH L R) (hm : Comes L R m) {i y : Nat} (hi : i < L.length) (hb : m.testBit i = true) (hy : (y : Int) ∈ rowAt L i) : m.testBit y = true := by
  have hl := hf.few
  have := hf.node _ (rowAt_mem hi) _ hy
  refine (hm.2 y (by omega)).2 (.step ((hm.2 i (by omega)).1 hb) ?_)
  rw [gOf_at]; exact hy
theorem comes_both {L : List (List Int)} {R : List Int} {r : Int} {m n k : Nat} (hm : Comes L (R ++ [r]) m) (hn : Comes L R n) (hk : Comes L [r] k) {i : Nat} (hi : i < 16) : m.testBit i = (n.testBit i || k.testBit i) := by
  rw [Bool.eq_iff_iff, Bool.or_eq_true, hm.2 i hi, hn.2 i hi, hk.2 i hi]
  exact come_append
set_option maxHeartbeats 4000000 in
theorem gflow_any (v : Value) (L : List (List Int)) (R : List Int) (r : Int) (w : World) (hv : IsHeap w v L R) (hcame : CameH w v R) :
    Calls Try.prog 3 #[v, .int .i64 r] w fun e w' => e = .returned (.bool true) ∧ Below w.heap.size w w' := by
  obtain ⟨ao, co, ar, cr, rfl, h1, h2⟩ := hv.form
  have hC0 : Came w (.slice ar R.length cr) R := by
    obtain ⟨vo, vr, e, h⟩ := hcame
    simp only [Value.agg.injEq, Array.mk.injEq, List.cons.injEq, and_true] at e
    obtain ⟨_, rfl⟩ := e
    exact h
  have HBX : Hid (Boxed w (w.alloc (.cells #[.slice ao L.length co, .slice ar R.length cr] 25)) w.heap.size ao co ar cr L R) := boxed h1 h2 _
  have HC : Hid (Came w (.slice ar R.length cr) R) := hC0
  clear hv h1 h2 hcame hC0
  go_enter Try.func3, Try.ntmps3
  go_wp2_with (go_at_call 5; fail)
  generalize w.alloc (.cells #[.slice ao L.length co, .slice ar R.length cr] 25) = W at *
  refine (graphfact_any _).mono ?_
  rintro e w1 ⟨rfl, hb1⟩
  have HB1 : Hid (Boxed w w1 w.heap.size ao co ar cr L R) := HBX.out.later hb1
  clear HBX hb1
  have hd0 : w1.cell? ⟨w.heap.size, 0, none⟩ = some (.slice ao L.length co) := HB1.out.outs
  have hd1 : w1.cell? ⟨w.heap.size, 1, none⟩ = some (.slice ar R.length cr) := HB1.out.roots
  go_wp2_with (go_at_call 6; fail)
  refine (reach_any _ L R _ HB1.out.isHeap).mono ?_
  rintro e w2 ⟨⟨n, rfl, hn⟩, hb2⟩
  have HB2 : Hid (Boxed w w2 w.heap.size ao co ar cr L R) := HB1.out.later hb2
  clear hd0 hd1 HB1 hb2
  by_cases h0 : chkH L R = 0
  · have HF : Hid (FineH L R) := chkH_zero.1 h0
    have hl12 := HF.out.few
    have hr12 := HF.out.roots
    unfold ReachIs at hn
    rw [if_pos h0] at hn
    have HN : Hid (Comes L R n) := hn
    have hn16 : n < 65536 := hn.1
    rw [h0, show errV 0 = .nilIface from rfl]
    clear hn h0
    have hd0 : w2.cell? ⟨w.heap.size, 0, none⟩ = some (.slice ao L.length co) := HB2.out.outs
    have hd1 : w2.cell? ⟨w.heap.size, 1, none⟩ = some (.slice ar R.length cr) := HB2.out.roots
    have hcO := HB2.out.capO
    have hcR := HB2.out.capR
    have hRo := HB2.out.ints.opened
    obtain ⟨_, _, ee, _, hRo⟩ := hRo
    simp only [Value.slice.injEq] at ee
    obtain ⟨rfl, _, rfl⟩ := ee
    have HRO : Hid (∀ k, k < R.length → ∃ b off, ar = some ⟨b, off, none⟩ ∧ R.length ≤ cr ∧ b < w2.heap.size ∧ ∀ j, j < R.length → w2.cell? ⟨b, off + j, none⟩ = some (.int .i64 (R[j]?.getD 0))) := hRo
    clear hRo
    obtain ⟨i0, hi, hz0, hz1, hz2⟩ := info_parts Try.info3
    have HI : Hid (Try.prog.info? 3 = some i0 ∧ i0.zero = some (.int .i64 0) ∧ i0.size = 1 ∧ i0.bytes = 8) := ⟨hi, hz0, hz1, hz2⟩
    have HC2 : Hid (Came w2 (.slice ar R.length cr) R) := HC.out.below HB2.out.below
    clear hi hz0 hz1 hz2
    go_wp2
    go_loop [8] (fun i => ∃ k : Nat, k ≤ R.length ∧ i = .int .i64 (k : Nat)) (fun i => R.length - (intOf i).toNat)
    case atStart => exact ⟨0, Nat.zero_le _, rfl⟩
    case round =>
      obtain ⟨k, hk, rfl⟩ := hrel
      by_cases hlt : k < R.length
      · have hlt' : (k : Int) < (R.length : Int) := by omega
        obtain ⟨b, off, rfl, hlc, hbs, hcell⟩ := HRO.out k hlt
        have hck := hcell k hlt
        have hxm : R[k]?.getD 0 ∈ R := by rw [List.getElem?_eq_getElem hlt]; exact List.getElem_mem _
        have hxr := HF.out.root _ hxm
        obtain ⟨x, hx⟩ : ∃ x : Nat, R[k]?.getD 0 = x := ⟨(R[k]?.getD 0).toNat, by omega⟩
        rw [hx] at hck hxm hxr
        have HBT : Hid (n.testBit x = true) := comes_root HF.out HN.out hxm
        clear hcell hx hxm hbs
        go_wp2_with (go_at_call 7; go_must (refine (rbit_any n x hn16 (by omega) _).mono ?_; rintro e w' ⟨rfl, hw⟩; have hw := hw.symm; subst hw; rw [HBT.out]))
        go_round
        case rel => exact ⟨k + 1, by omega, by go_num⟩
        case measure => simp [intOf]; omega
      · have hlt' : ¬ (k : Int) < (R.length : Int) := by omega
        clear HRO
        go_wp2
        go_loop [9] (fun i => ∃ k : Nat, k ≤ L.length ∧ i = .int .i64 (k : Nat)) (fun i => L.length - (intOf i).toNat)
        case atStart => exact ⟨0, Nat.zero_le _, rfl⟩
        case round =>
          obtain ⟨i, hi, rfl⟩ := hrel
          by_cases hit : i < L.length
          · have hit' : (i : Int) < (L.length : Int) := by omega
            obtain ⟨bo, oo, rfl, hlco, hbso, au, cu, hcu, hiu, hmm, hcum⟩ := HB2.out.rows.at hit
            obtain ⟨_, _, eu, _, hUo⟩ := hiu.opened
            simp only [Value.slice.injEq] at eu
            obtain ⟨rfl, _, rfl⟩ := eu
            have HUO : Hid (∀ k, k < (rowAt L i).length → ∃ b off, au = some ⟨b, off, none⟩ ∧ (rowAt L i).length ≤ cu ∧ b < w2.heap.size ∧ ∀ j, j < (rowAt L i).length → w2.cell? ⟨b, off + j, none⟩ = some (.int .i64 ((rowAt L i)[j]?.getD 0))) := hUo
            have hr4 := HF.out.outs _ (rowAt_mem hit)
            clear hiu hUo hbso
            cases hb : n.testBit i with
            | true =>
              have HBT : Hid (n.testBit i = true) := hb
              clear hb
              go_wp2
              go_loop [10] (fun j => ∃ k : Nat, k ≤ (rowAt L i).length ∧ j = .int .i64 (k : Nat)) (fun j => (rowAt L i).length - (intOf j).toNat)
              case atStart => exact ⟨0, Nat.zero_le _, rfl⟩
              case round =>
                obtain ⟨j, hj, rfl⟩ := hrel
                by_cases hjt : j < (rowAt L i).length
                · have hjt' : (j : Int) < ((rowAt L i).length : Int) := by omega
                  obtain ⟨b, off, rfl, hlc, hbs, hcell⟩ := HUO.out j hjt
                  have hck := hcell j hjt
                  have hxm : (rowAt L i)[j]?.getD 0 ∈ rowAt L i := by rw [List.getElem?_eq_getElem hjt]; exact List.getElem_mem _
                  have hxr := HF.out.node _ (rowAt_mem hit) _ hxm
                  obtain ⟨x, hx⟩ : ∃ x : Nat, (rowAt L i)[j]?.getD 0 = x := ⟨((rowAt L i)[j]?.getD 0).toNat, by omega⟩
                  rw [hx] at hck hxm hxr
                  have HBX : Hid (n.testBit x = true) := comes_step HF.out HN.out hit HBT.out hxm
                  have hne : x = i ∨ x ≠ i := by omega
                  clear hcell hx hxm hbs
                  go_wp2_with (first | (go_at_call_of 7 (Value.int .i64 (i : Int)); go_must (refine (rbit_any n i hn16 (by omega) _).mono ?_; rintro e w' ⟨rfl, hw⟩; have hw := hw.symm; subst hw; rw [HBT.out])) | (go_at_call_of 7 (Value.int .i64 (x : Int)); go_must (refine (rbit_any n x hn16 (by omega) _).mono ?_; rintro e w' ⟨rfl, hw⟩; have hw := hw.symm; subst hw; rw [HBX.out])))
                  go_round
                  case rel => exact ⟨j + 1, by omega, by go_num⟩
                  case measure => simp [intOf]; omega
                · have hjt' : ¬ (j : Int) < ((rowAt L i).length : Int) := by omega
                  go_wp2
                  go_round
                  case rel => exact ⟨i + 1, by omega, by go_num⟩
                  case measure => simp [intOf]; omega
            | false =>
              have HBT : Hid (n.testBit i = false) := hb
              clear hb
              go_wp2
              go_loop [10] (fun j => j = .int .i64 0) (fun _ => 0)
              case atStart => rfl
              case round =>
                obtain rfl := hrel
                by_cases hz : 0 < (rowAt L i).length
                · have hz' : (0 : Int) < ((rowAt L i).length : Int) := by omega
                  go_wp2_with (go_at_call 7; go_must (refine (rbit_any n i hn16 (by omega) _).mono ?_; rintro e w' ⟨rfl, hw⟩; have hw := hw.symm; subst hw; rw [HBT.out]))
                  go_round
                  case rel => exact ⟨i + 1, by omega, by go_num⟩
                  case measure => simp [intOf]; omega
                · have hz' : ¬ (0 : Int) < ((rowAt L i).length : Int) := by omega
                  go_wp2
                  go_round
                  case rel => exact ⟨i + 1, by omega, by go_num⟩
                  case measure => simp [intOf]; omega
          · have hit' : ¬ (i : Int) < (L.length : Int) := by omega
            go_wp2_with (at_builtin; go_must (refine append_came rfl _ _ rfl w2.heap.size (.slice none 0 0) (.slice ar R.length cr) [] R rfl rfl (OwnI.nil _ _) HC2.out (Nat.le_refl _) (by simp; omega) ?_; intro v3 w3 hO3 hg3))
            have HO3 : Hid (OwnI w3 w2.heap.size v3 R) := by rw [List.nil_append] at hO3; exact hO3
            have HB3 : Hid (Below w2.heap.size w2 w3) := (Below.refl _ _).grown hg3 (Nat.le_refl _) (fun k hk => by cases hk)
            clear hO3 hg3 hd0 hd1 HC2
            have hs3 := HB3.out.size
            have HD0 : Hid (w3.cell? ⟨w.heap.size, 0, none⟩ = some (.slice ao L.length co)) := (HB2.out.later HB3.out).outs
            have hd0 : w3.cell? ⟨w.heap.size, 0, none⟩ = some (.slice ao L.length co) := HD0.out
            have hd0d : (w3.alloc (.cells #[.int .i64 r] 3)).drew.cell? ⟨w.heap.size, 0, none⟩ = some (.slice ao L.length co) := (Lib.cell?_alloc_some (.cells #[.int .i64 r] 3) hd0 : (w3.alloc (.cells #[.int .i64 r] 3)).cell? ⟨w.heap.size, 0, none⟩ = some (.slice ao L.length co))
            obtain ⟨a3, c3, rfl⟩ := HO3.out.form
            have HOD : Hid (OwnI w3.drew w2.heap.size (.slice a3 R.length c3) R) := HO3.out
            have HBD : Hid (Below w2.heap.size w2 w3.drew) := HB3.out.drew
            have HRC : Hid (∀ (v4 : Value) W, OwnI W w2.heap.size v4 (R ++ [r]) → Below w2.heap.size w2 W → Calls Try.prog 6 #[.agg #[.slice ao L.length co, v4]] W fun e w' => ∃ m : Nat, e = .returned (.tuple #[.int .i64 (m : Nat), errV (chkH L (R ++ [r]))]) ∧ Hid (ReachIs L (R ++ [r]) m) ∧ Hid (Below w2.heap.size w2 w')) := fun v4 W hO hb => by
              refine (reach_any _ L (R ++ [r]) W ⟨_, v4, rfl, (HB2.out.later hb).rows, hO.isInts⟩).mono ?_
              rintro e w' ⟨⟨m, rfl, hm⟩, hb2⟩
              exact ⟨m, rfl, hm, hb.trans (hb2.mono hb.size)⟩
            go_wp2_with fail
            go_region_law (first
              | (refine step_append_own rfl (.tmp 82) (.tmp 84) 23 rfl w2.heap.size 3 i0 (.int .i64 0) 1 8 Try.underlying23 HI.out.1 HI.out.2.1 HI.out.2.2.1 HI.out.2.2.2 rfl (by decide) (.slice a3 R.length c3) R.length (R.map (Value.int .i64)) (by first | rfl | (simp [Act.eval]; done) | simp [Act.eval, Act.put]) (World.ownsRow.alloc (HO3.out.rows rfl rfl) _) ⟨w3.heap.size, 0, none⟩ 1 1 [.int .i64 r] (by first | rfl | (simp [Act.eval]; done) | simp [Act.eval, Act.put]) rfl (by exact new_one _ _ _) (one_cell _) (by unfold maxLen; omega) (by omega) (by show w2.heap.size ≤ (w3.alloc (.cells #[.int .i64 r] 3)).heap.size; rw [World.size_alloc]; omega) ?_; intro v4 w4 hown' hgrow _; have Rr := own_append HO3.out HB3.out (Nat.le_refl _) hown' ⟨hgrow.1, hgrow.2, hgrow.3, hgrow.4, hgrow.5⟩; have HO4f := OwnI.form Rr.1; obtain ⟨a4, c4, rfl⟩ := HO4f; have HO4 : Hid (OwnI w4 w2.heap.size (.slice a4 (R ++ [r]).length c4) (R ++ [r])) := Rr.1; have HB4 : Hid (Below w2.heap.size w2 w4) := Rr.2; have hd4 : w4.cell? ⟨w.heap.size, 0, none⟩ = some (.slice ao L.length co) := (HB2.out.later Rr.2).outs; clear Rr hown' hgrow)
              | (refine step_call rfl 6 _ _ rfl #[.agg #[.slice ao L.length co, .slice a4 (R ++ [r]).length c4]] (by first | rfl | (simp [Act.eval]; done) | simp [Act.eval, Act.put]) (enters_of Try.func6 (by kernel_rfl) rfl _) (HRC.out _ _ HO4.out HB4.out) ?_; rintro e w5 ⟨m, rfl, HM, HB5⟩; refine ⟨_, rfl, ?_⟩))
            all_goals
              have HB6 : Hid (Boxed w w5 w.heap.size ao co ar cr L R) := HB2.out.later HB5.out
              have hd5 : w5.cell? ⟨w.heap.size, 0, none⟩ = some (.slice ao L.length co) := HB6.out.outs
              have hd6 : w5.cell? ⟨w.heap.size, 1, none⟩ = some (.slice ar R.length cr) := HB6.out.roots
              clear hd0 hd0d hd4 HO4 HB4 HOD HBD HRC HO3 HB3 HB5 hs3 HD0
              by_cases hc : chkH L (R ++ [r]) = 0
              · have HF2 : Hid (FineH L (R ++ [r])) := chkH_zero.1 hc
                have hm := HM.out
                unfold ReachIs at hm
                rw [if_pos hc] at hm
                have HM2 : Hid (Comes L (R ++ [r]) m) := hm
                have hm16 : m < 65536 := hm.1
                have H1 : Hid (chkH L [r] = 0) := chkH_zero.2 (one_fine HF2.out)
                rw [hc, show errV 0 = .nilIface from rfl]
                have HB7 : Hid (Boxed w (w5.alloc (.cells #[.int .i64 r] 3)) w.heap.size ao co ar cr L R) := HB6.out.later ((Below.refl _ _).alloc (Nat.le_refl _) _)
                have HI7 : Hid (IsInts (w5.alloc (.cells #[.int .i64 r] 3)) (.slice (some ⟨w5.heap.size, 0, none⟩) 1 1) [r]) := one_new _ _
                clear hm hc HM HB6
                go_wp2_with (go_at_call 6; fail)
                clear hd5 hd6
                refine (reach_any _ L [r] _ ⟨_, _, rfl, HB7.out.rows, HI7.out⟩).mono ?_
                rintro e w7 ⟨⟨o, rfl, ho⟩, hb7⟩
                rw [H1.out, show errV 0 = .nilIface from rfl]
                unfold ReachIs at ho
                rw [if_pos H1.out] at ho
                have HOC : Hid (Comes L [r] o) := ho
                have ho16 : o < 65536 := ho.1
                have HB8 : Hid (Boxed w w7 w.heap.size ao co ar cr L R) := HB7.out.later hb7
                have hd7 : w7.cell? ⟨w.heap.size, 0, none⟩ = some (.slice ao L.length co) := HB8.out.outs
                clear ho hb7 HB7 HI7
                go_wp2
                go_loop [14] (fun i => ∃ k : Nat, k ≤ L.length ∧ i = .int .i64 (k : Nat)) (fun i => L.length - (intOf i).toNat)
                case atStart => exact ⟨0, Nat.zero_le _, rfl⟩
                case round =>
                  obtain ⟨t, ht, rfl⟩ := hrel
                  by_cases htl : t < L.length
                  · have htl' : (t : Int) < (L.length : Int) := by omega
                    have HBO : Hid (m.testBit t = (n.testBit t || o.testBit t)) := comes_both HM2.out HN.out HOC.out (by omega)
                    have hone : ∀ x, x < 65536 → ∀ W, Calls Try.prog 7 #[.int .i64 (x : Nat), .int .i64 (t : Nat)] W fun e w' => e = .returned (.bool (x.testBit t)) ∧ w' = W := fun x hx W => rbit_any x t hx (by omega) W
                    have HBM : Hid (∀ W, Calls Try.prog 7 #[.int .i64 (m : Nat), .int .i64 (t : Nat)] W fun e w' => e = .returned (.bool (m.testBit t)) ∧ w' = W) := hone m hm16
                    have HBN : Hid (∀ W, Calls Try.prog 7 #[.int .i64 (n : Nat), .int .i64 (t : Nat)] W fun e w' => e = .returned (.bool (n.testBit t)) ∧ w' = W) := hone n hn16
                    have HBQ : Hid (∀ W, Calls Try.prog 7 #[.int .i64 (o : Nat), .int .i64 (t : Nat)] W fun e w' => e = .returned (.bool (o.testBit t)) ∧ w' = W) := hone o ho16
                    clear hone
                    generalize m.testBit t = bm at *
                    generalize n.testBit t = bn at *
                    generalize o.testBit t = bo' at *
                    cases bn with
                    | true =>
                      have hbm : bm = true := by rw [HBO.out]; rfl
                      subst hbm
                      go_wp2_with (first | (go_at_call_of 7 (Value.int .i64 (m : Int)); go_must (refine (HBM.out _).mono ?_; rintro e w' ⟨rfl, hw⟩; have hw := hw.symm; subst hw)) | (go_at_call_of 7 (Value.int .i64 (n : Int)); go_must (refine (HBN.out _).mono ?_; rintro e w' ⟨rfl, hw⟩; have hw := hw.symm; subst hw)))
                      go_round
                      case rel => exact ⟨t + 1, by omega, by go_num⟩
                      case measure => simp [intOf]; omega
                    | false =>
                      have hbm : bm = bo' := by rw [HBO.out]; rfl
                      subst hbm
                      have hbb : (bm != bm) = false := by simp
                      go_wp2_with (first | (go_at_call_of 7 (Value.int .i64 (m : Int)); go_must (refine (HBM.out _).mono ?_; rintro e w' ⟨rfl, hw⟩; have hw := hw.symm; subst hw)) | (go_at_call_of 7 (Value.int .i64 (n : Int)); go_must (refine (HBN.out _).mono ?_; rintro e w' ⟨rfl, hw⟩; have hw := hw.symm; subst hw)) | (go_at_call_of 7 (Value.int .i64 (o : Int)); go_must (refine (HBQ.out _).mono ?_; rintro e w' ⟨rfl, hw⟩; have hw := hw.symm; subst hw)))
                      go_round
                      case rel => exact ⟨t + 1, by omega, by go_num⟩
                      case measure => simp [intOf]; omega
                  · have htl' : ¬ (t : Int) < (L.length : Int) := by omega
                    have HBF : Hid (Below w.heap.size w w7) := HB8.out.below
                    go_wp2
                    go_ret
                    exact ⟨rfl, HBF.out⟩
              · have HMO : Hid (R.length = 12 ∨ ¬ (0 ≤ r ∧ r ≤ (L.length : Int) - 1)) := more_err HF.out hc
                have HBF : Hid (Below w.heap.size w w5) := HB6.out.below
                rw [errV_pos hc]
                clear HM
                by_cases hr12' : R.length = 12
                · have e12 : ((R.length : Int) == 12) = true := by rw [beq_iff_eq]; omega
                  clear hr12'
                  go_wp2
                  go_ret
                  exact ⟨rfl, HBF.out⟩
                · have e12 : ((R.length : Int) == 12) = false := by rw [beq_eq_false_iff_ne]; omega
                  have hin : (decide (0 ≤ r) && decide (r ≤ (L.length : Int) - 1)) = false := by
                    rcases HMO.out with h | h
                    · exact absurd h hr12'
                    · rw [Bool.and_eq_false_iff, decide_eq_false_iff_not, decide_eq_false_iff_not]; omega
                  have HIN : Hid ((decide (0 ≤ r) && decide (r ≤ (L.length : Int) - 1)) = false) := hin
                  have hwr : IntKind.i64.wrap ((L.length : Int) - 1) = (L.length : Int) - 1 := by rw [IntKind.wrap_i64]; omega
                  clear hin hr12' HMO
                  go_wp2_with (go_at_call 8; go_must (refine (in_range r 0 ((L.length : Int) - 1) _).mono ?_; rintro e w' ⟨rfl, hw⟩; have hw := hw.symm; subst hw; rw [HIN.out]))
                  go_ret
                  exact ⟨rfl, HBF.out⟩
  · unfold ReachIs at hn
    rw [if_neg h0] at hn
    subst hn
    rw [errV_pos h0]
    go_wp2
    go_ret
    exact ⟨rfl, HB2.out.below⟩

theorem graphFlow_own : ownKnob Try.prog.godebug = none := by kernel_rfl
theorem graphFlow_laidOut : laidOutB Try.prog = true := by kernel_rfl

set_option maxRecDepth 100000 in
theorem graphFlow_lifted (os : Os) (started : os.Started) (H : Type) (enc : TypeId × Value → H) :
    ReturnsInHanded {} Try.checked os 3 .any (Rows.graphFlowSpec.pre6 enc Try.prog Try.f3 Rows.graphFlowRow.domain false) (Rows.graphFlowSpec.post enc Try.prog Try.f3 false true false false) := by
  refine returnsInHanded_of_change (C := Try.checked) graphFlow_own started (by kernel_rfl) Try.func3
    (ChangeSpec.witness6 (enc := enc) (C := Try.checked) false ⟨#[], #[.agg #[.slice none 0 0, .slice none 0 0], .int .i64 0], []⟩ 8 (by kernel_rfl) (by kernel_rfl) (by kernel_rfl) (by kernel_rfl)) ?_
  intro W base args ds gs before hval0 hW _ _
  have hval : ∀ (j : Nat) t v, Try.f3.params[j]? = some t → args[j]? = some v → Value.okWide Try.prog W .any base t v := hval0
  have hW' : DataW.Whole enc Try.prog Try.f3.params.toList Rows.graphFlowSpec.vars false W args.toList ds gs before := hW
  obtain ⟨p, q, hA0, hV, rfl, hfz, hnd⟩ := hW
  have hA : DataW.TrodAll enc Try.prog W 0 (fun _ => true) true Try.f3.params.toList args.toList ds p := hA0
  rw [Try.params3] at hA hval
  obtain ⟨v0, vs0, d0, ds0, p0, q0, hargs, rfl, rfl, h0, r0⟩ := trodAll_cons hA
  obtain ⟨v1, vs1, d1, ds1, p1, q1, rfl, rfl, rfl, h1, r1⟩ := trodAll_cons r0
  obtain ⟨rfl, rfl, rfl⟩ := trodAll_nil r1
  obtain rfl : args = #[v0, v1] := by cases args; simp_all
  obtain ⟨rfl, rfl⟩ := trodVars_none hV
  obtain ⟨n1, rfl, rfl, rfl, wn1⟩ := open_int Try.underlying3 (hval 1 3 v1 rfl rfl) h1
  obtain ⟨l0, rt0, hl0, hc0⟩ := arg_heap (hval 0 25 v0 rfl rfl) h0
  clear hA0 hval0
  refine (gflow_any v0 l0 rt0 n1 W hl0 hc0).mono fun e W' ⟨he, hb⟩ => ?_
  subst he
  exact ⟨_, rfl, law_post hW' hb graphFlow_laidOut rfl (by kernel_rfl) (by kernel_rfl) Try.underlying4 rfl rfl rfl⟩

theorem graphFlow_holds : Rows.GraphFlowSaid :=
  OpenClaim.holds_of_wide 3 Try.f3 rfl rfl rfl rfl rfl rfl rfl ⟨rfl, rfl, rfl, rfl, rfl⟩ rfl rfl rfl rfl rfl (by kernel_rfl) Try.func3 (by kernel_rfl)
    (of_decide_eq_true (by kernel_rfl)) (by unfold Func.isWrapper; first | (rw [if_pos (by decide +kernel)]; kernel_rfl) | (rw [if_neg (by decide +kernel)]; exact ⟨rfl, rfl⟩))
    (fun os started H enc _ => graphFlow_lifted os started H enc)
end Go.Proofs.Ytafjaeoelpelnaa
