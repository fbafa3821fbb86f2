/- The walk of graph.Rounds. -/
import Derived.Test.YtmibnceadciidaaGReach
namespace Go.Proofs.Ytmibnceadciidaa
set_option maxRecDepth 100000
open Go.RowKit Go.Sort

theorem ghas_is {m i : Nat} (hm : Hid (m < 65536)) (hi : i < 16) (W : World) : Calls Try.prog 31 #[.int .i64 (m : Nat), .int .i64 (i : Nat)] W fun e w' => e = .returned (.bool (m.testBit i)) ∧ w' = W := ghas_any m i hm.out hi W
/-- m has as its bits the nodes that come to themselves. -/
def RingsOf (L : List (List Int)) (m : Nat) : Prop := m < 65536 ∧ ∀ i : Nat, i < 16 → (m.testBit i = true ↔ Ring (gOf L) (i : Int))
/-- What Rounds says. -/
def RoundsIs (L : List (List Int)) (R : List Int) (m : Nat) : Prop := if chkH L R = 0 then RingsOf L m else m = 0
/-- Those of the first k nodes that come to themselves. -/
def Rl (L : List (List Int)) (k : Nat) (l : List Int) : Prop := l.length ≤ k ∧ ∀ x, x ∈ l ↔ 0 ≤ x ∧ x < k ∧ Ring (gOf L) x
theorem rl_yes {L : List (List Int)} {k : Nat} {l : List Int} (h : Rl L k l) (hr : Ring (gOf L) (k : Int)) : Rl L (k+1) (l ++ [(k : Int)]) := by
  refine ⟨by rw [List.length_append]; simp; exact h.1, fun x => ?_⟩
  rw [List.mem_append, h.2, List.mem_singleton]
  constructor
  · rintro (⟨h1, h2, h3⟩ | rfl)
    · exact ⟨h1, by omega, h3⟩
    · exact ⟨by omega, by omega, hr⟩
  · rintro ⟨h1, h2, h3⟩
    by_cases e : x = k
    · exact .inr e
    · exact .inl ⟨h1, by omega, h3⟩
theorem rl_no {L : List (List Int)} {k : Nat} {l : List Int} (h : Rl L k l) (hr : ¬ Ring (gOf L) (k : Int)) : Rl L (k+1) l := by
  refine ⟨by have := h.1; omega, fun x => ?_⟩
  rw [h.2]
  constructor
  · rintro ⟨h1, h2, h3⟩; exact ⟨h1, by omega, h3⟩
  · rintro ⟨h1, h2, h3⟩
    refine ⟨h1, ?_, h3⟩
    by_cases e : x = k
    · subst e; exact absurd h3 hr
    · omega
theorem rl_rings {L : List (List Int)} {R : List Int} {l : List Int} (hf : FineH L R) (h : Rl L L.length l) : RingsOf L (setM l) := by
  have h16 : allIn l := fun x hx => by have := (h.2 x).1 hx; have := hf.few; omega
  have hm := setM_msk h16
  refine ⟨hm.1, fun i hi => ?_⟩
  rw [hm.2 i hi, h.2]
  constructor
  · exact fun h => h.2.2
  · intro hr
    refine ⟨by omega, ?_, hr⟩
    have := hf.come (fun x hx => hf.step hx) hr
    omega
set_option maxHeartbeats 2000000 in
theorem rounds_any (v : Value) (L : List (List Int)) (R : List Int) (w : World) (hv : IsHeap w v L R) :
    Calls Try.prog 15 #[v] w fun e w' => (∃ m : Nat, e = .returned (.tuple #[.int .i64 (m : Nat), errV (chkH L R)]) ∧ RoundsIs L R m) ∧ Below w.heap.size w w' := by
  obtain ⟨ao, co, ar, cr, rfl, h1, h2⟩ := hv.form
  have HBX : Hid (Boxed w (w.alloc (.cells #[.slice ao L.length co, .slice ar R.length cr] 28)) w.heap.size ao co ar cr L R) := boxed h1 h2 _
  have hd0 : (w.alloc (.cells #[.slice ao L.length co, .slice ar R.length cr] 28)).cell? ⟨w.heap.size, 0, none⟩ = some (.slice ao L.length co) := HBX.out.outs
  have hd1 : (w.alloc (.cells #[.slice ao L.length co, .slice ar R.length cr] 28)).cell? ⟨w.heap.size, 1, none⟩ = some (.slice ar R.length cr) := HBX.out.roots
  clear hv h1 h2
  by_cases h0 : chkH L R = 0
  · have HF : Hid (FineH L R) := chkH_zero.1 h0
    have H0 : Hid (chkH L R = 0) := h0
    have hl12 := HF.out.few
    obtain ⟨i0, hi, hz0, hz1, hz2⟩ := info_parts Try.info3
    have HI : Hid (Try.prog.info? 3 = some i0 ∧ i0.zero = some (.int .i64 0) ∧ i0.size = 1 ∧ i0.bytes = 8) := ⟨hi, hz0, hz1, hz2⟩
    clear h0 hi hz0 hz1 hz2
    go_enter Try.func15, Try.ntmps15
    go_wp2_with (go_at_call 28; fail)
    generalize w.alloc (.cells #[.slice ao L.length co, .slice ar R.length cr] 28) = W at *
    refine (gcheck_any _ L R _ HBX.out.isHeap).mono ?_
    rintro e w2 ⟨rfl, hb2⟩
    rw [H0.out, show errV 0 = .nilIface from rfl]
    have HB2 : Hid (Boxed w w2 w.heap.size ao co ar cr L R) := HBX.out.later hb2
    have hd0 : w2.cell? ⟨w.heap.size, 0, none⟩ = some (.slice ao L.length co) := HB2.out.outs
    have hcO := HB2.out.capO
    clear hb2 HBX hd1
    go_wp2
    clear hd0
    go_loopw [5, 16] (fun rv i wr => ∃ (k : Nat) (l : List Int), k ≤ L.length ∧ i = .int .i64 (k : Nat) ∧ OwnI wr w2.heap.size rv l ∧ Hid (Rl L k l) ∧ Below w2.heap.size w2 wr) (fun _ i _ => L.length - (intOf i).toNat)
    case atStart => exact ⟨0, [], Nat.zero_le _, rfl, OwnI.nil _ _, ⟨Nat.le_refl _, fun x => by simp; omega⟩, Below.refl _ _⟩
    case round =>
      obtain ⟨k, l, hk, rfl, hO, HRL, hbel⟩ := hrel
      have HO : Hid (OwnI wr w2.heap.size u5 l) := hO
      have HB3 : Hid (Boxed w wr w.heap.size ao co ar cr L R) := HB2.out.later hbel
      have HBEL : Hid (Below w2.heap.size w2 wr) := hbel
      have hll := HRL.out.1
      clear hO hbel
      by_cases hlt : k < L.length
      · have hlt' : (k : Int) < (L.length : Int) := by omega
        obtain ⟨b, off, rfl, hlc, hbs, au, cu, hcu, hiu, hmm, hcum⟩ := HB3.out.rows.at hlt
        have HIU : Hid (IsInts wr (.slice au (rowAt L k).length cu) (rowAt L k)) := hiu
        have HRN : Hid (∀ x, x ∈ rowAt L k → 0 ≤ x ∧ x < L.length) := HF.out.node _ (rowAt_mem hlt)
        have HR16 : Hid (allIn (rowAt L k)) := fun x hx => by have := HRN.out x hx; omega
        have HG : Hid (gOf L (k : Int) = rowAt L k) := gOf_at k
        have hd0 : wr.cell? ⟨w.heap.size, 0, none⟩ = some (.slice (some ⟨b, off, none⟩) L.length co) := HB3.out.outs
        have hd1 : wr.cell? ⟨w.heap.size, 1, none⟩ = some (.slice ar R.length cr) := HB3.out.roots
        clear hiu hbs
        go_wp2_with fail
        go_region_held3 (fun w' => w'.cell? ⟨w.heap.size, 0, none⟩ = some (.slice (some ⟨b, off, none⟩) L.length co) ∧ w'.cell? ⟨w.heap.size, 1, none⟩ = some (.slice ar R.length cr) ∧ Hid (Below wr.heap.size wr w'))
          ((go_split_ands; refine ⟨kept_cell hd0 ?_, kept_cell hd1 ?_, ?_⟩ <;> first | assumption | (apply kept_drew; first | assumption | exact kept_start _) | exact kept_start _))
          (first | (go_at_call 30; go_split_ands; refine (setof_from HIU.out HR16.out (by assumption)).mono ?_; rintro e w3 ⟨rfl, rfl⟩) | (go_at_call 29; go_split_ands; refine (spread_from HB3.out.isHeap HF.out HRN.out (by assumption)).mono ?_; rintro e w3 ⟨m', rfl, HM, HB4⟩) | (go_at_call 31; refine (ghas_is (show Hid _ from HM.out.1) (by omega) _).mono ?_; rintro e w4 ⟨rfl, rfl⟩))
        have hs4 := HB4.out.size
        have HO4 : Hid (OwnI w4 w2.heap.size u5 l) := HO.out.later HB4.out
        have HBEL4 : Hid (Below w2.heap.size w2 w4) := HBEL.out.trans (HB4.out.mono HBEL.out.size)
        have HBIT : Hid (m'.testBit k = true ↔ Ring (gOf L) (k : Int)) := by
          have h := HM.out.2 k (by omega)
          rw [← HG.out] at h
          exact h
        have hs2 := HBEL4.out.size
        clear HBEL HB4 HM HO
        cases hb : m'.testBit k with
        | true =>
          have HRL2 : Hid (Rl L (k+1) (l ++ [(k : Int)])) := rl_yes HRL.out (HBIT.out.1 hb)
          clear hb
          go_wp2_with (at_builtin; go_must (refine wpList_append_own _ rfl _ _ 26 rfl w2.heap.size 3 i0 (.int .i64 0) 1 8 Try.underlying26 HI.out.1 HI.out.2.1 HI.out.2.2.1 HI.out.2.2.2 rfl (by decide) _ l.length (l.map (Value.int .i64)) rfl (World.ownsRow.alloc (HO4.out.rows rfl rfl) _) ⟨w4.heap.size, 0, none⟩ 1 1 [.int .i64 (k : Int)] rfl rfl (by exact new_one _ _ _) (one_cell _) (by unfold maxLen; omega) (by omega) (by simp; omega) ?_; intro vo' w5 hown' hgrow _; have HOW := own_append HO4.out HBEL4.out (Nat.le_refl _) hown' hgrow; have HOW := And.intro (show Hid _ from HOW.1) (show Hid _ from HOW.2); clear hown' hgrow))
          go_roundw
          case rel => exact ⟨k + 1, l ++ [(k : Int)], by omega, by go_num, HOW.1.out, HRL2, HOW.2.out⟩
          case measure => simp [intOf]; omega
        | false =>
          have HRL2 : Hid (Rl L (k+1) l) := rl_no HRL.out (fun h => by have := HBIT.out.2 h; rw [hb] at this; cases this)
          clear hb
          go_wp2
          go_roundw
          case rel => exact ⟨k + 1, l, by omega, by go_num, HO4.out, HRL2, HBEL4.out⟩
          case measure => simp [intOf]; omega
      · have hlt' : ¬ (k : Int) < (L.length : Int) := by omega
        have HRL2 : Hid (Rl L L.length l) := by have := HRL.out; rwa [show k = L.length by omega] at this
        have HL16 : Hid (allIn l) := fun x hx => by have := (HRL2.out.2 x).1 hx; omega
        go_wp2_with (go_at_call 30; go_must (refine (setof_any _ l _ HO.out.isInts HL16.out).mono ?_; rintro e w' ⟨rfl, hw⟩; have hw := hw.symm; subst hw))
        go_ret2
        exact ⟨⟨_, by rw [H0.out]; rfl, by unfold RoundsIs; rw [if_pos H0.out]; exact rl_rings HF.out HRL2.out⟩, HB3.out.below⟩
  · have HE : Hid (errV (chkH L R) = .iface 54 (.int .i64 (chkH L R))) := errV_pos h0
    have H0 : Hid (chkH L R ≠ 0) := h0
    clear h0
    go_enter Try.func15, Try.ntmps15
    go_wp2_with (go_at_call 28; go_must (refine (gcheck_any _ L R _ HBX.out.isHeap).mono ?_; rintro e w2 ⟨rfl, hb2⟩; rw [HE.out]))
    go_ret2
    exact ⟨⟨0, by rw [HE.out]; rfl, by unfold RoundsIs; rw [if_neg H0.out]⟩, HBX.out.below.trans (hb2.mono HBX.out.below.size)⟩
end Go.Proofs.Ytmibnceadciidaa
