/- CountEmpty is proved: whatever is done, in whatever memory and on every schedule, it returns true and leaves its argument as it was: when all roots are dropped all nodes are gone just when there is no ring. No condition. -/
import Derived.Test.YtmibnceadciidaaCRun
import Derived.Test.YtmibnceadciidaaCHeapP
import Derived.Test.YtmibnceadciidaaCLaw
import Derived.Test.YtmibnceadciidaaCHeld
import Derived.Test.YtmibnceadciidaaArgHeap
namespace Go.Proofs.Ytmibnceadciidaa
set_option maxRecDepth 100000
open Go.ChangeShapes Go.WideShapes Go.ChangeAt Go.RowKit Go.Sort

theorem hereB_zero {d : KS} (_ : KGood d) : hereB d = 0 ↔ ∀ x, d.is x = false := by
  constructor
  · intro h0 x
    unfold KS.is
    rw [← hereB_bit, h0]
    simp
  · intro h
    refine Nat.eq_of_testBit_eq fun i => ?_
    rw [hereB_bit, ← isN_is, h]
    simp
theorem empty_iff {c d : KS} {m : Nat} (hc : KGood c) (hd : KGood d) (hr : d.roots = []) (hm : RingsOf c.outs m) (hi : (∃ x, Ring (gOf d.outs) x) ↔ ∃ x, Ring (gOf c.outs) x) : hereB d = 0 ↔ m = 0 := by
  rw [hereB_zero hd, good_empty hd hr]
  constructor
  · intro h
    refine Decidable.byContradiction fun hn => ?_
    obtain ⟨x, hx⟩ := hi.2 (some_ring hm hn)
    exact h x hx
  · intro h0 x hx
    obtain ⟨y, hy⟩ := hi.1 ⟨x, hx⟩
    exact no_rings hc hm h0 y hy
set_option maxHeartbeats 4000000 in
theorem cempty_any (v : Value) (L : List (List Int)) (w : World) (hv : IsRows w v L) :
    Calls Try.prog 6 #[v] w fun e w' => e = .returned (.bool true) ∧ Below w.heap.size w w' := by
  have HV : Hid (IsRows w v L) := hv
  clear hv
  go_enter Try.func6, Try.ntmps6
  go_wp2_with (go_at_call 7; fail)
  refine (cfact_any _).mono ?_
  rintro e w1 ⟨rfl, hb1⟩
  have HB1 : Hid (Below w.heap.size w w1) := hb1
  clear hb1
  go_wp2_with (go_at_call 8; fail)
  refine (counted_any v L _ (HV.out.below HB1.out)).mono ?_
  rintro e w2 ⟨a, rfl, S, h2⟩
  have H2 : Hid (Obj w1 w2 S a (cntK L)) := h2
  clear h2
  generalize cntK L = c at *
  go_wp2_with (go_at_call 9; fail)
  refine (heapP_any S a c _ H2.out.heap H2.out.good.mid).mono ?_
  rintro e w3 ⟨ao, co, ar, cr, rfl, h3, h4, hb3⟩
  have H3 : Hid (Obj w1 w3 S a c) := H2.out.later hb3
  have HT : Hid (Told3 S (w3.alloc (.cells #[.slice ao c.outs.length co, .slice ar c.roots.length cr] 28)) w3.heap.size (.slice ao c.outs.length co) (.slice ar c.roots.length cr) c.outs c.roots) := Told3.new (B := w2.heap.size) H2.out.heap.lt hb3.size h3 h4
  have HA : Hid (Below w3.heap.size w3 (w3.alloc (.cells #[.slice ao c.outs.length co, .slice ar c.roots.length cr] 28))) := (Below.refl _ _).alloc (Nat.le_refl _) _
  have H0 : Hid (chkH c.outs c.roots = 0) := fine_zero H2.out.good
  have HG : Hid (KGood c) := H2.out.good
  have hr12 := H2.out.good.roots
  clear H2 h3 h4 hb3
  go_wp2_with (go_at_call 15; fail)
  generalize (w3.alloc (.cells #[.slice ao c.outs.length co, .slice ar c.roots.length cr] 28)) = w4 at *
  refine (rounds_any _ c.outs c.roots _ HT.out.isHeap).mono ?_
  rintro e w5 ⟨⟨m, rfl, hm⟩, hb5⟩
  have HT5 : Hid (Told3 S w5 w3.heap.size (.slice ao c.outs.length co) (.slice ar c.roots.length cr) c.outs c.roots) := HT.out.later hb5
  have H5 : Hid (Obj w1 w5 S a c) := (H3.out.later HA.out).later hb5
  unfold RoundsIs at hm
  rw [if_pos H0.out] at hm
  have HM : Hid (RingsOf c.outs m) := hm
  rw [H0.out, show errV 0 = .nilIface from rfl]
  clear hm HT hb5 H3 HA
  go_wp2
  go_loopw [8] (fun i wr => ∃ (k : Nat) (S2 : Nat → Prop), k ≤ c.roots.length ∧ i = .int .i64 (k : Nat) ∧ Hid (Obj w1 wr S2 a (c.drops (c.roots.take k))) ∧ Hid (Told3 S2 wr w3.heap.size (.slice ao c.outs.length co) (.slice ar c.roots.length cr) c.outs c.roots)) (fun i _ => c.roots.length - (intOf i).toNat)
  case atStart => exact ⟨0, S, Nat.zero_le _, rfl, by rw [List.take_zero]; exact H5, HT5⟩
  case round =>
    obtain ⟨k, S2, hk, rfl, H6, HT6⟩ := hrel
    have HDG : Hid (KGood (c.drops (c.roots.take k)) ∧ (c.drops (c.roots.take k)).roots.Perm (c.roots.drop k) ∧ ((∃ x, Ring (gOf (c.drops (c.roots.take k)).outs) x) ↔ ∃ x, Ring (gOf c.outs) x)) := drops_good HG.out _ _ (by rw [List.take_append_drop])
    obtain ⟨hx0, hx1⟩ := HT6.out.cells
    by_cases hlt : k < c.roots.length
    · have hlt' : (k : Int) < (c.roots.length : Int) := by omega
      have hlt12 : (k : Int) < 12 := by omega
      obtain ⟨b, off, rfl, hlc, hbs, hcell⟩ := HT6.out.ints.isInts.open_at hlt
      have hck := hcell k hlt
      have HTK : Hid (c.drops (c.roots.take (k+1)) = (c.drops (c.roots.take k)).drop (c.roots[k]?.getD 0)) := by
        unfold Hid
        rw [List.take_succ_eq_append_getElem hlt, drops_snoc, List.getElem?_eq_getElem hlt]; rfl
      have HIN : Hid (c.roots[k]?.getD 0 ∈ (c.drops (c.roots.take k)).roots) := by
        refine HDG.out.2.1.mem_iff.2 ?_
        rw [List.drop_eq_getElem_cons hlt, List.getElem?_eq_getElem hlt]
        exact List.mem_cons_self
      generalize c.roots[k]?.getD 0 = x at *
      generalize c.drops (c.roots.take k) = d at *
      have HDD := drop_do HDG.out.1 HIN.out 0
      have HGD : Hid (KGood (d.drop x)) := by have := do_good HDG.out.1 2 x 0; rw [HDD] at this; exact this
      have HDO : Hid (d.doK 2 x 0 = (d.drop x, 0, 0)) := HDD
      clear hcell HDD
      go_wp2_with (go_at_call 17; fail)
      refine (dropP_any S2 a d x 0 _ H6.out.heap H6.out.good).mono ?_
      rintro e w7 ⟨rfl, hd⟩
      rw [HDO.out] at hd ⊢
      obtain ⟨S3, h7, h8⟩ := H6.out.both HT6.out hd HGD.out
      have H7 : Hid (Obj w1 w7 S3 a (c.drops (c.roots.take (k+1)))) := by unfold Hid; rw [HTK.out]; exact h7
      have H8 : Hid _ := h8
      rw [show errV 0 = .nilIface from rfl]
      clear h7 h8 hd hx0 hx1 hck
      go_wp2
      go_roundw
      case rel => exact ⟨k + 1, S3, by omega, by go_num, H7, H8⟩
      case measure => simp [intOf]; omega
    · have hlt' : ¬ (k : Int) < (c.roots.length : Int) := by omega
      have hnil : (c.drops (c.roots.take k)).roots = [] := by
        have h := HDG.out.2.1
        rw [List.drop_eq_nil_of_le (by omega)] at h
        exact h.eq_nil
      have HNIL : Hid ((c.drops (c.roots.take k)).roots = []) := hnil
      have HEI : Hid (hereB (c.drops (c.roots.take k)) = 0 ↔ m = 0) := empty_iff HG.out HDG.out.1 hnil HM.out HDG.out.2.2
      clear hnil
      generalize c.drops (c.roots.take k) = d at *
      go_wp2_with (go_at_call 9; fail)
      refine (heapP_any S2 a d _ H6.out.heap H6.out.good.mid).mono ?_
      rintro e w7 ⟨ao7, co7, ar7, cr7, rfl, h3, h4, hb7⟩
      have hl0 : d.roots.length = 0 := by rw [HNIL.out]; rfl
      rw [hl0]
      clear hl0 h3 h4 hx0 hx1
      have H7 : Hid (Obj w1 (w7.alloc (.cells #[.slice ao7 d.outs.length co7, .slice ar7 0 cr7] 28)) S2 a d) := (H6.out.later hb7).later ((Below.refl _ _).alloc (Nat.le_refl _) _)
      clear hb7
      go_wp2_with (go_at_call 10; fail)
      refine (hereP_any S2 a d _ H7.out.heap H7.out.good).mono ?_
      rintro e w' ⟨rfl, hw⟩
      have hw := hw.symm
      subst hw
      have HE : Hid (Below w.heap.size w (w7.alloc (.cells #[.slice ao7 d.outs.length co7, .slice ar7 0 cr7] 28))) := HB1.out.trans (H7.out.below.mono HB1.out.size)
      by_cases hm0 : m = 0
      · have hh0 : hereB d = 0 := HEI.out.2 hm0
        rw [hh0]
        subst hm0
        clear hh0
        go_wp2
        go_ret
        exact ⟨rfl, HE.out⟩
      · have hh0 : ¬ hereB d = 0 := fun e => hm0 (HEI.out.1 e)
        have hh0' : ¬ (hereB d : Int) = 0 := by omega
        have hm0' : ¬ (m : Int) = 0 := by omega
        go_wp2
        go_ret
        refine ⟨?_, HE.out⟩
        have e1 : ((hereB d : Int) == 0) = false := by simpa using hh0
        have e2 : ((m : Int) == 0) = false := by simpa using hm0
        simp [e1, e2]

theorem countEmpty_own : ownKnob Try.prog.godebug = none := by kernel_rfl
theorem countEmpty_laidOut : laidOutB Try.prog = true := by kernel_rfl

set_option maxRecDepth 100000 in
theorem countEmpty_lifted (os : Os) (started : os.Started) (H : Type) (enc : TypeId × Value → H) :
    ReturnsInHanded {} Try.checked os 6 .any (Rows.countEmptySpec.pre6 enc Try.prog Try.f6 Rows.countEmptyRow.domain false) (Rows.countEmptySpec.post enc Try.prog Try.f6 false true false false) := by
  refine returnsInHanded_of_change (C := Try.checked) countEmpty_own started (by kernel_rfl) Try.func6
    (ChangeSpec.witness6 (enc := enc) (C := Try.checked) false ⟨#[], #[.slice none 0 0], []⟩ 8 (by kernel_rfl) (by kernel_rfl) (by kernel_rfl) (by kernel_rfl)) ?_
  intro W base args ds gs before hval0 hW _ _
  have hval : ∀ (j : Nat) t v, Try.f6.params[j]? = some t → args[j]? = some v → Value.okWide Try.prog W .any base t v := hval0
  have hW' : DataW.Whole enc Try.prog Try.f6.params.toList Rows.countEmptySpec.vars false W args.toList ds gs before := hW
  obtain ⟨p, q, hA0, hV, rfl, hfz, hnd⟩ := hW
  have hA : DataW.TrodAll enc Try.prog W 0 (fun _ => true) true Try.f6.params.toList args.toList ds p := hA0
  rw [Try.params6] at hA hval
  obtain ⟨v0, vs0, d0, ds0, p0, q0, hargs, rfl, rfl, h0, r0⟩ := trodAll_cons hA
  obtain ⟨rfl, rfl, rfl⟩ := trodAll_nil r0
  obtain rfl : args = #[v0] := by cases args; simp_all
  obtain ⟨rfl, rfl⟩ := trodVars_none hV
  obtain ⟨l0, hl0⟩ := arg_rows (hval 0 22 v0 rfl rfl) h0
  clear hA0 hval0
  refine (cempty_any v0 l0 W hl0).mono fun e W' ⟨he, hb⟩ => ?_
  subst he
  exact ⟨_, rfl, law_post hW' hb countEmpty_laidOut rfl (by kernel_rfl) (by kernel_rfl) Try.underlying4 rfl rfl rfl⟩

theorem countEmpty_holds : Rows.CountEmptySaid :=
  OpenClaim.holds_of_wide 6 Try.f6 rfl rfl rfl rfl rfl rfl rfl ⟨rfl, rfl, rfl, rfl, rfl⟩ rfl rfl rfl rfl rfl (by kernel_rfl) Try.func6 (by kernel_rfl)
    (of_decide_eq_true (by kernel_rfl)) (by unfold Func.isWrapper; first | (rw [if_pos (by decide +kernel)]; kernel_rfl) | (rw [if_neg (by decide +kernel)]; exact ⟨rfl, rfl⟩))
    (fun os started H enc _ => countEmpty_lifted os started H enc)
end Go.Proofs.Ytmibnceadciidaa
