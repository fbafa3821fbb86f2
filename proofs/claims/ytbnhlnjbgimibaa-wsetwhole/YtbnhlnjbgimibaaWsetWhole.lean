/- WsetWhole is proved: for every list of requests, in whatever memory and on every schedule, it returns true and leaves its argument as it was: a window as wide as all misses each page once, and sees all at the end. No condition. -/
import Derived.Test.YtbnhlnjbgimibaaWsetFact
import Derived.Test.YtbnhlnjbgimibaaSetAt
import Derived.Test.YtbnhlnjbgimibaaSomeIs
import Derived.Test.YtbnhlnjbgimibaaRefSet
import Derived.Test.YtbnhlnjbgimibaaHasAt
import Derived.Test.YtbnhlnjbgimibaaLawkit
namespace Go.Proofs.Ytbnhlnjbgimibaa
open Go.ChangeShapes Go.WideShapes Go.ChangeAt Go.RowKit Go.Sort

/-- The pages below k that are asked for, rising. -/
def someOf (l : List Int) : Nat → List Int
  | 0 => []
  | k + 1 => if l.contains (k : Int) then someOf l k ++ [(k : Int)] else someOf l k
theorem someOf_mem (l : List Int) (x : Int) : ∀ k, x ∈ someOf l k ↔ x ∈ l ∧ 0 ≤ x ∧ x < k
  | 0 => by simp [someOf]; try omega
  | k + 1 => by
    have ih := someOf_mem l x k
    rw [someOf]
    split
    · rename_i h
      have h := List.contains_iff_mem.1 h
      rw [List.mem_append, List.mem_singleton, ih]
      constructor
      · rintro (⟨a, b, c⟩ | rfl)
        · exact ⟨a, b, by omega⟩
        · exact ⟨h, by omega, by omega⟩
      · rintro ⟨a, b, c⟩
        by_cases e : x = k
        · exact .inr e
        · exact .inl ⟨a, b, by omega⟩
    · rename_i h
      rw [ih]
      constructor
      · rintro ⟨a, b, c⟩; exact ⟨a, b, by omega⟩
      · rintro ⟨a, b, c⟩
        refine ⟨a, b, ?_⟩
        by_cases e : x = k
        · subst e; exact absurd (List.contains_iff_mem.2 a) h
        · omega
theorem someOf_nodup (l : List Int) : ∀ k, (someOf l k).Nodup
  | 0 => by simp [someOf]
  | k + 1 => by
    rw [someOf]
    split
    · refine List.nodup_append.2 ⟨someOf_nodup l k, by simp, fun a ha b hb => ?_⟩
      rw [List.mem_singleton] at hb
      have := ((someOf_mem l a k).1 ha).2.2
      omega
    · exact someOf_nodup l k
theorem someOf_length (l : List Int) : ∀ k, (someOf l k).length ≤ k
  | 0 => by simp [someOf]
  | k + 1 => by
    have := someOf_length l k
    rw [someOf]
    split
    · rw [List.length_append]; simp; omega
    · omega
theorem someOf_yes {l : List Int} {k : Nat} (h : l.contains (k : Int) = true) : someOf l (k+1) = someOf l k ++ [(k : Int)] := by rw [someOf, if_pos h]
theorem someOf_no {l : List Int} {k : Nat} (h : l.contains (k : Int) = false) : someOf l (k+1) = someOf l k := by rw [someOf, if_neg (by rw [h]; simp)]
theorem someOf_allIn (l : List Int) : allIn (someOf l 16) := fun p hp => by
  have := (someOf_mem l p 16).1 hp
  exact ⟨this.2.1, this.2.2⟩
theorem someOf_set {l : List Int} (hl : allIn l) {n : Nat} (hn : l.length ≤ n) : setN (someOf l 16) = setN (wset n l l.length) := by
  refine msk_unique (msk_same (setN_msk (someOf_nodup l 16) (someOf_allIn l)) fun x => ?_) (msk_wset hl l.length)
  rw [someOf_mem, wset_all hn, full_mem, List.take_length]
  constructor
  · exact fun h => h.1
  · intro h
    have := hl x h
    exact ⟨h, this.1, by omega⟩
theorem refset_at {v : Value} {l : List Int} {r : Nat} {w0 : World} (hv : IsInts w0 v l) (hl : allIn l) (h40 : l.length ≤ 40) (hr : setN l = r) (w : World) (hh : w.heap = w0.heap) :
    Calls Try.prog 12 #[v] w fun e w' => e = .returned (.int .i64 r) ∧ w' = w := by
  subst hr; exact refset_any v l w (hv.heap hh) hl h40

set_option maxRecDepth 100000 in
set_option maxHeartbeats 2000000 in
theorem wsetWhole_any (v : Value) (l : List Int) (w : World) (hv : IsInts w v l) (hform : ∃ ao cap, v = .slice ao l.length cap) :
    Calls Try.prog 5 #[v] w fun e w' => e = .returned (.bool true) ∧ Below w.heap.size w w' := by
  have HV : Hid (IsInts w v l) := hv
  obtain ⟨ao, cap, rfl⟩ := hform
  clear hv
  obtain ⟨i0, hi, hz0, hz1, hz2⟩ := info_parts Try.info3
  have HI : Hid (Try.prog.info? 3 = some i0 ∧ i0.zero = some (.int .i64 0) ∧ i0.size = 1 ∧ i0.bytes = 8) := ⟨hi, hz0, hz1, hz2⟩
  clear hi hz0 hz1 hz2
  by_cases h : wchk l 40 = 0
  · obtain ⟨hc8, _, _⟩ := wchk_zero h
    obtain ⟨hl40, _, _⟩ := chk_zero hc8
    have HA : Hid (allIn l) := chk_allIn hc8
    have HC : Hid (wchk l 40 = 0) := h
    have HN : Hid (wsN l 40 = firsts l l.length) := by
      have := wsN_ok h
      unfold Hid
      rw [this]
      exact miss_whole (w := 40) (by omega) l.length (Nat.le_refl _)
    have HL : Hid (wsL l 40 = setsOf 40 l l.length) := wsL_ok h
    clear h hc8
    go_enter Try.func5, Try.ntmps5
    go_wp2_with (first | (go_at_call 7; go_must (refine (win_any _).mono ?_; rintro e w1 ⟨rfl, hb1⟩)) | (go_at_call 9; fail))
    refine (miss_any _ l 40 _ (HV.out.below hb1)).mono ?_
    rintro e w2 ⟨rfl, hb2⟩
    rw [HC.out, HN.out, show errV 0 = .nilIface from rfl]
    have HB2 : Hid (Below w.heap.size w w2) := hb1.trans (hb2.mono hb1.size)
    clear hb1 hb2
    generalize wsS l 40 = x at *
    go_wp2_with (go_at_call 8; fail)
    refine (sets_any _ l 40 _ (HV.out.below HB2.out)).mono ?_
    rintro e w3 ⟨vs, rfl, hO, hb3⟩
    rw [HC.out, show errV 0 = .nilIface from rfl]
    rw [HL.out] at hO
    have HB3 : Hid (Below w.heap.size w w3) := HB2.out.trans (hb3.mono HB2.out.size)
    have HV3 : Hid (IsInts w3 (.slice ao l.length cap) l) := HV.out.below HB3.out
    obtain ⟨ad, dcp, rfl, _⟩ := set_cells hO
    have HO3 : Hid (IsInts w3 (.slice ad l.length dcp) (setsOf 40 l l.length)) := hO.isInts
    clear hO hb3 HB2 HV
    generalize hf : firsts l l.length = f at *
    have HF : Hid (firsts l l.length = f) := hf
    have hff : ((f : Int) != (f : Int)) = false := by simp
    clear hf
    go_wp2_with (go_at_call 10; fail)
    refine (some_is HV3.out HF.out _ (by rfl)).mono ?_
    rintro e w4 ⟨rfl, q, hw4⟩
    have HB4 : Hid (Below w.heap.size w w4) := by rw [hw4]; exact below_drewN HB3.out q
    have HO4 : Hid (IsInts w4 (.slice ad l.length dcp) (setsOf 40 l l.length)) := by rw [hw4]; exact HO3.out.drewN q
    have HV4 : Hid (IsInts w4 (.slice ao l.length cap) l) := by rw [hw4]; exact HV3.out.drewN q
    clear hw4 HO3 HV3 HB3 HF
    by_cases hl0 : l.length = 0
    · rw [hl0]
      clear hl0
      go_wp2
      go_ret
      exact ⟨rfl, HB4.out⟩
    · have hl1 : 0 < l.length := by omega
      have hl2 : ((l.length : Int) == 0) = false := by rw [beq_eq_false_iff_ne]; omega
      go_wp2
      go_loopw [9, 10] (fun vo i wr => ∃ k : Nat, k ≤ 16 ∧ i = .int .i64 k ∧ OwnI wr w4.heap.size vo (someOf l k) ∧ Below w4.heap.size w4 wr) (fun _ i _ => 16 - (intOf i).toNat)
      case atStart => exact ⟨0, by omega, rfl, OwnI.nil _ _, Below.refl _ _⟩
      case round =>
        obtain ⟨k, hk, rfl, hO, hbel⟩ := hrel
        have hsl := someOf_length l k
        by_cases hlt : k < 16
        · have HVr : Hid (IsInts wr (.slice ao l.length cap) l) := HV4.out.below hbel
          obtain ⟨av, vcp, hvo⟩ := hO.form
          generalize hno : (someOf l k).length = no at *
          subst hvo
          have HNO : Hid ((someOf l k).length = no) := hno
          have HO : Hid (OwnI wr w4.heap.size (.slice av no vcp) (someOf l k)) := hO
          clear hO hno
          cases hcn : l.contains (k : Int)
          · have HR : Hid (l.contains (k : Int) = false) := hcn
            have HS : Hid (someOf l (k+1) = someOf l k) := someOf_no hcn
            clear hcn
            go_wp2_with (go_at_call 11; go_must (refine (has_any _ l (k : Int) _ HVr.out).mono ?_; rintro e w' ⟨rfl, hw⟩; have hw := hw.symm; subst hw; rw [HR.out]))
            go_roundw
            case rel => exact ⟨k + 1, by omega, by go_num, by rw [HS.out]; exact HO.out, hbel⟩
            case measure => simp [intOf]; omega
          · have HR : Hid (l.contains (k : Int) = true) := hcn
            have HS : Hid (someOf l (k+1) = someOf l k ++ [(k : Int)]) := someOf_yes hcn
            clear hcn
            go_wp2_with (first | (go_at_call 11; go_must (refine (has_any _ l (k : Int) _ HVr.out).mono ?_; rintro e w' ⟨rfl, hw⟩; have hw := hw.symm; subst hw; rw [HR.out])) | (at_builtin; go_must (refine wpList_append_own _ rfl _ _ 22 rfl w4.heap.size 3 i0 (.int .i64 0) 1 8 Try.underlying22 HI.out.1 HI.out.2.1 HI.out.2.2.1 HI.out.2.2.2 rfl (by decide) _ no ((someOf l k).map (Value.int .i64)) rfl (World.ownsRow.alloc (HO.out.rows HNO.out rfl) _) ⟨wr.heap.size, 0, none⟩ 1 1 [.int .i64 (k : Int)] rfl rfl (by exact new_one _ _ _) (one_cell _) (by unfold maxLen; omega) (by omega) (by have := hbel.size; simp; omega) ?_; intro vo' w1 hown' hgrow _; have HOW := own_append2 HO.out HNO.out hbel (Nat.le_refl _) hown' hgrow; have HR1 : Hid (OwnI w1 w4.heap.size vo' (someOf l k ++ [(k : Int)])) := HOW.1; have HR2 : Hid (Below w4.heap.size w4 w1) := HOW.2; clear hown' hgrow HOW)))
            go_roundw
            case rel => exact ⟨k + 1, by omega, by go_num, by rw [HS.out]; exact HR1.out, HR2.out⟩
            case measure => simp [intOf]; omega
        · have hk16 : k = 16 := by omega
          obtain ⟨m, hm⟩ : ∃ m : Nat, l.length = m + 1 := ⟨l.length - 1, by omega⟩
          have HSO : Hid (IsInts wr u9 (someOf l 16)) := by rw [hk16] at hO; exact hO.isInts
          have HAL : Hid (allIn (someOf l 16)) := someOf_allIn l
          have HLN : Hid ((someOf l 16).length ≤ 40) := by have := someOf_length l 16; unfold Hid; omega
          have HSE : Hid (setN (someOf l 16) = setN (wset 40 l l.length)) := someOf_set HA.out hl40
          obtain ⟨g1, o1, rfl, ha1, ha2, hA1⟩ := set_at (HO4.out.below hbel) hl1
          have hcell := hA1 m (by omega)
          rw [← hm] at hcell
          have HB5 : Hid (Below w.heap.size w wr) := HB4.out.trans (hbel.mono HB4.out.size)
          unfold maxLen at ha2
          have hsub : IntKind.i64.wrap ((l.length : Int) - 1) = (m : Int) := by rw [IntKind.wrap_i64]; omega
          have hml : m < l.length := by omega
          clear hA1 hO HO4 HB4 HV4
          generalize setN (wset 40 l l.length) = y at *
          have hyy : ((y : Int) == (y : Int)) = true := by simp
          go_wp2
          go_quiet (first | (go_at_call 12; exact Calls.quiet_of_same (refset_at HSO.out HAL.out HLN.out HSE.out _ (by rfl))))
          go_wp2
          go_ret
          exact ⟨rfl, below_drewN HB5.out _⟩
  · have HE : Hid (errV (wchk l 40) = .iface 43 (.int .i64 (wchk l 40))) := errV_pos h
    clear h
    go_enter Try.func5, Try.ntmps5
    go_wp2_with (first | (go_at_call 7; go_must (refine (win_any _).mono ?_; rintro e w1 ⟨rfl, hb1⟩)) | (go_at_call 9; fail))
    refine (miss_any _ l 40 _ (HV.out.below hb1)).mono ?_
    rintro e w2 ⟨rfl, hb2⟩
    rw [HE.out]
    have HB2 : Hid (Below w.heap.size w w2) := hb1.trans (hb2.mono hb1.size)
    clear hb1 hb2
    generalize wsN l 40 = na at *
    generalize wsS l 40 = nb at *
    go_wp2_with (go_at_call 8; fail)
    refine (sets_any _ l 40 _ (HV.out.below HB2.out)).mono ?_
    rintro e w3 ⟨vs, rfl, hO, hb3⟩
    rw [HE.out]
    have HB3 : Hid (Below w.heap.size w w3) := HB2.out.trans (hb3.mono HB2.out.size)
    clear hO hb3 HB2
    generalize wchk l 40 = c at *
    go_wp2
    go_ret
    exact ⟨rfl, HB3.out⟩

theorem wsetWhole_own : ownKnob Try.prog.godebug = none := by kernel_rfl
theorem wsetWhole_laidOut : laidOutB Try.prog = true := by kernel_rfl

set_option maxRecDepth 100000 in
theorem wsetWhole_lifted (os : Os) (started : os.Started) (H : Type) (enc : TypeId × Value → H) :
    ReturnsInHanded {} Try.checked os 5 .any (Rows.wsetWholeSpec.pre6 enc Try.prog Try.f5 Rows.wsetWholeRow.domain false) (Rows.wsetWholeSpec.post enc Try.prog Try.f5 false true false false) := by
  refine returnsInHanded_of_change (C := Try.checked) wsetWhole_own started (by kernel_rfl) Try.func5
    (ChangeSpec.witness6 (enc := enc) (C := Try.checked) false ⟨#[], #[.slice none 0 0], []⟩ 8 (by kernel_rfl) (by kernel_rfl) (by kernel_rfl) (by kernel_rfl)) ?_
  intro W base args ds gs before hval0 hW _ _
  have hval : ∀ (j : Nat) t v, Try.f5.params[j]? = some t → args[j]? = some v → Value.okWide Try.prog W .any base t v := hval0
  have hW' : DataW.Whole enc Try.prog Try.f5.params.toList Rows.wsetWholeSpec.vars false W args.toList ds gs before := hW
  obtain ⟨p, q, hA0, hV, rfl, hfz, hnd⟩ := hW
  have hA : DataW.TrodAll enc Try.prog W 0 (fun _ => true) true Try.f5.params.toList args.toList ds p := hA0
  rw [Try.params5] at hA hval
  obtain ⟨v0, vs0, d0, ds0, p0, q0, hargs, rfl, rfl, h0, r0⟩ := trodAll_cons hA
  obtain ⟨rfl, rfl, rfl⟩ := trodAll_nil r0
  obtain rfl : args = #[v0] := by cases args; simp_all
  obtain ⟨rfl, rfl⟩ := trodVars_none hV
  obtain ⟨l0, ao0, cap0, hv0, hl0⟩ := arg_ints Try.underlying22 Try.underlying3 (by kernel_rfl) (hval 0 22 v0 rfl rfl) h0
  clear hA0 hval0
  refine (wsetWhole_any v0 l0 W hl0 ⟨ao0, cap0, hv0⟩).mono fun e W' ⟨he, hb⟩ => ?_
  subst he
  exact ⟨_, rfl, law_post hW' hb wsetWhole_laidOut rfl (by kernel_rfl) (by kernel_rfl) Try.underlying4 rfl rfl rfl⟩

theorem wsetWhole_holds : Rows.WsetWholeSaid :=
  OpenClaim.holds_of_wide 5 Try.f5 rfl rfl rfl rfl rfl rfl rfl ⟨rfl, rfl, rfl, rfl, rfl⟩ rfl rfl rfl rfl rfl (by kernel_rfl) Try.func5 (by kernel_rfl)
    (of_decide_eq_true (by kernel_rfl)) (by unfold Func.isWrapper; first | (rw [if_pos (by decide +kernel)]; kernel_rfl) | (rw [if_neg (by decide +kernel)]; exact ⟨rfl, rfl⟩))
    (fun os started H enc _ => wsetWhole_lifted os started H enc)
end Go.Proofs.Ytbnhlnjbgimibaa
