/- The walk of Back. -/
import Derived.Test.YtjcikoaoemingaaDoorBLend
namespace Go.Proofs.YtjcikoaoemingaaDoor
open Go.RowKit Go.Maps Go.Sort

theorem lookI_del {L : List (Nat × Nat)} {p : Nat} (hU : Up L) (z : Int) : lookI (delP p L) z = if z = (p : Nat) then none else lookI L z := by
  unfold lookI
  by_cases e : z = (p : Nat)
  · subst e
    rw [if_pos rfl]
    cases h : look (delP p L) (p : Nat) with
    | none => rfl
    | some o =>
      obtain ⟨p', e, hm⟩ := look_some h
      exact absurd (by omega) (mem_delP.1 hm).2
  · rw [if_neg e]
    congr 1
    cases h : look L z with
    | none =>
      cases h' : look (delP p L) z with
      | none => rfl
      | some o' =>
        obtain ⟨p', rfl, hm⟩ := look_some h'
        exact absurd rfl (look_none h _ (mem_delP.1 hm).1)
    | some o' =>
      obtain ⟨p', rfl, hm⟩ := look_some h
      rw [look_of (delP_up hU) (mem_delP.2 ⟨hm, fun h => e (by simp only at h; omega)⟩)]
/-- Putting together: of what is free where L is lent, that which is apart from the block (P, O) that was put together so far. -/
def Gath (L : List (Nat × Nat)) (F : Nat → Nat) (P O : Nat) : Prop := ∀ m, m < 7 → Bits (F m) fun q => MaxF L q m ∧ ¬ Meet q m P O
theorem gath_start {L : List (Nat × Nat)} {F : Nat → Nat} {p o : Nat} (h : Words F L) (hm : (p, o) ∈ L) : Gath L F p o := fun m h7 => (h m h7).congr fun q => (merge_start hm q m).symm
theorem min_mate {p o : Nat} (hp : Blk p o) : min p (mate p o) = up p o := by
  obtain ⟨_, h1, h2⟩ := hp
  unfold mate up
  have h0 := pow_pos2 o
  rcases half_mod h1 with h | h
  · rw [if_pos h, h]; omega
  · rw [if_neg (by omega), h]; omega
theorem gath_step {L : List (Nat × Nat)} {F : Nat → Nat} {p o : Nat} (h : Gath L F p o) (hp : Blk p o) (ho : o < 6) (hM : MaxF L (mate p o) o) : Gath L (upF F o (F o &&& (18446744073709551615 - 2 ^ mate p o))) (up p o) (o+1) := by
  intro m hm
  unfold upF
  have h64 : mate p o < 64 := by have := (mate_blk hp ho).2.2; have := pow_pos2 o; omega
  by_cases e : m = o
  · subst e
    rw [if_pos rfl]
    refine ((h m hm).drop h64).congr fun q => ?_
    rw [merge_step hp ho hM]
    exact ⟨fun h => ⟨h.1, fun h2 => h.2 h2.1⟩, fun h => ⟨h.1, fun h2 => h.2 ⟨h2, rfl⟩⟩⟩
  · rw [if_neg e]
    refine (h m hm).congr fun q => ?_
    rw [merge_step hp ho hM]
    exact ⟨fun h => ⟨h, fun h2 => e h2.2⟩, fun h => h.1⟩
theorem gath_end {L M : List (Nat × Nat)} {F : Nat → Nat} {p0 o0 p o : Nat} (h : Gath L F p o) (g : Gone L M p0 o0) (hM : MaxF M p o) (h1 : p ≤ p0) (h2 : p0 + 2 ^ o0 ≤ p + 2 ^ o) : Words (upF F o (F o ||| 2 ^ p)) M := by
  intro m hm
  unfold upF
  have h64 : p < 64 := by have := hM.1.2.2; have := pow_pos2 o; omega
  by_cases e : m = o
  · subst e
    rw [if_pos rfl]
    refine ((h m hm).put h64).congr fun q => ?_
    rw [g.maxF hM h1 h2]
    exact ⟨fun h => h.imp id fun h => ⟨h, rfl⟩, fun h => h.imp id fun h => h.1⟩
  · rw [if_neg e]
    refine (h m hm).congr fun q => ?_
    rw [g.maxF hM h1 h2]
    exact ⟨fun h => .inl h, fun h => h.elim id fun h => absurd h.2 e⟩
/-- Is the other half free, as the words have it? Just if both together are free then. -/
theorem gath_has {L : List (Nat × Nat)} {F : Nat → Nat} {p o : Nat} (h : Gath L F p o) (hp : Blk p o) (ho : o < 6) : F o / 2 ^ mate p o % 2 = 1 ↔ MaxF L (mate p o) o := by
  rw [(h o (by omega)).has]
  exact ⟨fun h => h.1, fun h => ⟨h, fun hm => mate_apart hp ho hm.symm⟩⟩

theorem back_end {H : Type} {base a b O q n p x : Nat} {F2 : Nat → Nat} {L : List (Nat × Nat)} {w wr w5 : World} (hA : Arena H w base a b L) (hC : Cells wr a F2 b) (hM : IsMapI H wr b 64 (lookI (delP p L))) (hT : Turn a b w wr) (hO7 : O < 7)
    (hW : Words (upF F2 O x) (delP p L)) (hw : w5 = (World.drewN (wr.drewN n) q).setCell ⟨a, O, none⟩ (.int .u64 (x : Nat))) : Arena H w5 base a b (delP p L) ∧ Turn a b w w5 := by
  subst hw
  exact ⟨⟨⟨_, Cells.set (w := (wr.drewN n).drewN q) (hC.same rfl) hO7 _, hW⟩, hM.same (Below.heap_setCell ((wr.drewN n).drewN q) _ _ b hA.ne.symm), delP_okay hA.okay, delP_up hA.up, hA.fromA, hA.fromB⟩,
    hT.trans ((Turn.drewN wr n).trans ((Turn.drewN _ q).trans (Turn.setCell _ _ _ rfl)))⟩

set_option maxHeartbeats 2000000 in
theorem back_any (H : Type) (base a b : Nat) (L : List (Nat × Nat)) (z : Int) (hz1 : -9223372036854775808 ≤ z) (hz2 : z < 9223372036854775808) (w : World) (hA : Arena H w base a b L) :
    Calls Tryd.prog 23 #[.pointer (some ⟨a, 0, none⟩), .int .i64 z] w fun e w' => e = .returned (errV (backF L z).1) ∧ Arena H w' base a b (backF L z).2 ∧ Turn a b w w' := by
  obtain ⟨⟨F, hC, hW⟩, hM, hO, hU, hfa, hfb⟩ := hA
  have HA : Hid (Arena H w base a b L) := ⟨⟨F, hC, hW⟩, hM, hO, hU, hfa, hfb⟩
  have HC : Hid (Cells w a F b) := hC
  have HW : Hid (Words F L) := hW
  have hcm := hC.map
  obtain ⟨D, hown, htell⟩ := hM
  have HOW : Hid (w.ownsMap Tryd.prog 3 (plainElem Tryd.prog 3) b 64 D) := hown
  have HTE : Hid (∀ z, TellI D z (lookI L z)) := htell
  have HK : Hid (keyOf Tryd.prog 3 (.int .i64 z) = some (.int .i64 z)) := keyOf_int (wf64 hz1 hz2)
  have HH : Hid (has D (.int .i64 z) = (lookI L z).isSome) := tell_has (htell z)
  have HAT : Hid (D.atKey (.int .i64 z) (.lit (.int .i64 0)) = .lit (.int .i64 ((lookI L z).getD 0))) := tell_at (htell z)
  clear hC hW hO hU hfa hfb hown htell
  cases hl : look L z with
  | none =>
    have HF : Hid (backF L z = (5, L)) := by unfold Hid backF; rw [hl]
    have HI : Hid (lookI L z = none) := by unfold Hid lookI; rw [hl]; rfl
    clear hl
    go_enter Tryd.func23, Tryd.ntmps23
    go_wp2_with (at_lookup; refine wpList_lookup_own_ok_int _ rfl _ _ 68 rfl 3 3 .i64 int_keys Tryd.underlying68 Tryd.underlying3 (Tryd.zeroValue3 _) b 64 D rfl HOW.out _ _ rfl HK.out ?_; intro c hat hwc; rw [HH.out, HI.out]; clear hat hwc)
    go_ret
    rw [HF.out]
    exact ⟨rfl, HA.out, Turn.refl _ _ _⟩
  | some o =>
    obtain ⟨p, rfl, hmem⟩ := look_some hl
    have HF : Hid (backF L (p : Nat) = (0, delP p L)) := by unfold Hid backF; rw [hl]; rfl
    have HI : Hid (lookI L (p : Nat) = some (o : Int)) := by unfold Hid lookI; rw [hl]; rfl
    have HG : Hid (Gone L (delP p L) p o) := gone_of HA.out.up HA.out.okay hmem
    clear hl
    go_enter Tryd.func23, Tryd.ntmps23
    go_wp2_with (first | (at_lookup; refine wpList_lookup_own_ok_int _ rfl _ _ 68 rfl 3 3 .i64 int_keys Tryd.underlying68 Tryd.underlying3 (Tryd.zeroValue3 _) b 64 D rfl HOW.out _ _ rfl HK.out ?_; intro c hat hwc; rw [HH.out, HI.out]; have hco : c = (o : Int) := by { rw [HAT.out, HI.out] at hat; simpa using hat.symm }; clear hat hwc; subst hco) | (at_delete; refine wpList_delete_own _ rfl _ _ 68 3 rfl 3 int_keys Tryd.underlying68 _ b 64 D rfl HOW.out _ _ rfl HK.out ?_; intro w1 hown1 hturn1))
    have HM1 : Hid (IsMapI H w1 b 64 (lookI (delP p L))) := by
      refine ⟨_, hown1, fun y => ?_⟩
      rw [lookI_del HA.out.up y]
      exact tell_del HTE.out _ y
    have HT1 : Hid (Turn a b w w1) := Turn.grownB hturn1.grown
    have HC1 : Hid (Cells w1 a F b) := HC.out.same (hturn1.grown.block a HC.out.lt (by simp [HA.out.ne]))
    have HG1 : Hid (Gath L F p o) := gath_start HW.out hmem
    clear hown1 hturn1 hcm HOW HTE HK HH HAT HI HW HC
    go_frame
    go_loopw [1, 5, 7] (fun i1 i5 _ wr => ∃ (P O : Nat) (F2 : Nat → Nat), i1 = .int .i64 (P : Nat) ∧ i5 = .int .i64 (O : Nat) ∧ Cells wr a F2 b ∧ Gath L F2 P O ∧ Blk P O ∧ FreeB (delP p L) P O ∧ P ≤ p ∧ p + 2 ^ o ≤ P + 2 ^ O ∧ IsMapI H wr b 64 (lookI (delP p L)) ∧ Turn a b w wr) (fun _ i5 _ _ => 6 - (RowKit.intOf i5).toNat)
    case atStart => exact ⟨p, o, F, rfl, rfl, HC1.out, HG1.out, HG.out.blk, HG.out.apart, Nat.le_refl _, Nat.le_refl _, HM1.out, HT1.out⟩
    case round =>
      obtain ⟨P, O, F2, rfl, rfl, hC2, hG2, hB2, hF2, hP1, hP2, hM2, hT2⟩ := hrel
      clear HC1 HG1 HM1 HT1
      have hO6 := hB2.1
      have hO7 : O < 7 := by omega
      have hw2 := hC2.word hO7
      have HC2 : Hid (Cells wr a F2 b) := hC2
      have HM2 : Hid (IsMapI H wr b 64 (lookI (delP p L))) := hM2
      have HT2 : Hid (Turn a b w wr) := hT2
      have HB2 : Hid (Blk P O) := hB2
      have HF2 : Hid (FreeB (delP p L) P O) := hF2
      have HP : Hid (P ≤ p ∧ p + 2 ^ o ≤ P + 2 ^ O) := ⟨hP1, hP2⟩
      have HG2 : Hid (Gath L F2 P O) := hG2
      have HX : Hid (F2 O < 18446744073709551616) := (hG2 O hO7).1
      clear hC2 hG2 hB2 hF2 hP1 hP2 hM2 hT2
      have HEND : Hid (MaxF (delP p L) P O → Words (upF F2 O (F2 O ||| 2 ^ P)) (delP p L)) := fun h => gath_end HG2.out HG.out h HP.out.1 HP.out.2
      have hP64 : P < 64 := by have := HB2.out.2.2; have := pow_pos2 O; omega
      have HPU : Hid (∀ w0 : World, Cells w0 a F2 b → Calls Tryd.prog 36 #[.pointer (some ⟨a, O, none⟩), .int .i64 (P : Nat)] w0 fun e w' => e = .returned (.tuple #[]) ∧ ∃ q, w' = (w0.drewN q).setCell ⟨a, O, none⟩ (.int .u64 ((F2 O ||| 2 ^ P : Nat)))) :=
        fun w0 h0 => put_any _ (F2 O) _ HX.out hP64 w0 (h0.word hO7) (h0.frozen O)
      by_cases ho6 : O = 6
      · have HMX : Hid (Words (upF F2 O (F2 O ||| 2 ^ P)) (delP p L)) := HEND.out ⟨HB2.out, HF2.out, .inl ho6⟩
        subst ho6
        go_wp2
        go_quiet (fail)
        go_wp2_with (go_at_call 36; fail)
        refine (HPU.out (wr.drewN nq) (HC2.out.same rfl)).mono ?_
        rintro e w5 ⟨rfl, q5, hw5⟩
        have HE : Hid (Arena H w5 base a b (delP p L) ∧ Turn a b w w5) := back_end HA.out HC2.out HM2.out HT2.out hO7 HMX.out hw5
        clear hw5
        go_wp2
        go_ret
        rw [HF.out]
        exact ⟨rfl, HE.out⟩
      · have hO5 : O < 6 := by omega
        have hlt : (O : Int) < 6 := by omega
        have HHF : Hid (∀ w0 : World, Calls Tryd.prog 40 #[.int .i64 (P : Nat), .int .i64 (O : Nat)] w0 fun e w' => e = .returned (.int .i64 (mate P O : Nat)) ∧ w' = w0) := fun w0 => half_any P O HB2.out w0
        have hmb := mate_blk HB2.out hO5
        have hm64 : mate P O < 64 := by have := hmb.2.2; have := pow_pos2 O; omega
        have HIFF := Gone.mate HG.out HB2.out hO5 HF2.out HP.out.1 HP.out.2
        have HHA := fun w0 => has_place (F2 O) (mate P O) HX.out hm64 w0
        have hbit := gath_has HG2.out HB2.out hO5
        by_cases hmx : MaxF L (mate P O) O
        · have hd : decide (F2 O / 2 ^ mate P O % 2 = 1) = true := by simpa using hbit.2 hmx
          rw [hd] at HHA
          have HHA : Hid (∀ w0 : World, Calls Tryd.prog 41 #[.int .u64 (F2 O : Nat), .int .i64 (mate P O : Nat)] w0 fun e w' => e = .returned (.bool true) ∧ w' = w0) := HHA
          have HDR : Hid (∀ w0 : World, Cells w0 a F2 b → Calls Tryd.prog 39 #[.pointer (some ⟨a, O, none⟩), .int .i64 (mate P O : Nat)] w0 fun e w' => e = .returned (.tuple #[]) ∧ ∃ q, w' = (w0.drewN q).setCell ⟨a, O, none⟩ (.int .u64 ((F2 O &&& (18446744073709551615 - 2 ^ mate P O) : Nat)))) :=
            fun w0 h0 => drop_any _ (F2 O) _ HX.out hm64 w0 (h0.word hO7) (h0.frozen O)
          have HGS : Hid (Gath L (upF F2 O (F2 O &&& (18446744073709551615 - 2 ^ mate P O))) (up P O) (O+1)) := gath_step HG2.out HB2.out hO5 hmx
          have HFS : Hid (FreeB (delP p L) (up P O) (O+1)) := HIFF.1 hmx
          have HBS : Hid (Blk (up P O) (O+1)) := up_blk HB2.out hO5
          have HPS : Hid (up P O ≤ p ∧ p + 2 ^ o ≤ up P O + 2 ^ (O+1)) := by
            have h1 := HP.out
            have h2 := up_in HB2.out
            exact ⟨by omega, by omega⟩
          have hmin := min_mate HB2.out
          clear hbit hd HIFF hmx hmb HPU HEND HG2
          generalize up P O = U at *
          generalize mate P O = g at *
          have hmn : (g < P ∧ U = g) ∨ (P ≤ g ∧ U = P) := by omega
          clear hmin
          have HC3 : Hid (∀ w5 q5 nq, w5 = (World.drewN (wr.drewN nq) q5).setCell ⟨a, O, none⟩ (.int .u64 ((F2 O &&& (18446744073709551615 - 2 ^ g) : Nat))) → Cells w5 a (upF F2 O (F2 O &&& (18446744073709551615 - 2 ^ g))) b ∧ IsMapI H w5 b 64 (lookI (delP p L)) ∧ Turn a b w w5) := by
            intro w5 q5 nq e
            subst e
            exact ⟨Cells.set (w := (wr.drewN nq).drewN q5) (HC2.out.same rfl) hO7 _, HM2.out.same (Below.heap_setCell ((wr.drewN nq).drewN q5) _ _ b HA.out.ne.symm), HT2.out.trans ((Turn.drewN wr nq).trans ((Turn.drewN _ q5).trans (Turn.setCell _ _ _ rfl)))⟩
          go_wp2
          go_quiet (first | (go_at_call 40; exact Calls.quiet_of_same (HHF.out _)) | (go_at_call 41; exact Calls.quiet_of_same (HHA.out _)))
          go_wp2_with (first | (go_at_call 40; go_must (refine (HHF.out _).mono ?_; rintro e w6 ⟨rfl, rfl⟩)) | (go_at_call 39; fail))
          refine (HDR.out (wr.drewN nq) (HC2.out.same rfl)).mono ?_
          rintro e w5 ⟨rfl, q5, hw5⟩
          obtain ⟨hc5, hm5, ht5⟩ := HC3.out w5 q5 nq hw5
          have HC5 : Hid (Cells w5 a (upF F2 O (F2 O &&& (18446744073709551615 - 2 ^ g))) b) := hc5
          have HM5 : Hid (IsMapI H w5 b 64 (lookI (delP p L))) := hm5
          have HT5 : Hid (Turn a b w w5) := ht5
          clear hw5 hc5 hm5 ht5 HC3 HDR HHA HHF
          rcases hmn with ⟨hl2, hU⟩ | ⟨hl2, hU⟩
          · have hl3 : (g : Int) < (P : Int) := by omega
            have hU := hU.symm
            subst hU
            go_wp2
            go_roundw
            case rel => exact ⟨_, O + 1, _, rfl, by go_num, HC5.out, HGS.out, HBS.out, HFS.out, HPS.out.1, HPS.out.2, HM5.out, HT5.out⟩
            case measure => simp [RowKit.intOf]; omega
          · have hl3 : ¬ (g : Int) < (P : Int) := by omega
            subst hU
            go_wp2
            go_roundw
            case rel => exact ⟨_, O + 1, _, rfl, by go_num, HC5.out, HGS.out, HBS.out, HFS.out, HPS.out.1, HPS.out.2, HM5.out, HT5.out⟩
            case measure => simp [RowKit.intOf]; omega
        · have hd : decide (F2 O / 2 ^ mate P O % 2 = 1) = false := by
            rw [decide_eq_false_iff_not]
            exact fun h => hmx (hbit.1 h)
          rw [hd] at HHA
          have HHA : Hid (∀ w0 : World, Calls Tryd.prog 41 #[.int .u64 (F2 O : Nat), .int .i64 (mate P O : Nat)] w0 fun e w' => e = .returned (.bool false) ∧ w' = w0) := HHA
          have HMX : Hid (Words (upF F2 O (F2 O ||| 2 ^ P)) (delP p L)) := HEND.out ⟨HB2.out, HF2.out, .inr fun h => hmx (HIFF.2 h)⟩
          clear hbit hd HIFF hmx hmb HEND HG2 hm64
          generalize mate P O = g at *
          go_wp2
          go_quiet (first | (go_at_call 40; exact Calls.quiet_of_same (HHF.out _)) | (go_at_call 41; exact Calls.quiet_of_same (HHA.out _)))
          go_wp2_with (go_at_call 36; fail)
          refine (HPU.out (wr.drewN nq) (HC2.out.same rfl)).mono ?_
          rintro e w5 ⟨rfl, q5, hw5⟩
          have HE : Hid (Arena H w5 base a b (delP p L) ∧ Turn a b w w5) := back_end HA.out HC2.out HM2.out HT2.out hO7 HMX.out hw5
          clear hw5
          go_wp2
          go_ret
          rw [HF.out]
          exact ⟨rfl, HE.out⟩
end Go.Proofs.YtjcikoaoemingaaDoor
