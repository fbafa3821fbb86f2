/- The walk of Lend. -/
import Derived.Test.YtjcikoaoemingaaDoorBFirst
import Derived.Test.YtjcikoaoemingaaDoorBuddyS
import Derived.Maps.OwnOps
namespace Go.Proofs.YtjcikoaoemingaaDoor
open Go.RowKit Go.Maps Go.Sort

theorem lookI_ins {L : List (Nat × Nat)} {p o : Nat} (hU : Up L) (hn : ∀ b, b ∈ L → b.1 ≠ p) (z : Int) : lookI (insP p o L) z = if z = (p : Nat) then some (o : Int) else lookI L z := by
  have hU' : Up (insP p o L) := insP_up hU hn
  unfold lookI
  by_cases e : z = (p : Nat)
  · subst e
    rw [if_pos rfl, look_of hU' (mem_insP.2 (.inl rfl))]
    rfl
  · rw [if_neg e]
    congr 1
    cases h : look L z with
    | none =>
      cases h' : look (insP p o L) z with
      | none => rfl
      | some o' =>
        obtain ⟨p', rfl, hm⟩ := look_some h'
        rcases mem_insP.1 hm with e2 | e2
        · cases e2; exact absurd rfl e
        · exact absurd rfl (look_none h _ e2)
    | some o' =>
      obtain ⟨p', rfl, hm⟩ := look_some h
      rw [look_of hU' (mem_insP.2 (.inr hm))]
/-- Halving, as far as order i: (p, j) is taken, its second halves of the orders from i on are free. -/
def Half (L : List (Nat × Nat)) (F : Nat → Nat) (p j i : Nat) : Prop := ∀ m, m < 7 → Bits (F m) fun q => (MaxF L q m ∧ ¬ (q = p ∧ m = j)) ∨ (i ≤ m ∧ m < j ∧ q = p + 2 ^ m)
theorem half_start {L : List (Nat × Nat)} {F : Nat → Nat} {p j : Nat} (h : Words F L) (hp : MaxF L p j) : Half L (upF F j (F j &&& (18446744073709551615 - 2 ^ p))) p j j := by
  intro m hm
  unfold upF
  have hp64 : p < 64 := by have := hp.1.2.2; have := pow_pos2 j; omega
  by_cases e : m = j
  · subst e
    rw [if_pos rfl]
    refine ((h m hm).drop hp64).congr fun q => ?_
    constructor
    · rintro ⟨h1, h2⟩; exact .inl ⟨h1, fun h => h2 h.1⟩
    · rintro (⟨h1, h2⟩ | ⟨h1, h2, _⟩)
      · exact ⟨h1, fun h => h2 ⟨h, rfl⟩⟩
      · omega
  · rw [if_neg e]
    refine (h m hm).congr fun q => ?_
    constructor
    · exact fun h => .inl ⟨h, fun h => e h.2⟩
    · rintro (⟨h1, _⟩ | ⟨h1, h2, _⟩)
      · exact h1
      · omega
theorem half_step {L : List (Nat × Nat)} {F : Nat → Nat} {p j i : Nat} (h : Half L F p j (i+1)) (hp : Blk p j) (hi : i < j) : Half L (upF F i (F i ||| 2 ^ (p + 2 ^ i))) p j i := by
  intro m hm
  unfold upF
  have h64 : p + 2 ^ i < 64 := by
    have := (half_blk hp hi).1.2.2
    have := pow_pos2 i
    omega
  by_cases e : m = i
  · subst e
    rw [if_pos rfl]
    refine ((h m hm).put h64).congr fun q => ?_
    constructor
    · rintro ((h | ⟨h1, _⟩) | h)
      · exact .inl h
      · omega
      · exact .inr ⟨Nat.le_refl _, hi, h⟩
    · rintro (h | ⟨_, _, h⟩)
      · exact .inl (.inl h)
      · exact .inr h
  · rw [if_neg e]
    refine (h m hm).congr fun q => ?_
    constructor
    · rintro (h | ⟨h1, h2, h3⟩)
      · exact .inl h
      · exact .inr ⟨by omega, h2, h3⟩
    · rintro (h | ⟨h1, h2, h3⟩)
      · exact .inl h
      · exact .inr ⟨by omega, h2, h3⟩
theorem half_end {L : List (Nat × Nat)} {F : Nat → Nat} {p j o : Nat} (h : Half L F p j o) (hp : MaxF L p j) (ho : o ≤ j) : Words F (insP p o L) := fun m hm => (h m hm).congr fun q => (lend_words hp ho q m).symm
/-- The other half of the block from p on, where p begins a greater one. -/
theorem mate_first {p j i : Nat} (hp : Blk p j) (hi : i < j) : mate p i = p + 2 ^ i := by
  unfold mate
  rw [if_pos (mod_less (show i + 1 ≤ j by omega) hp.2.1)]
theorem blk_less {p j i : Nat} (hp : Blk p j) (hi : i ≤ j) : Blk p i := ⟨by have := hp.1; omega, mod_less hi hp.2.1, by have := pow_le hi; have := hp.2.2; omega⟩

set_option maxHeartbeats 2000000 in
theorem lend_any (H : Type) (base a b : Nat) (L : List (Nat × Nat)) (k : Int) (w : World) (hA : Arena H w base a b L) (hT : Tabbed w) (hpos : 1 < base) :
    Calls Tryd.prog 22 #[.pointer (some ⟨a, 0, none⟩), .int .i64 k] w fun e w' => e = .returned (.tuple #[.int .i64 ((lendF L k).1 : Nat), errV (lendF L k).2.1]) ∧ Arena H w' base a b (lendF L k).2.2 ∧ Turn a b w w' := by
  by_cases hk : k < 0 ∨ 6 < k
  · have hb : (decide (k < 0) || decide (6 < k)) = true := by simpa using hk
    have HF : Hid (lendF L k = (0, 1, L)) := by unfold Hid lendF; rw [if_pos hk]
    have HA : Hid (Arena H w base a b L) := hA
    clear hA hT hpos hk
    go_enter Tryd.func22, Tryd.ntmps22
    go_wp2_with (go_at_call 37; go_must (refine (none_any k _).mono ?_; rw [hb]; rintro e w1 ⟨rfl, rfl⟩))
    go_ret2
    rw [HF.out]
    exact ⟨rfl, HA.out, Turn.refl _ _ _⟩
  · have hb : (decide (k < 0) || decide (6 < k)) = false := by simpa using hk
    obtain ⟨o, rfl⟩ : ∃ o : Nat, k = o := ⟨k.toNat, by omega⟩
    have ho : o ≤ 6 := by omega
    have HF : Hid (lendF L (o : Nat) = match room L o with | none => (0, 4, L) | some (p, _) => (p, 0, insP p o L)) := by unfold Hid lendF; rw [if_neg hk]; rfl
    clear hk
    obtain ⟨⟨F, hC, hW⟩, hM, hO, hU, hfa, hfb⟩ := hA
    have HA : Hid (Arena H w base a b L) := ⟨⟨F, hC, hW⟩, hM, hO, hU, hfa, hfb⟩
    have HC : Hid (Cells w a F b) := hC
    have HW : Hid (Words F L) := hW
    have HT : Hid (Tabbed w) := hT
    have HP : Hid (1 < base) := hpos
    clear hC hW hM hO hU hfa hfb hT hpos
    go_enter Tryd.func22, Tryd.ntmps22
    go_wp2_with (go_at_call 37; go_must (refine (none_any (o : Nat) _).mono ?_; rw [hb]; rintro e w1 ⟨rfl, hw1⟩; have hw1 := hw1.symm; subst hw1))
    clear hb
    go_loopw [6] (fun i wr => ∃ j : Nat, o ≤ j ∧ j ≤ 7 ∧ i = .int .i64 (j : Nat) ∧ wr = w ∧ roomAt L (7 - j) j = room L o) (fun i _ => 7 - (RowKit.intOf i).toNat)
    case atStart => exact ⟨o, Nat.le_refl _, by omega, rfl, rfl, rfl⟩
    case round =>
      obtain ⟨j, hj1, hj2, rfl, rfl, hr⟩ := hrel
      by_cases hj6 : j ≤ 6
      · have hfw := HC.out.word (show j < 7 by omega)
        by_cases hz : F j = 0
        · have hr2 : roomAt L (7 - (j+1)) (j+1) = room L o := by
            rw [← hr, show 7 - j = (7 - (j+1)) + 1 by omega]
            exact (roomAt_skip hj6 ((HW.out j (by omega)).zero.1 hz)).symm
          rw [hz] at hfw
          have hj7 : j < 7 := by omega
          have HR : Hid (roomAt L (7 - (j+1)) (j+1) = room L o) := hr2
          clear hr hr2 hz
          go_wp2
          go_roundw
          case rel => exact ⟨j + 1, by omega, by omega, by go_num, trivial, HR.out⟩
          case measure => simp [RowKit.intOf]; omega
        · obtain ⟨hp1, hp2, hp3⟩ := (HW.out j (by omega)).first hz
          have hx := (HW.out j (by omega)).1
          have hzi : ((F j : Int) == 0) = false := by simpa using hz
          have HFI : Hid (∀ w0 : World, Tabbed w0 → Calls Tryd.prog 38 #[.int .u64 (F j : Nat)] w0 fun e w' => e = .returned (.int .i64 (Lib.ctz 64 (F j) : Nat)) ∧ w' = w0) := fun w0 h0 => first_any (F j) hx hz w0 h0
          have HS : Hid (Half L (upF F j (F j &&& (18446744073709551615 - 2 ^ Lib.ctz 64 (F j)))) (Lib.ctz 64 (F j)) j j) := half_start HW.out hp1
          have HRM : Hid (room L o = some (Lib.ctz 64 (F j), j)) := by
            unfold Hid
            rw [← hr, show 7 - j = (6 - j) + 1 by omega]
            exact roomAt_here hj6 hp1 hp3
          have HDR : Hid (∀ w0 : World, Cells w0 a F b → Calls Tryd.prog 39 #[.pointer (some ⟨a, j, none⟩), .int .i64 (Lib.ctz 64 (F j) : Nat)] w0 fun e w' => e = .returned (.tuple #[]) ∧ ∃ q, w' = (w0.drewN q).setCell ⟨a, j, none⟩ (.int .u64 ((F j &&& (18446744073709551615 - 2 ^ Lib.ctz 64 (F j)) : Nat)))) :=
            fun w0 h0 => drop_any _ (F j) _ hx hp2 w0 (h0.word (by omega)) (h0.frozen j)
          clear hr hx hz hp3
          have HM1 : Hid (MaxF L (Lib.ctz 64 (F j)) j) := hp1
          clear hp1
          generalize Lib.ctz 64 (F j) = p at *
          generalize F j &&& (18446744073709551615 - 2 ^ p) = y at *
          generalize F j = x at *
          have hj7 : j < 7 := by omega
          have hj6' : ¬ (6 : Int) < (j : Int) := by omega
          go_wp2_with (first | (go_at_call 38; go_must (refine (HFI.out _ HT.out).mono ?_; rintro e w1 ⟨rfl, hw1⟩; have hw1 := hw1.symm; subst hw1)) | (go_at_call 39; fail))
          refine (HDR.out _ HC.out).mono ?_
          rintro e w1 ⟨rfl, q1, hw1⟩
          have HC1 : Hid (Cells w1 a (upF F j y) b) := by unfold Hid; rw [hw1]; exact Cells.set (w := wr.drewN q1) HC.out hj7 y
          have HT1 : Hid (Turn a b wr w1) := by unfold Hid; rw [hw1]; exact (Turn.drewN wr q1).trans (Turn.setCell _ _ _ rfl)
          have HM2 : Hid (IsMapI H w1 b 64 (lookI L)) := by unfold Hid; rw [hw1]; exact HA.out.map.same (Below.heap_setCell (wr.drewN q1) _ _ b HA.out.ne.symm)
          clear hw1 HFI HDR hzi hfw
          generalize upF F j y = F1 at *
          clear HC
          obtain ⟨wA, hwA⟩ : ∃ wA, wA = wr := ⟨_, rfl⟩
          subst hwA
          go_wp2
          go_loopw [6] (fun i wq => ∃ (m : Nat) (F2 : Nat → Nat), o ≤ m ∧ m ≤ j ∧ i = .int .i64 (m : Nat) ∧ Cells wq a F2 b ∧ Half L F2 p j m ∧ IsMapI H wq b 64 (lookI L) ∧ Turn a b wA wq) (fun i _ => (RowKit.intOf i).toNat)
          case atStart => exact ⟨j, F1, hj1, Nat.le_refl _, rfl, HC1.out, HS.out, HM2.out, HT1.out⟩
          case round =>
            obtain ⟨m, F2, hm1, hm2, rfl, hC2, hS2, hM2, hT2⟩ := hrel
            clear HC1 HS HM2 HT1
            by_cases hmo : m = o
            · subst hmo
              have HC2 : Hid (Cells wr a F2 b) := hC2
              have HWD : Hid (Words F2 (insP p m L)) := half_end hS2 HM1.out hm2
              have HT2 : Hid (Turn a b wA wr) := hT2
              obtain ⟨D, hown, htell⟩ := hM2
              have HOW : Hid (wr.ownsMap Tryd.prog 3 (plainElem Tryd.prog 3) b 64 D) := hown
              have HTE : Hid (∀ z, TellI D z (lookI L z)) := htell
              have hcm := hC2.map
              have HK : Hid (keyOf Tryd.prog 3 (.int .i64 (p : Nat)) = some (.int .i64 (p : Nat))) := keyOf_int (wf64 (by omega) (by omega))
              have HV : Hid (plainElem (H := H) Tryd.prog 3 (.int .i64 (m : Nat)) = some (.lit (.int .i64 (m : Nat)), [])) := plainElem_int Tryd.underlying3 (wf64 (by omega) (by omega))
              clear hC2 hS2 hT2 hown htell
              go_wp2_with (at_mapUpdate; refine wpList_mapUpdate_own _ rfl _ _ _ 68 rfl 3 3 int_keys Tryd.underlying68 _ b 64 D rfl HOW.out (by unfold maxLen; omega) _ _ _ rfl rfl HK.out _ [] HV.out ?_; intro w4 hown4 hgrow4)
              go_ret2
              rw [HF.out, HRM.out]
              have hap := free_apart HM1.out
              obtain ⟨hU, hO⟩ := lent_ok HA.out.up HA.out.okay HM1.out hm2
              have hne := HA.out.ne
              refine ⟨rfl, ⟨⟨F2, HC2.out.same (hgrow4.block a HC2.out.lt (by simp [hne])), HWD.out⟩, ?_, hO, hU, HA.out.fromA, HA.out.fromB⟩, HT2.out.trans (Turn.grownB hgrow4)⟩
              refine IsMapI.tight (n := 64 + 1) ⟨_, hown4, fun z => ?_⟩ (lookI_keys hO)
              show TellI _ z (lookI (insP p m L) z)
              rw [lookI_ins HA.out.up hap z]
              exact tell_put HOW.out.isMap HTE.out _ _ z
            · obtain ⟨n, rfl⟩ : ∃ n, m = n + 1 := ⟨m - 1, by omega⟩
              have hno : o ≤ n := by omega
              have hnj : n < j := by omega
              have hn7 : n < 7 := by omega
              have hwn : IntKind.i64.wrap (((n + 1 : Nat) : Int) - 1) = (n : Nat) := by rw [IntKind.wrap_i64]; omega
              have hgt : (o : Int) < ((n + 1 : Nat) : Int) := by omega
              have HHF : Hid (∀ w0 : World, Calls Tryd.prog 40 #[.int .i64 (p : Nat), .int .i64 (n : Nat)] w0 fun e w' => e = .returned (.int .i64 ((p + 2 ^ n : Nat))) ∧ w' = w0) := fun w0 => by
                have := half_any p n (blk_less HM1.out.1 (by omega)) w0
                rwa [mate_first HM1.out.1 hnj] at this
              have hg64 : p + 2 ^ n < 64 := by
                have := (half_blk HM1.out.1 hnj).1.2.2
                have := pow_pos2 n
                omega
              have HPU : Hid (∀ w0 : World, Cells w0 a F2 b → Calls Tryd.prog 36 #[.pointer (some ⟨a, n, none⟩), .int .i64 ((p + 2 ^ n : Nat))] w0 fun e w' => e = .returned (.tuple #[]) ∧ ∃ q, w' = (w0.drewN q).setCell ⟨a, n, none⟩ (.int .u64 ((F2 n ||| 2 ^ (p + 2 ^ n) : Nat)))) :=
                fun w0 h0 => put_any _ (F2 n) _ (hS2 n hn7).1 hg64 w0 (h0.word hn7) (h0.frozen n)
              have HS2 : Hid (Half L (upF F2 n (F2 n ||| 2 ^ (p + 2 ^ n))) p j n) := half_step hS2 HM1.out.1 hnj
              have HC2 : Hid (Cells wr a F2 b) := hC2
              have HM2 : Hid (IsMapI H wr b 64 (lookI L)) := hM2
              have HT2 : Hid (Turn a b wA wr) := hT2
              clear hC2 hM2 hT2 hS2 hg64
              generalize hmn : ((n + 1 : Nat) : Int) = i1 at *
              have HMN : Hid (((n + 1 : Nat) : Int) = i1) := hmn
              clear hmn hmo
              generalize p + 2 ^ n = g at *
              generalize F2 n ||| 2 ^ g = x2 at *
              go_wp2
              refine wp_region_quiet_last 10 (by kernel_rfl) (by kernel_rfl) ?_
              simp only [List.take_succ_cons, List.take_zero, List.drop_succ_cons, List.drop_zero]
              repeat (go_big_quiet_step (first | (go_at_call 40; exact Calls.quiet_of_same (HHF.out _))))
              refine wpQuiet_nil ?_
              intro _ hw'
              obtain ⟨nq, hw''⟩ := hw'
              subst hw''
              go_wp2_with (go_at_call 36; fail)
              refine (HPU.out (wr.drewN nq) (HC2.out.same rfl)).mono ?_
              rintro e w5 ⟨rfl, q5, hw5⟩
              have HC5 : Hid (Cells w5 a (upF F2 n x2) b) := by unfold Hid; rw [hw5]; exact Cells.set (w := (wr.drewN nq).drewN q5) (HC2.out.same rfl) hn7 x2
              have HT5 : Hid (Turn a b wA w5) := by unfold Hid; rw [hw5]; exact HT2.out.trans ((Turn.drewN wr nq).trans ((Turn.drewN _ q5).trans (Turn.setCell _ _ _ rfl)))
              have HM5 : Hid (IsMapI H w5 b 64 (lookI L)) := by unfold Hid; rw [hw5]; exact HM2.out.same (Below.heap_setCell ((wr.drewN nq).drewN q5) _ _ b HA.out.ne.symm)
              clear hw5
              go_wp2
              go_roundw
              case rel => exact ⟨n, upF F2 n x2, hno, by omega, by go_num, HC5.out, HS2.out, HM5.out, HT5.out⟩
              case measure => have := HMN.out; simp [RowKit.intOf]; omega
      · have hj7 : j = 7 := by omega
        subst hj7
        have hj8 : ¬ ((7 : Nat) : Int) ≤ 6 := by omega
        have HR : Hid (room L o = none) := hr.symm
        clear hr
        go_wp2
        go_ret2
        rw [HF.out, HR.out]
        exact ⟨rfl, HA.out, Turn.refl _ _ _⟩
end Go.Proofs.YtjcikoaoemingaaDoor
