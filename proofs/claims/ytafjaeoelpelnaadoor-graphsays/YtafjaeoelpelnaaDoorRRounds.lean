/- The walk of the document's Rounds (larderwickref2): what can be come to from itself. -/
import Derived.Test.YtafjaeoelpelnaaDoorRFrom
import Derived.Test.YtafjaeoelpelnaaDoorRefSet
import Derived.Test.YtafjaeoelpelnaaDoorSince
import Derived.Test.YtafjaeoelpelnaaDoorHasAt
namespace Go.Proofs.YtafjaeoelpelnaaDoor
set_option maxRecDepth 100000
open Go.RowKit Go.Sort

theorem from_since {vo vl : Value} {L : List (List Int)} {R S : List Int} {w0 W : World} (ho : IsRows w0 vo L) (hl : IsInts w0 vl S) (hf : FineH L R) (hS : ∀ x, x ∈ S → 0 ≤ x ∧ x < L.length) (hb : Hid (Below w0.heap.size w0 W)) :
    Calls Tryd.prog 8 #[vo, vl] W fun e w' => ∃ v', e = .returned v' ∧ ∃ A, Hid (IsInts w' v' A) ∧ Hid (IsFrom (gOf L) S A) ∧ Hid (Below w0.heap.size w0 w') := by
  refine (rfrom_any vo vl L R S W (ho.below hb.out) (hl.below hb.out) hf hS).mono ?_
  rintro e w' ⟨v', rfl, A, hO, hF, hb2⟩
  exact ⟨v', rfl, A, hO.isInts, hF, hb.out.trans (hb2.mono hb.out.size)⟩
theorem has_here {v : Value} {l : List Int} {x : Int} {W : World} (hv : Hid (IsInts W v l)) : Calls Tryd.prog 16 #[v, .int .i64 x] W fun e w' => ∃ c, e = .returned (.bool c) ∧ Hid (l.contains x = c) ∧ w' = W := by
  refine (has_any v l x W hv.out).mono ?_
  rintro e w' ⟨rfl, rfl⟩
  exact ⟨_, rfl, rfl, rfl⟩
/-- Those of the first k nodes that come to themselves, rising. -/
def RlD (L : List (List Int)) (k : Nat) (l : List Int) : Prop := l.length ≤ k ∧ l.Nodup ∧ ∀ x, x ∈ l ↔ 0 ≤ x ∧ x < k ∧ Ring (gOf L) x
theorem rld_yes {L : List (List Int)} {k : Nat} {l : List Int} (h : RlD L k l) (hr : Ring (gOf L) (k : Int)) : RlD L (k+1) (l ++ [(k : Int)]) := by
  obtain ⟨h1, h2, h3⟩ := h
  refine ⟨by rw [List.length_append]; simp; exact h1, ?_, fun x => ?_⟩
  · rw [List.nodup_append]
    refine ⟨h2, by simp, fun a ha b hb => ?_⟩
    rw [List.mem_singleton] at hb
    have := (h3 a).1 ha
    omega
  rw [List.mem_append, h3, List.mem_singleton]
  constructor
  · rintro (⟨h1, h2, h3⟩ | rfl)
    · exact ⟨h1, by omega, h3⟩
    · exact ⟨by omega, by omega, hr⟩
  · rintro ⟨h1, h2, h3⟩
    by_cases e : x = k
    · exact .inr e
    · exact .inl ⟨h1, by omega, h3⟩
theorem rld_no {L : List (List Int)} {k : Nat} {l : List Int} (h : RlD L k l) (hr : ¬ Ring (gOf L) (k : Int)) : RlD L (k+1) l := by
  obtain ⟨h1, h2, h3⟩ := h
  refine ⟨by omega, h2, fun x => ?_⟩
  rw [h3]
  constructor
  · rintro ⟨h1, h2, h3⟩; exact ⟨h1, by omega, h3⟩
  · rintro ⟨h1, h2, h3⟩
    refine ⟨h1, ?_, h3⟩
    by_cases e : x = k
    · subst e; exact absurd h3 hr
    · omega
set_option maxHeartbeats 2000000 in
theorem rrounds_any (v : Value) (L : List (List Int)) (R : List Int) (w : World) (hv : IsHeap w v L R) (hf : FineH L R) :
    Calls Tryd.prog 9 #[v] w fun e w' => (∃ l, e = .returned (.int .i64 (setN l)) ∧ RlD L L.length l) ∧ Below w.heap.size w w' := by
  obtain ⟨ao, co, ar, cr, rfl, h1, h2⟩ := hv.form
  have HBX : Hid (Boxed w (w.alloc (.cells #[.slice ao L.length co, .slice ar R.length cr] 25)) w.heap.size ao co ar cr L R) := boxed h1 h2 _
  have hcO := HBX.out.capO
  have HF : Hid (FineH L R) := hf
  have hl12 := HF.out.few
  obtain ⟨i0, hi, hz0, hz1, hz2⟩ := info_parts Tryd.info3
  have HI : Hid (Tryd.prog.info? 3 = some i0 ∧ i0.zero = some (.int .i64 0) ∧ i0.size = 1 ∧ i0.bytes = 8) := ⟨hi, hz0, hz1, hz2⟩
  clear hv h1 h2 hf hi hz0 hz1 hz2
  go_enter Tryd.func9, Tryd.ntmps9
  go_wp2
  generalize w.alloc (.cells #[.slice ao L.length co, .slice ar R.length cr] 25) = W at *
  go_loopw [3, 4] (fun rv i wr => ∃ (k : Nat) (l : List Int), k ≤ L.length ∧ i = .int .i64 (k : Nat) ∧ OwnI wr W.heap.size rv l ∧ Hid (RlD L k l) ∧ Below W.heap.size W wr) (fun _ i _ => L.length - (intOf i).toNat)
  case atStart => exact ⟨0, [], Nat.zero_le _, rfl, OwnI.nil _ _, ⟨Nat.le_refl _, by simp, fun x => by simp; omega⟩, Below.refl _ _⟩
  case round =>
    obtain ⟨k, l, hk, rfl, hO, HRL, hbel⟩ := hrel
    have HO : Hid (OwnI wr W.heap.size u3 l) := hO
    have HB3 : Hid (Boxed w wr w.heap.size ao co ar cr L R) := HBX.out.later hbel
    have HBEL : Hid (Below W.heap.size W wr) := hbel
    have hll := HRL.out.1
    clear hO hbel
    have hd0 : wr.cell? ⟨w.heap.size, 0, none⟩ = some (.slice ao L.length co) := HB3.out.outs
    by_cases hlt : k < L.length
    · have hlt' : (k : Int) < (L.length : Int) := by omega
      obtain ⟨b, off, rfl, hlc, hbs, au, cu, hcu, hiu, hmm, hcum⟩ := HB3.out.rows.at hlt
      have HIU : Hid (IsInts wr (.slice au (rowAt L k).length cu) (rowAt L k)) := hiu
      have HRN : Hid (∀ x, x ∈ rowAt L k → 0 ≤ x ∧ x < L.length) := HF.out.node _ (rowAt_mem hlt)
      have HG : Hid (gOf L (k : Int) = rowAt L k) := gOf_at k
      clear hiu hbs
      go_wp2_with fail
      go_region_held3 (fun w' => w'.cell? ⟨w.heap.size, 0, none⟩ = some (.slice (some ⟨b, off, none⟩) L.length co) ∧ w'.cell? ⟨b, off + k, none⟩ = some (.slice au (rowAt L k).length cu) ∧ Hid (Below wr.heap.size wr w'))
        ((go_split_ands; refine ⟨kept_cell hd0 ?_, kept_cell hcu ?_, ?_⟩ <;> first | assumption | (apply kept_drew; first | assumption | exact kept_start _) | exact kept_start _))
        (first | (go_at_call 8; go_split_ands; refine (from_since HB3.out.rows HIU.out HF.out HRN.out (by assumption)).mono ?_; rintro e w3 ⟨v', rfl, A, HA3, HFR, HB4⟩) | (go_at_call 16; refine (has_here HA3).mono ?_; rintro e w4 ⟨c, rfl, HCA, rfl⟩))
      have hs4 := HB4.out.size
      have HO4 : Hid (OwnI w4 W.heap.size u3 l) := HO.out.later HB4.out
      have HBEL4 : Hid (Below W.heap.size W w4) := HBEL.out.trans (HB4.out.mono HBEL.out.size)
      have HBIT : Hid (c = true ↔ Ring (gOf L) (k : Int)) := by
        unfold Hid
        rw [← HCA.out, List.contains_iff_mem, (HFR.out.mem).2, ← HG.out]
        exact Iff.rfl
      have hs2 := HBEL4.out.size
      clear HBEL HB4 HO HFR HA3 HCA
      cases c with
      | true =>
        have HRL2 : Hid (RlD L (k+1) (l ++ [(k : Int)])) := rld_yes HRL.out (HBIT.out.1 rfl)
        clear HBIT
        go_wp2_with (at_builtin; go_must (refine wpList_append_own _ rfl _ _ 23 rfl W.heap.size 3 i0 (.int .i64 0) 1 8 Tryd.underlying23 HI.out.1 HI.out.2.1 HI.out.2.2.1 HI.out.2.2.2 rfl (by decide) _ l.length (l.map (Value.int .i64)) rfl (World.ownsRow.alloc (HO4.out.rows rfl rfl) _) ⟨w4.heap.size, 0, none⟩ 1 1 [.int .i64 (k : Int)] rfl rfl (by exact new_one _ _ _) (one_cell _) (by unfold maxLen; omega) (by omega) (by simp; omega) ?_; intro vo' w5 hown' hgrow _; have HOW := own_append HO4.out HBEL4.out (Nat.le_refl _) hown' hgrow; have HOW := And.intro (show Hid _ from HOW.1) (show Hid _ from HOW.2); clear hown' hgrow))
        go_roundw
        case rel => exact ⟨k + 1, l ++ [(k : Int)], by omega, by go_num, HOW.1.out, HRL2, HOW.2.out⟩
        case measure => simp [intOf]; omega
      | false =>
        have HRL2 : Hid (RlD L (k+1) l) := rld_no HRL.out (fun h => by have := HBIT.out.2 h; cases this)
        clear HBIT
        go_wp2
        go_roundw
        case rel => exact ⟨k + 1, l, by omega, by go_num, HO4.out, HRL2, HBEL4.out⟩
        case measure => simp [intOf]; omega
    · have hlt' : ¬ (k : Int) < (L.length : Int) := by omega
      have HRL2 : Hid (RlD L L.length l) := by have := HRL.out; rwa [show k = L.length by omega] at this
      have HL16 : Hid (allIn l) := fun x hx => by have := (HRL2.out.2.2 x).1 hx; omega
      have HBF : Hid (Below w.heap.size w wr) := HB3.out.below
      go_wp2_with (go_at_call 7; go_must (refine (refset_any _ l _ HO.out.isInts HL16.out (by omega)).mono ?_; rintro e w' ⟨rfl, hw⟩; have hw := hw.symm; subst hw))
      go_ret
      exact ⟨⟨l, rfl, HRL2.out⟩, HBF.out⟩
end Go.Proofs.YtafjaeoelpelnaaDoor
