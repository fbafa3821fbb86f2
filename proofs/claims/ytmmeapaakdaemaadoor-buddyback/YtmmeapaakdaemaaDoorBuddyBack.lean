/- The walk of BuddyBack: when all is given back all is one block again, in whatever order. -/
import Derived.Test.YtmmeapaakdaemaaDoorBFact
namespace Go.Proofs.YtmmeapaakdaemaaDoor
open Go.RowKit Go.Maps Go.Sort

theorem delP_none {p : Nat} {L : List (Nat × Nat)} (h : ∀ b, b ∈ L → b.1 ≠ p) : delP p L = L := by
  unfold delP
  rw [List.filter_eq_self]
  intro b hb
  simp [h b hb]
theorem back_head {p o : Nat} {R : List (Nat × Nat)} (hU : Up ((p, o) :: R)) : backF ((p, o) :: R) (p : Nat) = (0, R) := by
  unfold backF
  rw [look_of hU (List.mem_cons_self)]
  show (0, delP p ((p, o) :: R)) = _
  have h := (List.pairwise_cons.1 hU).1
  have : delP p ((p, o) :: R) = delP p R := by unfold delP; rw [List.filter_cons]; simp
  rw [this, delP_none fun b hb e => by have := h b hb; simp only at this; omega]
theorem back_last {p o : Nat} {R : List (Nat × Nat)} (hU : Up (R ++ [(p, o)])) : backF (R ++ [(p, o)]) (p : Nat) = (0, R) := by
  unfold backF
  rw [look_of hU (show (p, o) ∈ R ++ [(p, o)] by simp)]
  show (0, delP p (R ++ [(p, o)])) = _
  have h := (List.pairwise_append.1 hU).2.2
  have : delP p (R ++ [(p, o)]) = delP p R := by unfold delP; rw [List.filter_append]; simp
  rw [this, delP_none fun b hb e => by have := h b hb (p, o) (by simp); simp only at this; omega]
/-- What is still lent behind k of them. -/
def rest (forth : Bool) (L : List (Nat × Nat)) (k : Nat) : List (Nat × Nat) := if forth then L.drop k else L.take (L.length - k)
theorem rest_start (forth : Bool) (L : List (Nat × Nat)) : rest forth L 0 = L := by unfold rest; cases forth <;> simp
theorem rest_end (forth : Bool) (L : List (Nat × Nat)) : rest forth L L.length = [] := by unfold rest; cases forth <;> simp
theorem rest_forth {L : List (Nat × Nat)} (hU : Up L) {k : Nat} (hk : k < L.length) : backF (rest true L k) ((L[k]).1 : Nat) = (0, rest true L (k+1)) := by
  have e : L.drop k = ((L[k]).1, (L[k]).2) :: L.drop (k+1) := List.drop_eq_getElem_cons hk
  unfold rest
  rw [if_pos rfl, if_pos rfl, e]
  exact back_head (by rw [← e]; exact List.Pairwise.sublist (List.drop_sublist k L) hU)
theorem rest_back {L : List (Nat × Nat)} (hU : Up L) {k m : Nat} (hm : m + 1 + k = L.length) : backF (rest false L k) ((L[m]'(by omega)).1 : Nat) = (0, rest false L (k+1)) := by
  have hlt : m < L.length := by omega
  have e : L.take (m+1) = L.take m ++ [((L[m]).1, (L[m]).2)] := List.take_succ_eq_append_getElem hlt
  unfold rest
  rw [if_neg (by simp), if_neg (by simp), show L.length - k = m + 1 by omega, show L.length - (k+1) = m by omega, e]
  exact back_last (by rw [← e]; exact List.Pairwise.sublist (List.take_sublist (m+1) L) hU)
theorem ats_cells {w : World} {L : List (Nat × Nat)} {ao : Option Addr} {cap : Nat} (h : IsInts w (.slice ao L.length cap) (atsI L)) (hp : 0 < L.length) : ∃ g off, ao = some ⟨g, off, none⟩ ∧ L.length ≤ cap ∧ cap ≤ maxLen ∧ ∀ (j : Nat) (hj : j < L.length), w.cell? ⟨g, off + j, none⟩ = some (.int .i64 ((L[j]).1 : Nat)) := by
  rcases h with ⟨h0, _⟩ | ⟨g, off, cap', hv, hp, hlc, hm, hc⟩
  · have := congrArg List.length h0
    rw [atsI_length] at this
    simp only [List.length_nil] at this
    omega
  · rw [atsI_length] at hv hlc hp hc
    simp only [Value.slice.injEq, true_and] at hv
    obtain ⟨rfl, rfl⟩ := hv
    refine ⟨g, off, rfl, hlc, hm, fun j hj => ?_⟩
    rw [hc j hj, atsI_get hj]
theorem free_end6 : freeI [] 6 = [0] := by decide +kernel
theorem free_end0 : freeI [] 0 = [] := by decide +kernel

set_option maxRecDepth 100000 in
set_option maxHeartbeats 2000000 in
theorem buddyBack_any (v : Value) (l : List Int) (forth : Bool) (w : World) (hv : IsInts w v l) (hform : ∃ ao cap, v = .slice ao l.length cap) (hT : Tabbed w) :
    Calls Tryd.prog 4 #[v, .bool forth] w fun e w' => e = .returned (.bool true) ∧ Below w.heap.size w w' := by
  have HT : Hid (Tabbed w) := hT
  have HTL : Hid (0 < w.heap.size) := hT.lt
  have HV : Hid (IsInts w v l) := hv
  have HFO : Hid (∃ ao cap, v = .slice ao l.length cap) := hform
  clear hT hv hform
  go_enter Tryd.func4, Tryd.ntmps4
  go_wp2_with (go_at_call 7; fail)
  refine (fact_any _ HT.out).mono ?_
  rintro e w1 ⟨rfl, hb⟩
  have HB1 : Hid (Below w.heap.size w w1) := hb
  clear hb
  go_wp2_with (go_at_call 8; fail)
  refine (lent_some v l _ (HV.out.below HB1.out) HFO.out (HT.out.below HB1.out HTL.out)).mono ?_
  rintro e w2 ⟨a, rfl, ⟨b, L, hA⟩, hb⟩
  have HA2 : Hid (Arena Unit w2 w1.heap.size a b L) := hA
  have HB2 : Hid (Below w.heap.size w w2) := HB1.out.trans (hb.mono HB1.out.size)
  have HTL1 : Hid (0 < w1.heap.size) := Nat.lt_of_lt_of_le HTL.out HB1.out.size
  have HB12 : Hid (w.heap.size ≤ w1.heap.size) := HB1.out.size
  clear hA hb HB1 HV HFO
  go_wp2_with (go_at_call 9; fail)
  refine (lent_any Unit _ _ _ _ _ HA2.out).mono ?_
  rintro e w3 ⟨v1, v2, rfl, B, hB, ho1, _, _, hb⟩
  have HA3 : Hid (Arena Unit w3 w1.heap.size a b L) := HA2.out.later hb
  have HB3 : Hid (Below w.heap.size w w3) := HB2.out.trans (hb.mono HB2.out.size)
  have HO3 : Hid (OwnI w3 w2.heap.size v1 (atsI L)) := ho1
  clear ho1 hb HA2 HB2 hB
  obtain ⟨ao, cap, hvf⟩ := HO3.out.form
  rw [atsI_length] at hvf
  subst hvf
  have hn64 : L.length ≤ 64 := lent_most HA3.out.up HA3.out.okay
  go_wp2
  go_loopw [9, 10] (fun i _ wr => ∃ k : Nat, i = .int .i64 (k : Nat) ∧ k ≤ L.length ∧ Arena Unit wr w1.heap.size a b (rest forth L k) ∧ Below w.heap.size w wr ∧ OwnI wr w2.heap.size (.slice ao L.length cap) (atsI L)) (fun i _ _ => L.length - (RowKit.intOf i).toNat)
  case atStart => exact ⟨0, rfl, Nat.zero_le _, by rw [rest_start]; exact HA3.out, HB3.out, HO3.out⟩
  case round =>
    obtain ⟨k, rfl, hk, hA, hb, ho⟩ := hrel
    have HA4 : Hid (Arena Unit wr w1.heap.size a b (rest forth L k)) := hA
    have HB4 : Hid (Below w.heap.size w wr) := hb
    have HO4 : Hid (OwnI wr w2.heap.size (.slice ao L.length cap) (atsI L)) := ho
    have HUL : Hid (Up L) := HA3.out.up
    have HOL : Hid (Okay L) := HA3.out.okay
    clear hA hb ho HA3 HB3 HO3
    by_cases hkl : k = L.length
    · have HA5 : Hid (Arena Unit wr w1.heap.size a b []) := by
        have := HA4.out
        rwa [hkl, rest_end] at this
      have hlt : ¬ (k : Int) < (L.length : Int) := by omega
      clear HA4 hkl
      go_wp2_with (go_at_call 9; fail)
      refine (lent_any Unit _ _ _ _ _ HA5.out).mono ?_
      rintro e w6 ⟨v3, v4, rfl, B, hB, ho1, _, _, hb⟩
      have HA6 : Hid (Arena Unit w6 w1.heap.size a b []) := HA5.out.later hb
      have HB6 : Hid (Below w.heap.size w w6) := HB4.out.trans (hb.mono HB4.out.size)
      obtain ⟨ao3, cap3, hv3⟩ := ho1.form
      rw [show (atsI []).length = 0 from rfl] at hv3
      subst hv3
      clear ho1 hb HA5 HB4 hB
      go_wp2_with (go_at_call 10; fail)
      refine (free_any Unit _ _ _ _ _ _ HA6.out (HT.out.below HB6.out HTL.out)).mono ?_
      rw [free_end6]
      rintro e w7 ⟨v7, rfl, ho, hb⟩
      have HA7 : Hid (Arena Unit w7 w1.heap.size a b []) := HA6.out.later hb
      have HB7 : Hid (Below w.heap.size w w7) := HB6.out.trans (hb.mono HB6.out.size)
      have HO7 : Hid (IsInts w7 v7 [0]) := ho.isInts
      clear ho hb HA6 HB6
      go_wp2_with (go_at_call 14; fail)
      refine (ints_same _ _ [0] _ (HO7.out.below ((Below.refl _ w7).alloc (Nat.le_refl _) _)) (one_new _ _)).mono ?_
      rintro e w8 ⟨rfl, q8, hw8⟩
      have hb8 : Below w7.heap.size w7 w8 := by rw [hw8]; exact below_drewN ((Below.refl _ w7).alloc (Nat.le_refl _) _) q8
      have HA8 : Hid (Arena Unit w8 w1.heap.size a b []) := HA7.out.later hb8
      have HB8 : Hid (Below w.heap.size w w8) := HB7.out.trans (hb8.mono HB7.out.size)
      clear hw8 hb8 HA7 HB7 HO7
      go_wp2_with (go_at_call 10; fail)
      refine (free_any Unit _ _ _ _ _ _ HA8.out (HT.out.below HB8.out HTL.out)).mono ?_
      rw [free_end0]
      rintro e w9 ⟨v9, rfl, ho, hb⟩
      have HB9 : Hid (Below w.heap.size w w9) := HB8.out.trans (hb.mono HB8.out.size)
      obtain ⟨ao9, cap9, hv9⟩ := ho.form
      rw [show ([] : List Int).length = 0 from rfl] at hv9
      subst hv9
      clear ho hb HA8 HB8
      go_wp2
      go_ret
      exact ⟨rfl, HB9.out⟩
    · have hkl' : k < L.length := by omega
      have hlt : (k : Int) < (L.length : Int) := by omega
      have hlt64 : (k : Int) < 64 := by omega
      obtain ⟨g, off, rfl, hlc, hm, hcs⟩ := ats_cells HO4.out.isInts (by omega)
      have hA1 : w1.heap.size ≤ wr.heap.size := by have := HA4.out.lt.1; have := HA4.out.fromA; omega
      unfold maxLen at hm
      have hn0 : errV 0 = .nilIface := rfl
      cases forth with
      | true =>
        have hck := hcs k hkl'
        have hbf := rest_forth HUL.out hkl'
        have hp63 : (L[k]).1 < 64 := by have := (HOL.out.1 _ (List.getElem_mem hkl')).2.2; have := pow_pos2 (L[k]).2; omega
        clear hcs
        generalize (L[k]).1 = p at *
        have HBK : Hid (∀ w0, w0 = wr → Calls Tryd.prog 13 #[.pointer (some ⟨a, 0, none⟩), .int .i64 (p : Nat)] w0 fun e w' => e = .returned .nilIface ∧ Arena Unit w' w1.heap.size a b (rest true L (k+1)) ∧ Below w.heap.size w w' ∧ OwnI w' w2.heap.size (.slice (some ⟨g, off, none⟩) L.length cap) (atsI L)) := by
          rintro w0 rfl
          refine (back_any Unit _ _ _ _ _ (by omega) (by omega) _ HA4.out).mono ?_
          rw [hbf]
          rintro e w' ⟨rfl, hA, ht⟩
          exact ⟨rfl, hA, ht.below HB4.out (Nat.le_trans HB12.out hA1) (Nat.le_trans HB12.out HA4.out.fromA) (Nat.le_trans HB12.out HA4.out.fromB), HA4.out.own HO4.out ht⟩
        clear hbf
        go_wp2_with (go_at_call 13; go_must (refine (HBK.out _ rfl).mono ?_; rintro e w5 ⟨rfl, hA, hb, ho⟩; have HA5 : Hid (Arena Unit w5 w1.heap.size a b (rest true L (k+1))) := hA; have HB5 : Hid (Below w.heap.size w w5) := hb; have HO5 : Hid (OwnI w5 w2.heap.size (.slice (some ⟨g, off, none⟩) L.length cap) (atsI L)) := ho; clear hA hb ho))
        go_roundw
        case rel => exact ⟨k + 1, by go_num, by omega, HA5.out, HB5.out, HO5.out⟩
        case measure => simp [RowKit.intOf]; omega
      | false =>
        obtain ⟨m, hmk⟩ : ∃ m, m + 1 + k = L.length := ⟨L.length - 1 - k, by omega⟩
        have hml : m < L.length := by omega
        have hck := hcs m hml
        have hbf := rest_back HUL.out hmk
        have hp63 : (L[m]).1 < 64 := by have := (HOL.out.1 _ (List.getElem_mem hml)).2.2; have := pow_pos2 (L[m]).2; omega
        have hck0 := hcs k hkl'
        clear hcs
        generalize (L[m]).1 = p at *
        generalize (L[k]).1 = p0 at *
        have HBK : Hid (∀ w0, w0 = wr → Calls Tryd.prog 13 #[.pointer (some ⟨a, 0, none⟩), .int .i64 (p : Nat)] w0 fun e w' => e = .returned .nilIface ∧ Arena Unit w' w1.heap.size a b (rest false L (k+1)) ∧ Below w.heap.size w w' ∧ OwnI w' w2.heap.size (.slice (some ⟨g, off, none⟩) L.length cap) (atsI L)) := by
          rintro w0 rfl
          refine (back_any Unit _ _ _ _ _ (by omega) (by omega) _ HA4.out).mono ?_
          rw [hbf]
          rintro e w' ⟨rfl, hA, ht⟩
          exact ⟨rfl, hA, ht.below HB4.out (Nat.le_trans HB12.out hA1) (Nat.le_trans HB12.out HA4.out.fromA) (Nat.le_trans HB12.out HA4.out.fromB), HA4.out.own HO4.out ht⟩
        clear hbf
        obtain ⟨n1, hn1⟩ : ∃ n1 : Nat, n1 + 1 = L.length := ⟨L.length - 1, by omega⟩
        have hw1 : IntKind.i64.wrap ((L.length : Int) - 1) = (n1 : Nat) := by rw [IntKind.wrap_i64]; omega
        have hw2 : IntKind.i64.wrap ((n1 : Int) - (k : Int)) = (m : Nat) := by rw [IntKind.wrap_i64]; omega
        have HN1 : Hid (n1 + 1 = L.length) := hn1
        have HMK : Hid (m + 1 + k = L.length) := hmk
        clear hn1 hmk
        go_wp2_with (go_at_call 13; go_must (refine (HBK.out _ rfl).mono ?_; rintro e w5 ⟨rfl, hA, hb, ho⟩; have HA5 : Hid (Arena Unit w5 w1.heap.size a b (rest false L (k+1))) := hA; have HB5 : Hid (Below w.heap.size w w5) := hb; have HO5 : Hid (OwnI w5 w2.heap.size (.slice (some ⟨g, off, none⟩) L.length cap) (atsI L)) := ho; clear hA hb ho))
        go_roundw
        case rel => exact ⟨k + 1, by go_num, by omega, HA5.out, HB5.out, HO5.out⟩
        case measure => simp [RowKit.intOf]; omega
end Go.Proofs.YtmmeapaakdaemaaDoor
