/- The walk of BuddyFull: what fits is lent; what is lent and given back at once leaves all as it was. -/
import Derived.Test.YtmmeapaakdaemaaDoorBFact
import Derived.Test.YtmmeapaakdaemaaDoorRowR
import Derived.Test.YtmmeapaakdaemaaDoorTold
import Derived.Deep.RegionHeld3
namespace Go.Proofs.YtmmeapaakdaemaaDoor
open Go.RowKit Go.Maps Go.Sort

/-- Is there room among the orders below k? -/
def roomB (L : List (Nat × Nat)) (o k : Nat) : Bool := (List.range k).any fun j => decide (o ≤ j) && !(freeL L j).isEmpty
theorem roomB_succ (L : List (Nat × Nat)) (o k : Nat) : roomB L o (k+1) = (roomB L o k || (decide (o ≤ k) && !(freeL L k).isEmpty)) := by
  unfold roomB
  rw [List.range_succ, List.any_append]
  simp
theorem roomB_all {L : List (Nat × Nat)} {o : Nat} (ho : o ≤ 6) : roomB L o 7 = (room L o).isSome := by
  rw [Bool.eq_iff_iff]
  unfold roomB
  rw [List.any_eq_true]
  constructor
  · rintro ⟨j, hj, h⟩
    rw [List.mem_range] at hj
    simp only [Bool.and_eq_true, decide_eq_true_eq, Bool.not_eq_true', List.isEmpty_eq_false_iff] at h
    cases hr : room L o with
    | none => exact absurd ((room_iff ho).1 hr j h.1 (by omega)) h.2
    | some x => rfl
  · intro h
    obtain ⟨x, hx⟩ := Option.isSome_iff_exists.1 h
    obtain ⟨p, i⟩ := x
    obtain ⟨h1, h2, h3, _⟩ := roomAt_some _ _ (by omega) hx
    refine ⟨i, List.mem_range.2 (by omega), ?_⟩
    have := (mem_freeL h2).2 h3
    simp only [Bool.and_eq_true, decide_eq_true_eq, Bool.not_eq_true', List.isEmpty_eq_false_iff]
    exact ⟨h1, List.ne_nil_of_mem this⟩
/-- What is free, order by order. -/
def rowsF (L : List (Nat × Nat)) (k : Nat) : List (List Int) := (List.range k).map fun j : Nat => freeI L (j : Nat)
theorem rowsF_length (L : List (Nat × Nat)) (k : Nat) : (rowsF L k).length = k := by unfold rowsF; rw [List.length_map, List.length_range]
theorem rowsF_succ (L : List (Nat × Nat)) (k : Nat) : rowsF L (k+1) = rowsF L k ++ [freeI L (k : Nat)] := by unfold rowsF; rw [List.range_succ, List.map_append]; rfl
theorem rowsF_at {L : List (Nat × Nat)} {k n : Nat} (h : k < n) : rowAt (rowsF L n) k = freeI L (k : Nat) := by
  unfold rowAt rowsF
  rw [List.getElem?_map, List.getElem?_range h]; rfl
theorem freeI_length {L : List (Nat × Nat)} {k : Nat} (hk : k < 7) : (freeI L (k : Nat)).length = (freeL L k).length := by
  unfold freeI
  rw [if_neg (by omega), List.length_map]; rfl
theorem freeI_len_pos {L : List (Nat × Nat)} {k : Nat} (hk : k < 7) : decide (0 < (freeI L (k : Nat)).length) = !(freeL L k).isEmpty := by
  rw [freeI_length hk, Bool.eq_iff_iff]
  cases freeL L k <;> simp
theorem Arena.rows {H : Type} {w w1 : World} {base a b B : Nat} {L : List (Nat × Nat)} {v : Value} {D : List (List Int)} (h : Arena H w base a b L) (ho : OwnR w B v D) (ht : Turn a b w w1) : OwnR w1 B v D := by
  obtain ⟨us, h1, h2, h3⟩ := ho
  refine ⟨us, h1, own_turn h2 ht fun k hk => ?_, fun j u hj => h.own (h3 j u hj) ht⟩
  rcases h2.2 with ⟨rfl, _⟩ | ⟨g, cap, cur, rfl, _, hg, _⟩
  · cases hk
  · cases hk
    constructor
    · intro e
      have e : g = a := e
      obtain ⟨F, hF, _⟩ := h.cells
      rw [e, show w.heap[a]? = _ from hF] at hg
      simp at hg
    · intro e
      have e : g = b := e
      obtain ⟨es, ck, hb⟩ := h.map.obj
      rw [e, hb] at hg
      cases hg
theorem below_turn {w0 w w1 : World} {B a b : Nat} {H : Type} {base : Nat} {L : List (Nat × Nat)} (hA : Arena H w base a b L) (h0 : Below B w0 w) (ht : Turn a b w w1) (hB : B ≤ base) : Below B w0 w1 :=
  ht.below h0 (by have := hA.lt.1; have := hA.fromA; omega) (Nat.le_trans hB hA.fromA) (Nat.le_trans hB hA.fromB)

theorem since_drew {w0 W : World} {B : Nat} (h : Hid (Below B w0 W)) : Hid (Below B w0 W.drew) := below_drewN h.out 1
theorem cell_later {w0 W : World} {b j : Nat} {u : Value} (hb : b < w0.heap.size) (h0 : w0.cell? ⟨b, j, none⟩ = some u) (h : Hid (Below w0.heap.size w0 W)) : W.cell? ⟨b, j, none⟩ = some u :=
  (h.out.cell (p := ⟨b, j, none⟩) hb).trans h0
theorem ints_in {v u : Value} {l : List Int} {w0 w1 : World} (hv : IsInts w0 v l) (hu : IsInts w1 u l) (w : World) (hh : w.heap = w0.heap) (hb : Hid (Below w1.heap.size w1 w)) :
    Calls Tryd.prog 14 #[v, u] w fun e w' => e = .returned (.bool true) ∧ Hid (Below w1.heap.size w1 w') := by
  refine (ints_same v u l w (hv.heap hh) (hu.below hb.out)).mono ?_
  rintro e w' ⟨rfl, n, rfl⟩
  exact ⟨rfl, below_drewN hb.out n⟩

set_option maxRecDepth 100000 in
set_option maxHeartbeats 2000000 in
theorem buddyFull_none (v : Value) (l : List Int) (n : Int) (w : World) (hv : IsInts w v l) (hform : ∃ ao cap, v = .slice ao l.length cap) (hT : Tabbed w) (hg : Handle w) (hn : n < 0 ∨ 6 < n) :
    Calls Tryd.prog 5 #[v, .int .i64 n] w fun e w' => e = .returned (.bool true) ∧ Below w.heap.size w w' := by
  have HT : Hid (Tabbed w) := hT
  have HTL : Hid (0 < w.heap.size) := hT.lt
  have HV : Hid (IsInts w v l) := hv
  have HG : Hid (Handle w) := hg
  have HFO : Hid (∃ ao cap, v = .slice ao l.length cap) := hform
  have hin : (decide (0 ≤ n) && decide (n ≤ 6)) = false := by
    rw [Bool.and_eq_false_iff, decide_eq_false_iff_not, decide_eq_false_iff_not]; omega
  have HLF : Hid (∀ L, lendF L n = (0, 1, L)) := fun L => by unfold lendF; rw [if_pos hn]
  clear hT hv hform hg hn
  go_enter Tryd.func5, Tryd.ntmps5
  go_wp2_with (go_at_call 7; fail)
  refine (fact_any _ HT.out).mono ?_
  rintro e w1 ⟨rfl, hb⟩
  have HB1 : Hid (Below w.heap.size w w1) := hb
  clear hb
  go_wp2_with (go_at_call 8; fail)
  refine (lent_some v l _ (HV.out.below HB1.out) HFO.out (HT.out.below HB1.out HTL.out)).mono ?_
  rintro e w2 ⟨a, rfl, ⟨b, L, hA⟩, hb⟩
  have HA2 : Hid (Arena Unit w2 w1.heap.size a b L) := hA
  have HB2 : Hid (Below w.heap.size w w2) := HB1.out.trans (hb.mono HB1.out.size)
  have HTL1 : Hid (0 < w1.heap.size) := Nat.lt_of_lt_of_le HTL.out HB1.out.size
  have HB12 : Hid (w.heap.size ≤ w1.heap.size) := HB1.out.size
  clear hA hb HB1 HV HFO
  go_wp2_with (first | (go_at_call 12; go_must (refine (in_range n 0 6 _).mono ?_; rw [hin]; rintro e w3 ⟨rfl, rfl⟩)) | (go_at_call 15; fail))
  refine (lend_any Unit _ _ _ _ _ _ HA2.out (HT.out.below HB2.out HTL.out) HTL1.out).mono ?_
  rw [HLF.out]
  rintro e w4 ⟨rfl, hA, ht⟩
  have HB4 : Hid (Below w.heap.size w w4) := below_turn HA2.out HB2.out ht HB12.out
  have HER : Hid (∀ w0, Below w.heap.size w w0 → Calls Tryd.prog 16 #[errV 1, .int .i64 1] w0 fun e w' => e = .returned (.bool true) ∧ Below w0.heap.size w0 w') := fun w0 h0 => error_same 1 w0 (HG.out.below h0)
  clear hA ht HA2 HB2
  generalize errV 1 = ve at *
  go_wp2_with (go_at_call 16; fail)
  refine (HER.out _ HB4.out).mono ?_
  rintro e w5 ⟨rfl, hb⟩
  have HB5 : Hid (Below w.heap.size w w5) := HB4.out.trans (hb.mono HB4.out.size)
  clear hb
  go_wp2
  go_ret
  exact ⟨rfl, HB5.out⟩

set_option maxRecDepth 100000 in
set_option maxHeartbeats 2000000 in
theorem buddyFull_ok (v : Value) (l : List Int) (o : Nat) (w : World) (hv : IsInts w v l) (hform : ∃ ao cap, v = .slice ao l.length cap) (hT : Tabbed w) (hg : Handle w) (ho : o ≤ 6) :
    Calls Tryd.prog 5 #[v, .int .i64 (o : Nat)] w fun e w' => e = .returned (.bool true) ∧ Below w.heap.size w w' := by
  have HT : Hid (Tabbed w) := hT
  have HTL : Hid (0 < w.heap.size) := hT.lt
  have HV : Hid (IsInts w v l) := hv
  have HG : Hid (Handle w) := hg
  have HFO : Hid (∃ ao cap, v = .slice ao l.length cap) := hform
  have hin : (decide ((0 : Int) ≤ (o : Nat)) && decide (((o : Nat) : Int) ≤ 6)) = true := by
    rw [Bool.and_eq_true, decide_eq_true_eq, decide_eq_true_eq]; omega
  obtain ⟨i0, hi, hz0, hz1, hz2⟩ := info_parts info_row
  have HI0 : Hid (Tryd.prog.info? 22 = some i0 ∧ i0.zero = some (.slice none 0 0) ∧ i0.size = 1 ∧ i0.bytes = 24) := ⟨hi, hz0, hz1, hz2⟩
  clear hT hv hform hg hi hz0 hz1 hz2
  go_enter Tryd.func5, Tryd.ntmps5
  go_wp2_with (go_at_call 7; fail)
  refine (fact_any _ HT.out).mono ?_
  rintro e w1 ⟨rfl, hb⟩
  have HB1 : Hid (Below w.heap.size w w1) := hb
  clear hb
  go_wp2_with (go_at_call 8; fail)
  refine (lent_some v l _ (HV.out.below HB1.out) HFO.out (HT.out.below HB1.out HTL.out)).mono ?_
  rintro e w2 ⟨a, rfl, ⟨b, L, hA⟩, hb⟩
  have HA2 : Hid (Arena Unit w2 w1.heap.size a b L) := hA
  have HB2 : Hid (Below w.heap.size w w2) := HB1.out.trans (hb.mono HB1.out.size)
  have HTL1 : Hid (0 < w1.heap.size) := Nat.lt_of_lt_of_le HTL.out HB1.out.size
  have HB12 : Hid (w.heap.size ≤ w1.heap.size) := HB1.out.size
  have HT2 : Hid (Tabbed w2) := HT.out.below HB2.out HTL.out
  clear hA hb HB1 HV HFO
  go_wp2_with (go_at_call 12; go_must (refine (in_range (o : Nat) 0 6 _).mono ?_; rw [hin]; rintro e w3 ⟨rfl, hw3⟩; have hw3 := hw3.symm; subst hw3))
  clear hin
  have HFR : Hid (∀ (k : Nat) (w0 : World), Below w2.heap.size w2 w0 → Calls Tryd.prog 10 #[.pointer (some ⟨a, 0, none⟩), .int .i64 (k : Nat)] w0 fun e w' => ∃ ao cap, e = .returned (.slice ao (freeI L (k : Nat)).length cap) ∧ OwnI w' w2.heap.size (.slice ao (freeI L (k : Nat)).length cap) (freeI L (k : Nat)) ∧ Below w0.heap.size w0 w') := by
    intro k w0 h0
    refine (free_any Unit _ _ _ _ (k : Nat) _ (HA2.out.later h0) (HT2.out.below h0 HT2.out.lt)).mono ?_
    rintro e w' ⟨v, rfl, ho, hb⟩
    obtain ⟨ao, cap, rfl⟩ := ho.form
    exact ⟨ao, cap, rfl, ownI_mono ho h0.size, hb⟩
  go_loopw [9, 10, 11] (fun r vw i wr => ∃ k : Nat, k ≤ 7 ∧ r = .bool (roomB L o k) ∧ i = .int .i64 (k : Nat) ∧ OwnR wr w2.heap.size vw (rowsF L k) ∧ Below w2.heap.size w2 wr) (fun _ _ i _ => 7 - (RowKit.intOf i).toNat)
  case atStart => exact ⟨0, by omega, rfl, rfl, OwnR.nil _ _, Below.refl _ _⟩
  case round =>
    obtain ⟨k, hk, rfl, rfl, hO, hb⟩ := hrel
    have HB3 : Hid (Below w2.heap.size w2 wr) := hb
    have HO3 : Hid (OwnR wr w2.heap.size u10 (rowsF L k)) := hO
    clear hb hO
    by_cases hk7 : k = 7
    · have hk6 : ¬ (k : Int) ≤ 6 := by omega
      have HO7 : Hid (OwnR wr w2.heap.size u10 (rowsF L 7)) := by
        have := HO3.out
        rwa [hk7] at this
      have hrm : roomB L o k = (room L o).isSome := by rw [hk7]; exact roomB_all ho
      have HBW : Hid (Below w.heap.size w wr) := HB2.out.trans (HB3.out.mono HB2.out.size)
      have HA3 : Hid (Arena Unit wr w1.heap.size a b L) := HA2.out.later HB3.out
      have HLE := lend_any Unit _ _ _ _ (o : Nat) _ HA3.out (HT.out.below HBW.out HTL.out) HTL1.out
      clear HO3 hk7
      rw [hrm]
      cases hro : room L o with
      | none =>
        have hlf : lendF L (o : Nat) = (0, 4, L) := by unfold lendF; rw [if_neg (by omega)]; show (match room L o with | none => (0, 4, L) | some (p, _) => (p, 0, insP p o L)) = _; rw [hro]
        rw [hlf] at HLE
        have HLE : Hid (Calls Tryd.prog 15 #[.pointer (some ⟨a, 0, none⟩), .int .i64 (o : Nat)] wr fun e w' => e = .returned (.tuple #[.int .i64 (0 : Nat), errV 4]) ∧ Arena Unit w' w1.heap.size a b L ∧ Turn a b wr w') := HLE
        have HER : Hid (∀ w0, Below w.heap.size w w0 → Calls Tryd.prog 16 #[errV 4, .int .i64 4] w0 fun e w' => e = .returned (.bool true) ∧ Below w0.heap.size w0 w') := fun w0 h0 => error_same 4 w0 (HG.out.below h0)
        clear hlf hro hrm
        generalize errV 4 = ve at *
        go_wp2_with (go_at_call 15; fail)
        refine HLE.out.mono ?_
        rintro e w4 ⟨rfl, _, ht⟩
        have HB4 : Hid (Below w.heap.size w w4) := below_turn HA3.out HBW.out ht HB12.out
        clear ht HLE
        go_wp2_with (go_at_call 16; fail)
        refine (HER.out _ HB4.out).mono ?_
        rintro e w5 ⟨rfl, hb⟩
        have HB5 : Hid (Below w.heap.size w w5) := HB4.out.trans (hb.mono HB4.out.size)
        clear hb
        go_wp2
        go_ret
        exact ⟨rfl, HB5.out⟩
      | some x =>
        obtain ⟨p, i⟩ := x
        have hlf : lendF L (o : Nat) = (p, 0, insP p o L) := by unfold lendF; rw [if_neg (by omega)]; show (match room L o with | none => (0, 4, L) | some (p, _) => (p, 0, insP p o L)) = _; rw [hro]
        rw [hlf] at HLE
        have HLE : Hid (Calls Tryd.prog 15 #[.pointer (some ⟨a, 0, none⟩), .int .i64 (o : Nat)] wr fun e w' => e = .returned (.tuple #[.int .i64 (p : Nat), .nilIface]) ∧ Arena Unit w' w1.heap.size a b (insP p o L) ∧ Turn a b wr w') := HLE
        obtain ⟨_, _, hM, _⟩ := roomAt_some _ _ (by omega) hro
        have hap := free_apart hM
        have hp64 : p < 64 := by have := hM.1.2.2; have := pow_pos2 i; omega
        have hbf : backF (insP p o L) (p : Nat) = (0, L) := by
          unfold backF
          rw [look_of (insP_up HA3.out.up hap) (mem_insP.2 (.inl rfl))]
          show (0, delP p (insP p o L)) = _
          rw [del_ins hap]
        clear hlf hro hrm
        go_wp2_with (go_at_call 15; fail)
        refine HLE.out.mono ?_
        rintro e w4 ⟨rfl, hA, ht⟩
        have HA4 : Hid (Arena Unit w4 w1.heap.size a b (insP p o L)) := hA
        have HO4 : Hid (OwnR w4 w2.heap.size u10 (rowsF L 7)) := HA3.out.rows HO7.out ht
        have HB4 : Hid (Below w.heap.size w w4) := below_turn HA3.out HBW.out ht HB12.out
        have HBK : Hid (Calls Tryd.prog 13 #[.pointer (some ⟨a, 0, none⟩), .int .i64 (p : Nat)] w4 fun e w' => e = .returned .nilIface ∧ Arena Unit w' w1.heap.size a b L ∧ Turn a b w4 w') := by
          have := back_any Unit _ _ _ _ (p : Nat) (by omega) (by omega) _ HA4.out
          rw [hbf] at this
          exact this
        clear hA ht HLE HA3 HO7 HBW hM hbf
        go_wp2_with (go_at_call 13; fail)
        refine HBK.out.mono ?_
        rintro e w5 ⟨rfl, hA, ht⟩
        have HA5 : Hid (Arena Unit w5 w1.heap.size a b L) := hA
        have HO5 : Hid (OwnR w5 w2.heap.size u10 (rowsF L 7)) := HA4.out.rows HO4.out ht
        have HB5 : Hid (Below w.heap.size w w5) := below_turn HA4.out HB4.out ht HB12.out
        clear hA ht HBK HA4 HO4 HB4 HB3
        go_wp2
        go_loopw [14] (fun i wq => ∃ j : Nat, j ≤ 7 ∧ i = .int .i64 (j : Nat) ∧ Below w5.heap.size w5 wq) (fun i _ => 7 - (RowKit.intOf i).toNat)
        case atStart => exact ⟨0, by omega, rfl, Below.refl _ _⟩
        case round =>
          obtain ⟨j, hj, rfl, hb⟩ := hrel
          have HB6 : Hid (Below w5.heap.size w5 wr) := hb
          clear hb
          by_cases hj7 : j = 7
          · have hj6 : ¬ (j : Int) ≤ 6 := by omega
            go_wp2
            go_ret
            exact ⟨rfl, HB5.out.trans (HB6.out.mono HB5.out.size)⟩
          · have hj6 : (j : Int) ≤ 6 := by omega
            obtain ⟨aw, cw, hvw, hlc, hmx, hcs⟩ := HO5.out.opened
            rw [rowsF_length] at hvw hlc hcs
            subst hvw
            obtain ⟨g, rfl, hgl, u, hcu, hou⟩ := hcs j (by omega)
            rw [rowsF_at (show j < 7 by omega)] at hou
            have HOU : Hid (IsInts w5 u (freeI L (j : Nat))) := hou.isInts
            have hcw : wr.cell? ⟨g, j, none⟩ = some u := (HB6.out.cell (p := ⟨g, j, none⟩) hgl).trans hcu
            have HCU : Hid (w5.cell? ⟨g, j, none⟩ = some u) := hcu
            have HFF : Hid (∀ w0 : World, Hid (Below w5.heap.size w5 w0) → Calls Tryd.prog 10 #[.pointer (some ⟨a, 0, none⟩), .int .i64 (j : Nat)] w0 fun e w' => ∃ vs, e = .returned vs ∧ Hid (IsInts w' vs (freeI L (j : Nat))) ∧ Hid (Below w5.heap.size w5 w')) := by
              intro w0 h0
              refine (free_any Unit _ _ _ _ (j : Nat) _ (HA5.out.later h0.out) (HT.out.below (HB5.out.trans (h0.out.mono HB5.out.size)) HTL.out)).mono ?_
              rintro e w' ⟨v, rfl, ho, hb⟩
              exact ⟨v, rfl, ho.isInts, h0.out.trans (hb.mono h0.out.size)⟩
            clear hcu hou hcs HA2 HB2 HFR HT2 HO5
            unfold maxLen at hmx
            have hj7' : j < 7 := by omega
            have hj0 : (0 : Int) ≤ (j : Int) := by omega
            have hj1 : (j : Int) < 7 := by omega
            have hj2 : (j : Int) < ((7 : Nat) : Int) := by omega
            have HBS : Hid (Below w5.heap.size w5 wr) := HB6.out
            go_wp2
            go_region_held3 (fun w' => w'.cell? ⟨g, j, none⟩ = some u ∧ Hid (Below w5.heap.size w5 w')) ((go_split_ands; refine ⟨cell_later hgl HCU.out ?_, ?_⟩ <;> first | assumption | (apply since_drew; assumption)))
              (first | (go_at_call 10; go_split_ands; refine (HFF.out _ (by assumption)).mono ?_; rintro e w7 ⟨vt, rfl, HT7, HB7⟩) | (go_at_call 14; refine (ints_in HT7.out HOU.out _ (by rfl) (by first | assumption | (apply since_drew; assumption))).mono ?_; rintro e w8 ⟨rfl, HB8⟩))
            go_wp2
            go_roundw
            case rel => exact ⟨j + 1, by omega, by go_num, HB8.out⟩
            case measure => simp [RowKit.intOf]; omega
    · have hk6 : (k : Int) ≤ 6 := by omega
      have hRS := roomB_succ L o k
      have hfl := freeI_len_pos (L := L) (show k < 7 by omega)
      by_cases hr : roomB L o k = true
      · have HRN : Hid (roomB L o (k+1) = true) := by unfold Hid; rw [hRS, hr]; rfl
        have HBX : Hid (Below w2.heap.size w2 wr) := HB3.out
        have HOX : Hid (OwnR wr w2.heap.size u10 (rowsF L k)) := HO3.out
        clear hRS hfl HB3 HO3
        rw [hr]
        clear hr
        go_wp2_with (go_at_call 10; fail)
        refine (HFR.out k _ HBX.out).mono ?_
        rintro e w5 ⟨ao5, cap5, rfl, ho5, hb5⟩
        obtain ⟨us, hul, hrow, hel⟩ := HOX.out
        obtain ⟨ao3, cap3, hv3⟩ : ∃ ao cap, u10 = .slice ao k cap := by
          have := HOX.out.form
          rwa [rowsF_length] at this
        subst hv3
        have HUL : Hid (us.length = (rowsF L k).length) := hul
        have HR5 : Hid (w5.ownsRow w2.heap.size 22 1 (.slice ao3 k cap3) (rowsF L k).length us) := ownsRow_below hrow hb5
        have HE5 : Hid (∀ j u, us[j]? = some u → OwnI w5 w2.heap.size u (rowAt (rowsF L k) j)) := fun j u hj => (hel j u hj).later hb5
        have HO5 : Hid (OwnI w5 w2.heap.size (.slice ao5 (freeI L (k : Nat)).length cap5) (freeI L (k : Nat))) := ho5
        have HB5 : Hid (Below w2.heap.size w2 w5) := HBX.out.trans (hb5.mono HBX.out.size)
        clear hul hrow hel ho5 hb5 HOX HBX
        have hbs : w2.heap.size ≤ w5.heap.size := HB5.out.size
        generalize (freeI L (k : Nat)).length = n5 at *
        go_wp2_with (at_builtin; go_must (refine wpList_append_own _ rfl _ _ 40 rfl w2.heap.size 22 i0 (.slice none 0 0) 1 24 Tryd.underlying40 HI0.out.1 HI0.out.2.1 HI0.out.2.2.1 HI0.out.2.2.2 rfl (by decide) _ k us rfl (World.ownsRow.alloc (by have := HR5.out; rwa [rowsF_length] at this) _) ⟨w5.heap.size, 0, none⟩ 1 1 [.slice ao5 n5 cap5] rfl rfl (new_one _ _ _) (ownI_one HO5.out) (by unfold maxLen; omega) (by omega) (by simp; omega) ?_; intro v' w6 hown' hgrow _; have R := ownR_append (L := rowsF L k) HUL.out HR5.out HE5.out HO5.out HB5.out (Nat.le_refl _) (by rw [rowsF_length]; exact hown') hgrow; clear hown' hgrow))
        have HR6 : Hid (OwnR w6 w2.heap.size v' (rowsF L (k+1))) := by
          have := R.1
          rwa [← rowsF_succ] at this
        have HB6 : Hid (Below w2.heap.size w2 w6) := R.2
        clear R
        go_roundw
        case rel => exact ⟨k + 1, by omega, by rw [HRN.out], by go_num, HR6.out, HB6.out⟩
        case measure => simp [RowKit.intOf]; omega
      · have hr0 : roomB L o k = false := by simpa using hr
        rw [hr0]
        by_cases hok : o ≤ k
        · have hokI : (o : Int) ≤ (k : Int) := by omega
          go_wp2_with (go_at_call 10; fail)
          refine (HFR.out k _ HB3.out).mono ?_
          rintro e w4 ⟨ao4, cap4, rfl, _, hb4⟩
          have HBX : Hid (Below w2.heap.size w2 w4) := HB3.out.trans (hb4.mono HB3.out.size)
          have HOX : Hid (OwnR w4 w2.heap.size u10 (rowsF L k)) := HO3.out.later hb4
          clear hb4 HB3 HO3
          cases hem : (freeL L k).isEmpty with
          | true =>
            have HDEC : Hid (decide (0 < (freeI L (k : Nat)).length) = false) := by unfold Hid; rw [hfl, hem]; rfl
            have HRN : Hid (roomB L o (k+1) = false) := by unfold Hid; rw [hRS, hr0, hem]; simp
            clear hRS hfl hr hr0 hok hem
            generalize (freeI L (k : Nat)).length = n4 at *
            go_wp2_with (go_at_call 10; fail)
            refine (HFR.out k _ HBX.out).mono ?_
            rintro e w5 ⟨ao5, cap5, rfl, ho5, hb5⟩
            obtain ⟨us, hul, hrow, hel⟩ := HOX.out
            obtain ⟨ao3, cap3, hv3⟩ : ∃ ao cap, u10 = .slice ao k cap := by
              have := HOX.out.form
              rwa [rowsF_length] at this
            subst hv3
            have HUL : Hid (us.length = (rowsF L k).length) := hul
            have HR5 : Hid (w5.ownsRow w2.heap.size 22 1 (.slice ao3 k cap3) (rowsF L k).length us) := ownsRow_below hrow hb5
            have HE5 : Hid (∀ j u, us[j]? = some u → OwnI w5 w2.heap.size u (rowAt (rowsF L k) j)) := fun j u hj => (hel j u hj).later hb5
            have HO5 : Hid (OwnI w5 w2.heap.size (.slice ao5 (freeI L (k : Nat)).length cap5) (freeI L (k : Nat))) := ho5
            have HB5 : Hid (Below w2.heap.size w2 w5) := HBX.out.trans (hb5.mono HBX.out.size)
            clear hul hrow hel ho5 hb5 HOX HBX
            have hbs : w2.heap.size ≤ w5.heap.size := HB5.out.size
            generalize (freeI L (k : Nat)).length = n5 at *
            go_wp2_with (at_builtin; go_must (refine wpList_append_own _ rfl _ _ 40 rfl w2.heap.size 22 i0 (.slice none 0 0) 1 24 Tryd.underlying40 HI0.out.1 HI0.out.2.1 HI0.out.2.2.1 HI0.out.2.2.2 rfl (by decide) _ k us rfl (World.ownsRow.alloc (by have := HR5.out; rwa [rowsF_length] at this) _) ⟨w5.heap.size, 0, none⟩ 1 1 [.slice ao5 n5 cap5] rfl rfl (new_one _ _ _) (ownI_one HO5.out) (by unfold maxLen; omega) (by omega) (by simp; omega) ?_; intro v' w6 hown' hgrow _; have R := ownR_append (L := rowsF L k) HUL.out HR5.out HE5.out HO5.out HB5.out (Nat.le_refl _) (by rw [rowsF_length]; exact hown') hgrow; clear hown' hgrow))
            have HR6 : Hid (OwnR w6 w2.heap.size v' (rowsF L (k+1))) := by
              have := R.1
              rwa [← rowsF_succ] at this
            have HB6 : Hid (Below w2.heap.size w2 w6) := R.2
            clear R
            go_roundw
            case rel => exact ⟨k + 1, by omega, by rw [HRN.out, HDEC.out], by go_num, HR6.out, HB6.out⟩
            case measure => simp [RowKit.intOf]; omega
          | false =>
            have HDEC : Hid (decide (0 < (freeI L (k : Nat)).length) = true) := by unfold Hid; rw [hfl, hem]; rfl
            have HRN : Hid (roomB L o (k+1) = true) := by unfold Hid; rw [hRS, hr0, hem]; simp [hok]
            clear hRS hfl hr hr0 hok hem
            generalize (freeI L (k : Nat)).length = n4 at *
            go_wp2_with (go_at_call 10; fail)
            refine (HFR.out k _ HBX.out).mono ?_
            rintro e w5 ⟨ao5, cap5, rfl, ho5, hb5⟩
            obtain ⟨us, hul, hrow, hel⟩ := HOX.out
            obtain ⟨ao3, cap3, hv3⟩ : ∃ ao cap, u10 = .slice ao k cap := by
              have := HOX.out.form
              rwa [rowsF_length] at this
            subst hv3
            have HUL : Hid (us.length = (rowsF L k).length) := hul
            have HR5 : Hid (w5.ownsRow w2.heap.size 22 1 (.slice ao3 k cap3) (rowsF L k).length us) := ownsRow_below hrow hb5
            have HE5 : Hid (∀ j u, us[j]? = some u → OwnI w5 w2.heap.size u (rowAt (rowsF L k) j)) := fun j u hj => (hel j u hj).later hb5
            have HO5 : Hid (OwnI w5 w2.heap.size (.slice ao5 (freeI L (k : Nat)).length cap5) (freeI L (k : Nat))) := ho5
            have HB5 : Hid (Below w2.heap.size w2 w5) := HBX.out.trans (hb5.mono HBX.out.size)
            clear hul hrow hel ho5 hb5 HOX HBX
            have hbs : w2.heap.size ≤ w5.heap.size := HB5.out.size
            generalize (freeI L (k : Nat)).length = n5 at *
            go_wp2_with (at_builtin; go_must (refine wpList_append_own _ rfl _ _ 40 rfl w2.heap.size 22 i0 (.slice none 0 0) 1 24 Tryd.underlying40 HI0.out.1 HI0.out.2.1 HI0.out.2.2.1 HI0.out.2.2.2 rfl (by decide) _ k us rfl (World.ownsRow.alloc (by have := HR5.out; rwa [rowsF_length] at this) _) ⟨w5.heap.size, 0, none⟩ 1 1 [.slice ao5 n5 cap5] rfl rfl (new_one _ _ _) (ownI_one HO5.out) (by unfold maxLen; omega) (by omega) (by simp; omega) ?_; intro v' w6 hown' hgrow _; have R := ownR_append (L := rowsF L k) HUL.out HR5.out HE5.out HO5.out HB5.out (Nat.le_refl _) (by rw [rowsF_length]; exact hown') hgrow; clear hown' hgrow))
            have HR6 : Hid (OwnR w6 w2.heap.size v' (rowsF L (k+1))) := by
              have := R.1
              rwa [← rowsF_succ] at this
            have HB6 : Hid (Below w2.heap.size w2 w6) := R.2
            clear R
            go_roundw
            case rel => exact ⟨k + 1, by omega, by rw [HRN.out, HDEC.out], by go_num, HR6.out, HB6.out⟩
            case measure => simp [RowKit.intOf]; omega
        · have hokI : ¬ (o : Int) ≤ (k : Int) := by omega
          have HRN : Hid (roomB L o (k+1) = false) := by unfold Hid; rw [hRS, hr0]; simp [hok]
          have HBX : Hid (Below w2.heap.size w2 wr) := HB3.out
          have HOX : Hid (OwnR wr w2.heap.size u10 (rowsF L k)) := HO3.out
          clear hRS hfl HB3 HO3 hr hr0 hok
          go_wp2_with (go_at_call 10; fail)
          refine (HFR.out k _ HBX.out).mono ?_
          rintro e w5 ⟨ao5, cap5, rfl, ho5, hb5⟩
          obtain ⟨us, hul, hrow, hel⟩ := HOX.out
          obtain ⟨ao3, cap3, hv3⟩ : ∃ ao cap, u10 = .slice ao k cap := by
            have := HOX.out.form
            rwa [rowsF_length] at this
          subst hv3
          have HUL : Hid (us.length = (rowsF L k).length) := hul
          have HR5 : Hid (w5.ownsRow w2.heap.size 22 1 (.slice ao3 k cap3) (rowsF L k).length us) := ownsRow_below hrow hb5
          have HE5 : Hid (∀ j u, us[j]? = some u → OwnI w5 w2.heap.size u (rowAt (rowsF L k) j)) := fun j u hj => (hel j u hj).later hb5
          have HO5 : Hid (OwnI w5 w2.heap.size (.slice ao5 (freeI L (k : Nat)).length cap5) (freeI L (k : Nat))) := ho5
          have HB5 : Hid (Below w2.heap.size w2 w5) := HBX.out.trans (hb5.mono HBX.out.size)
          clear hul hrow hel ho5 hb5 HOX HBX
          have hbs : w2.heap.size ≤ w5.heap.size := HB5.out.size
          generalize (freeI L (k : Nat)).length = n5 at *
          go_wp2_with (at_builtin; go_must (refine wpList_append_own _ rfl _ _ 40 rfl w2.heap.size 22 i0 (.slice none 0 0) 1 24 Tryd.underlying40 HI0.out.1 HI0.out.2.1 HI0.out.2.2.1 HI0.out.2.2.2 rfl (by decide) _ k us rfl (World.ownsRow.alloc (by have := HR5.out; rwa [rowsF_length] at this) _) ⟨w5.heap.size, 0, none⟩ 1 1 [.slice ao5 n5 cap5] rfl rfl (new_one _ _ _) (ownI_one HO5.out) (by unfold maxLen; omega) (by omega) (by simp; omega) ?_; intro v' w6 hown' hgrow _; have R := ownR_append (L := rowsF L k) HUL.out HR5.out HE5.out HO5.out HB5.out (Nat.le_refl _) (by rw [rowsF_length]; exact hown') hgrow; clear hown' hgrow))
          have HR6 : Hid (OwnR w6 w2.heap.size v' (rowsF L (k+1))) := by
            have := R.1
            rwa [← rowsF_succ] at this
          have HB6 : Hid (Below w2.heap.size w2 w6) := R.2
          clear R
          go_roundw
          case rel => exact ⟨k + 1, by omega, by rw [HRN.out], by go_num, HR6.out, HB6.out⟩
          case measure => simp [RowKit.intOf]; omega
theorem buddyFull_any (v : Value) (l : List Int) (n : Int) (w : World) (hv : IsInts w v l) (hform : ∃ ao cap, v = .slice ao l.length cap) (hT : Tabbed w) (hg : Handle w) :
    Calls Tryd.prog 5 #[v, .int .i64 n] w fun e w' => e = .returned (.bool true) ∧ Below w.heap.size w w' := by
  by_cases hn : n < 0 ∨ 6 < n
  · exact buddyFull_none v l n w hv hform hT hg hn
  · obtain ⟨o, rfl⟩ : ∃ o : Nat, n = o := ⟨n.toNat, by omega⟩
    exact buddyFull_ok v l o w hv hform hT hg (by omega)
end Go.Proofs.YtmmeapaakdaemaaDoor
