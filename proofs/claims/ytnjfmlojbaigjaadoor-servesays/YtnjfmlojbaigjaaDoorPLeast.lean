/- The walk of serve.Least. -/
import Derived.Test.YtnjfmlojbaigjaaDoorPSent
import Derived.Test.YtnjfmlojbaigjaaDoorSCheck
import Derived.Laws.CopyRow
import Derived.Laws.CopyOwn
import Derived.Deep.RegionLaw
namespace Go.Proofs.YtnjfmlojbaigjaaDoor
set_option maxRecDepth 100000
open Go.RowKit Go.Maps Go.Shelf Go.Sort

namespace Pl
def PRel (w : World) (s asks : List Int) (Bt Bm : Nat) (i : Value) (wr : World) : Prop :=
  ∃ (k b : Nat) (T : P3 → Option Nat), k ≤ asks.length ∧ i = .int .i64 k ∧ Boxed wr Bt 50 (.map (some b)) ∧ Boxed wr Bm 3 (.int .i64 s.length) ∧ IsTab Unit wr b T ∧ PTab s asks k T ∧ Below w.heap.size w wr
theorem tab_ne {W : World} {b B : Nat} {T : P3 → Option Nat} {t : TypeId} {v : Value} (hT : IsTab Unit W b T) (hB : Boxed W B t v) : b ≠ B := fun e => by
  obtain ⟨es, ck, hh⟩ := hT.obj
  unfold Boxed at hB
  rw [e, hB] at hh; cases hh
theorem int13 {z : Int} (h : 0 ≤ z ∧ z ≤ 12) : Value.int .i64 (((fin13 z).val : Nat) : Int) = Value.int .i64 z := by rw [fin13_val h]
theorem copy_start {w : World} {B b off cap : Nat} {s : List Int} (ty : TypeId) (h1 : 1 ≤ s.length) (h3 : s.length ≤ 3) (hl : onLine s) (hg : Lies w B #[.int .i64 0, .int .i64 0, .int .i64 0] 47) (hc : ∀ j, j < s.length → w.cell? ⟨b, off + j, none⟩ = some (.int .i64 (s[j]?.getD 0))) :
    ∃ w', (Builtin.copy_ #[22, 22] ty #[.slice (some ⟨B, 0, none⟩) 3 3, .slice (some ⟨b, off, none⟩) s.length cap]).run Tryd.prog w = .ok (goInt s.length) w' ∧ Lies w' B (toP s).cells 47 ∧ w.grownBy w' (some B) := by
  have hX : (s.map (Value.int .i64)).length = s.length := List.length_map _
  have hsrc : ∀ j v, (s.map (Value.int .i64))[j]? = some v → w.cell? (Addr.add ⟨b, off, none⟩ j) = some v := by
    intro j v hj
    have hjl : j < s.length := by have := (List.getElem?_eq_some_iff.1 hj).1; rwa [hX] at this
    have ea : Addr.add ⟨b, off, none⟩ j = ⟨b, off + j, none⟩ := by unfold Addr.add; cases j <;> rfl
    rw [ea, hc j hjl]
    rw [List.getElem?_map, List.getElem?_eq_getElem hjl] at hj
    rw [List.getElem?_eq_getElem hjl]
    exact hj
  have hr := run_copy_row (P := Tryd.prog) (w := w) 22 22 ty 3 B 0 3 3 ⟨b, off, none⟩ s.length cap #[.int .i64 0, .int .i64 0, .int .i64 0] 47 (s.map (Value.int .i64)) Tryd.underlying22 (by kernel_rfl) hg (by rw [hX]; exact (Nat.min_eq_left h3).symm) hsrc (by rw [hX]; simpa using h3) (fun v hv => by obtain ⟨x, _, rfl⟩ := List.mem_map.1 hv; rfl)
  rw [hX] at hr
  refine ⟨_, hr, ?_, rfl, rfl, rfl, by simp [World.setRow], fun k _ hk => setRow_other w B k _ (by simpa using hk)⟩
  unfold Lies
  rw [setRow_heap w B _ _ 47 _ hg]
  have hz : (((fin13 0).val : Nat) : Int) = 0 := rfl
  match s, h1, h3 with
  | [a], _, _ => simp [toP, fin13_val (hl a (by simp)), hz]
  | [a, c], _, _ => simp [toP, fin13_val (hl a (by simp)), fin13_val (hl c (by simp)), hz]
  | [a, c, d], _, _ => simp [toP, fin13_val (hl a (by simp)), fin13_val (hl c (by simp)), fin13_val (hl d (by simp))]
set_option maxHeartbeats 4000000 in
theorem pleast_ok (v va : Value) (s asks : List Int) (w : World) (hv : IsInts w v s) (ha : IsInts w va asks) (hc0 : chkV s asks = 0) :
    Calls Tryd.prog 13 #[v, va] w fun e w' => ∃ x : Nat, e = .returned (.tuple #[.int .i64 x, .nilIface]) ∧ LeastGo s asks x ∧ Below w.heap.size w w' := by
  have F := chkV_zero hc0
  have HV : Hid (IsInts w v s) := hv
  have HVA : Hid (IsInts w va asks) := ha
  have HCK : Hid (chkV s asks = 0) := hc0
  have HF : Hid (FineV s asks) := F
  have hn1 : 1 ≤ s.length := List.length_pos_iff.2 F.some
  have hn3 := F.few
  have ha20 := F.many
  obtain ⟨aa, capa, rfl, hcapa, ho⟩ := ha.opened
  have HO : Hid (∀ k, k < asks.length → ∃ b off, aa = some ⟨b, off, none⟩ ∧ asks.length ≤ capa ∧ b < w.heap.size ∧ ∀ j, j < asks.length → w.cell? ⟨b, off + j, none⟩ = some (.int .i64 (asks[j]?.getD 0))) := ho
  rcases hv with ⟨h, _⟩ | ⟨b, off, cap, rfl, hpos, hlc, hcap, hc⟩
  · exact absurd h F.some
  have hbw : b < w.heap.size := World.block_lt_of_cell? w _ (hc 0 hpos)
  have hsl := fun W => slice_all w.heap.size W
  obtain ⟨w2, hr, hL2, hG2⟩ := copy_start (w := w.alloc (.cells #[.int .i64 0, .int .i64 0, .int .i64 0] 47)) (B := w.heap.size) (cap := cap) 3 hn1 hn3 F.line (Lies.new w _ _) (fun j hj => Lib.cell?_alloc_some _ (hc j hj))
  have hB2 : Below w.heap.size w w2 := ((Below.refl _ w).alloc (Nat.le_refl _) _).grown hG2 (by simp) (fun k e => by cases e; exact Nat.le_refl _)
  have HL2 : Hid (Lies w2 w.heap.size (toP s).cells 47) := hL2
  have hL3 := hL2.alloc (.cells #[.int .i64 (s.length : Nat)] 3)
  have d0 := hL3.cell (j := 0) rfl
  have d1 := hL3.cell (j := 1) rfl
  have d2 := hL3.cell (j := 2) rfl
  have HB2 : Hid (Below w.heap.size w w2) := hB2
  clear ho ha hc0 F hc hG2 hL2 hL3 hB2
  unfold maxLen at hcap hcapa
  go_enter Tryd.func13, Tryd.ntmps13
  go_wp2_with (first | (go_at_call 6; go_must (refine (vcheck_any _ _ s asks _ HV.out HVA.out).mono ?_; rintro e w' ⟨rfl, hw⟩; have hw := hw.symm; subst hw; rw [HCK.out]; simp only [errV, if_true])) | (go_at_call 26; fail))
  refine (tstart_any Unit (toP s) _).mono ?_
  rintro e w4 ⟨⟨b0, rfl, hT0⟩, hb4⟩
  have bM4 : Boxed w4 w2.heap.size 3 (.int .i64 (s.length : Nat)) := box_later (Boxed.new w2 3 _) hb4
  have HB4 : Hid (Below w.heap.size w w4) := (HB2.out.alloc HB2.out.size _).trans (hb4.mono (by have := HB2.out.size; simp; omega))
  have HSZ : Hid (w.heap.size ≤ w4.heap.size) := HB4.out.size
  have HNE : Hid (w2.heap.size < w4.heap.size) := bM4.lt
  have HR0 : Hid (PRel w s asks w4.heap.size w2.heap.size (.int .i64 0) (w4.alloc (.cells #[.map (some b0)] 50))) := ⟨0, b0, _, Nat.zero_le _, rfl, Boxed.new w4 _ _, bM4.alloc _, hT0.kept (World.grownBy_alloc _ _ none) (by simp), ptab_start s asks, HB4.out.alloc HSZ.out _⟩
  clear hT0 hb4 bM4 d0 d1 d2 hr hsl
  go_wp2_with fail
  go_loopw [25] (fun i wr => PRel w s asks w4.heap.size w2.heap.size i wr) (fun i _ => asks.length - (intOf i).toNat)
  case atStart => exact HR0.out
  case round =>
    clear HR0
    obtain ⟨k, b, T, hk, rfl, bT, bM, hT, hTab, hbel⟩ := hrel
    have hwr := hbel.size
    by_cases hlt : k < asks.length
    · obtain ⟨br, offr, rfl, hlcr, hbwr, hcell⟩ := HO.out k hlt
      have hr := ask_in HF.out.asked hlt
      obtain ⟨r, hrr⟩ : ∃ r : Fin 13, ((r.val : Nat) : Int) = asks[k]?.getD 0 := ⟨fin13 (asks[k]?.getD 0), fin13_val hr⟩
      have hck : wr.cell? ⟨br, offr + k, none⟩ = some (.int .i64 (r.val : Nat)) := by rw [hrr]; exact (hbel.cell (by exact hbwr)).trans (hcell k hlt)
      have HRR : Hid (((r.val : Nat) : Int) = asks[k]?.getD 0) := hrr
      have HTab : Hid (PTab s asks k T) := hTab
      have HL1 : Hid (∀ st y, T st = some y → y < 1024) := fun st y e => by have := ptab_lt HF.out.line HF.out.asked HF.out.many hk hTab st y e; omega
      have HB : Hid (Below w.heap.size w wr) := hbel
      have HT : Hid (IsTab Unit (wr.alloc (.cells #[.int .i64 (r.val : Nat)] 3)) b T) := hT.kept (World.grownBy_alloc _ _ none) (by simp)
      have HBT : Hid (Boxed (wr.alloc (.cells #[.int .i64 (r.val : Nat)] 3)) w4.heap.size 50 (.map (some b))) := bT.alloc _
      have HBM : Hid (Boxed (wr.alloc (.cells #[.int .i64 (r.val : Nat)] 3)) w2.heap.size 3 (.int .i64 (s.length : Nat))) := bM.alloc _
      have HBA : Hid (Below w.heap.size w (wr.alloc (.cells #[.int .i64 (r.val : Nat)] 3))) := hbel.alloc hwr _
      have HLD : Hid (LeadsTo (wr.alloc (.cells #[.int .i64 (r.val : Nat)] 3)) 28 #[.pointer (some ⟨w2.heap.size, 0, none⟩), .pointer (some ⟨wr.heap.size, 0, none⟩)] 40 (fun st => sentTo r st s.length) 7) := leads_sent hn3 HBM.out.cell (Boxed.new wr 3 _).cell
      have cT := (bT.alloc (.cells #[.int .i64 (r.val : Nat)] 3)).cell
      clear hcell hbwr hT hTab hbel bT bM hrr hr
      go_wp2_with (go_at_call 27; fail)
      refine (tstep_any Unit b T HL1.out _ _ 7 _ HT.out HLD.out).mono ?_
      rintro e w5 ⟨⟨b5, T5, rfl, hT5, hO5⟩, hb5⟩
      have bT5 := box_later HBT.out hb5
      have cT5 := bT5.cell
      have fT5 := bT5.frozen
      have HBT5 : Hid (Boxed w5 w4.heap.size 50 (.map (some b))) := bT5
      have HBM5 : Hid (Boxed w5 w2.heap.size 3 (.int .i64 (s.length : Nat))) := box_later HBM.out hb5
      have HT5 : Hid (IsTab Unit w5 b5 T5) := hT5
      have HO5 : Hid (Onto (fun st => sentTo r st s.length) T T5) := hO5
      have HB5 : Hid (Below w.heap.size w w5) := HBA.out.trans (hb5.mono HBA.out.size)
      clear hT5 hO5 hb5 bT5
      go_wp2
      go_roundw
      case rel =>
        have hne5 := tab_ne HT5.out HBT5.out
        have hnm := HNE.out
        exact ⟨k + 1, b5, T5, by omega, by go_num, HBT5.out.set _, HBM5.out.other (by omega) _, HT5.out.setCell (a := ⟨w4.heap.size, 0, none⟩) hne5 _, ptab_succ hn3 HF.out.line HF.out.asked hlt HRR.out HTab.out HO5.out, HB5.out.setCell (p := ⟨w4.heap.size, 0, none⟩) HSZ.out _⟩
      case measure => simp [intOf]; omega
    · have hkl : k = asks.length := by omega
      subst hkl
      have cT := bT.cell
      have HT : Hid (IsTab Unit wr b T) := hT
      have HTab : Hid (PTab s asks asks.length T) := hTab
      have HB : Hid (Below w.heap.size w wr) := hbel
      clear hT hTab hbel bT bM
      go_wp2_with (go_at_call 30; go_must (refine (tleast_any Unit b T (fun st y e => by have := ptab_lt HF.out.line HF.out.asked HF.out.many (Nat.le_refl _) HTab.out st y e; omega) (ptab_some (by omega) (Nat.le_refl _) HTab.out) wr HT.out).mono ?_; rintro e w3 ⟨⟨x, rfl, hx⟩, hb3⟩))
      go_ret2
      exact ⟨x, rfl, ptab_least HTab.out hx, HB.out.trans (hb3.mono hwr)⟩
set_option maxHeartbeats 2000000 in
theorem pleast_err (v va : Value) (s asks : List Int) (w : World) (hv : IsInts w v s) (ha : IsInts w va asks) (n : Nat) (hn : n = 1 ∨ n = 4 ∨ n = 5) (hc0 : chkV s asks = n) :
    Calls Tryd.prog 13 #[v, va] w fun e w' => e = .returned (.tuple #[.int .i64 0, errV n]) ∧ w' = w := by
  have HV : Hid (IsInts w v s) := hv
  have HVA : Hid (IsInts w va asks) := ha
  have HCK : Hid (chkV s asks = n) := hc0
  obtain ⟨ao, cap, rfl, _⟩ := hv.opened
  obtain ⟨aa, capa, rfl, _⟩ := ha.opened
  clear hv ha hc0
  rcases hn with rfl | rfl | rfl
  all_goals
    go_enter Tryd.func13, Tryd.ntmps13
    go_wp2_with (go_at_call 6; go_must (refine (vcheck_any _ _ s asks _ HV.out HVA.out).mono ?_; rintro e w' ⟨rfl, hw⟩; have hw := hw.symm; subst hw; rw [HCK.out]; simp only [errV]))
    go_ret2
    exact ⟨rfl, rfl⟩
end Pl
/-- What serve.Least tells. -/
structure LeastS (s asks : List Int) (x : Nat) : Prop where
  ok : chkV s asks = 0 → LeastGo s asks x
  err : chkV s asks ≠ 0 → x = 0
theorem vleast_any (v va : Value) (s asks : List Int) (w : World) (hv : IsInts w v s) (ha : IsInts w va asks) :
    Calls Tryd.prog 13 #[v, va] w fun e w' => ∃ x : Nat, e = .returned (.tuple #[.int .i64 x, errV (chkV s asks)]) ∧ LeastS s asks x ∧ Below w.heap.size w w' := by
  by_cases h : chkV s asks = 0
  · refine (Pl.pleast_ok v va s asks w hv ha h).mono ?_
    rintro e w' ⟨x, rfl, hx, hb⟩
    exact ⟨x, by rw [h]; rfl, ⟨fun _ => hx, fun h1 => absurd h h1⟩, hb⟩
  · have hn : chkV s asks = 1 ∨ chkV s asks = 4 ∨ chkV s asks = 5 := by have := chkV_cases s asks; omega
    refine (Pl.pleast_err v va s asks w hv ha _ hn rfl).mono ?_
    rintro e w' ⟨rfl, hw⟩
    exact ⟨0, rfl, ⟨fun h1 => absurd h1 h, fun _ => rfl⟩, by rw [hw]; exact Below.refl _ _⟩
end Go.Proofs.YtnjfmlojbaigjaaDoor
