/- The walk of acks.Least. -/
import Derived.Test.YtnjfmlojbaigjabWLeads
import Derived.Test.YtnjfmlojbaigjabACheck
namespace Go.Proofs.Ytnjfmlojbaigjab
namespace Wt
set_option maxRecDepth 100000
open Go.RowKit Go.Maps Go.Shelf

theorem wboxes_new (W : World) (s : W20) (b off cap n k : Nat) (pr : Fin 32768) (g : Fin 1001) (x : Int)
    (hx : k + 1 < n → 0 ≤ x ∧ x ≤ 1000 ∧ W.cell? ⟨b, off + k, none⟩ = some (.int .i64 x) ∧ W.cell? ⟨b, off + (k + 1), none⟩ = some (.int .i64 (x + (g.val : Nat)))) :
    WBoxes ((((W.alloc (.cells s.cells 63)).alloc (.cells #[.slice (some ⟨b, off, none⟩) n cap] 22)).alloc (.cells #[.int .i64 (k : Nat)] 3)).alloc (.cells #[.int .i64 (pr.val : Nat)] 3)) W.heap.size (W.heap.size + 1) (W.heap.size + 2) (W.heap.size + 3) s n k pr g := by
  have l0 := (((Lies.new W s.cells 63).alloc (.cells #[.slice (some ⟨b, off, none⟩) n cap] 22)).alloc (.cells #[.int .i64 (k : Nat)] 3)).alloc (.cells #[.int .i64 (pr.val : Nat)] 3)
  have l1 := ((Lies.new (W.alloc (.cells s.cells 63)) #[.slice (some ⟨b, off, none⟩) n cap] 22).alloc (.cells #[.int .i64 (k : Nat)] 3)).alloc (.cells #[.int .i64 (pr.val : Nat)] 3)
  have l2 := (Lies.new ((W.alloc (.cells s.cells 63)).alloc (.cells #[.slice (some ⟨b, off, none⟩) n cap] 22)) #[.int .i64 (k : Nat)] 3).alloc (.cells #[.int .i64 (pr.val : Nat)] 3)
  have l3 := Lies.new (((W.alloc (.cells s.cells 63)).alloc (.cells #[.slice (some ⟨b, off, none⟩) n cap] 22)).alloc (.cells #[.int .i64 (k : Nat)] 3)) #[.int .i64 (pr.val : Nat)] 3
  simp only [World.size_alloc] at l1 l2 l3
  exact ⟨l0, ⟨b, off, cap, x, l1.cell rfl, fun hn => by
    obtain ⟨a1, a2, a3, a4⟩ := hx hn
    exact ⟨a1, a2, Lib.cell?_alloc_some _ (Lib.cell?_alloc_some _ (Lib.cell?_alloc_some _ (Lib.cell?_alloc_some _ a3))), Lib.cell?_alloc_some _ (Lib.cell?_alloc_some _ (Lib.cell?_alloc_some _ (Lib.cell?_alloc_some _ a4)))⟩⟩, l2.cell rfl, l3.cell rfl⟩
theorem WLeads.below {w W : World} {Bt Ba Bp n k : Nat} {pr : Fin 32768} {g : Fin 1001} (h : WLeads w Bt Ba Bp n k pr g) (hb : Below w.heap.size w W) : WLeads W Bt Ba Bp n k pr g := by
  have kc : ∀ {b j : Nat} {u : Value}, w.cell? ⟨b, j, none⟩ = some u → W.cell? ⟨b, j, none⟩ = some u := fun h0 => (hb.cell (World.block_lt_of_cell? w _ h0)).trans h0
  obtain ⟨⟨b, off, cap, x, h2, h3⟩, h4, h5⟩ := h
  exact ⟨⟨b, off, cap, x, kc h2, fun hn => by obtain ⟨a1, a2, a3, a4⟩ := h3 hn; exact ⟨a1, a2, kc a3, kc a4⟩⟩, kc h4, kc h5⟩
theorem wleads_to {w : World} {Bt Ba Bp n k : Nat} (hk : k < n) (hn20 : n ≤ 20) {pr : Fin 32768} {g : Fin 1001} (hL : WLeads w Bt Ba Bp n k pr g) (hbt : ∀ b off cap, w.cell? ⟨Bt, 0, none⟩ = some (.slice (some ⟨b, off, none⟩) n cap) → b < w.heap.size) :
    LeadsTo w 31 #[.pointer (some ⟨Bt, 0, none⟩), .pointer (some ⟨Ba, 0, none⟩), .pointer (some ⟨Bp, 0, none⟩)] 55 (waitsL n k pr g) 3 := by
  intro bn s W h1 h2 h3
  have hL3 := hL.below h3
  obtain ⟨b0, off0, cap0, x, c0, hx⟩ := hL3.times
  have hb0 : b0 < w.heap.size := by
    obtain ⟨b1, off1, cap1, x1, c1, _⟩ := hL.times
    have := (h3.cell (World.block_lt_of_cell? w _ c1)).trans c1
    rw [c0] at this
    cases this
    exact hbt _ _ _ c1
  refine (wleads_any s Bt Ba Bp n k pr g W hL3).mono ?_
  rintro e W' ⟨W1, b, off, cap, hc, rfl, hb, rfl⟩
  rw [c0] at hc
  cases hc
  have hsz := hb.size
  have hx1 : k + 1 < n → 0 ≤ x ∧ x ≤ 1000 ∧ W1.cell? ⟨b0, off0 + k, none⟩ = some (.int .i64 x) ∧ W1.cell? ⟨b0, off0 + (k + 1), none⟩ = some (.int .i64 (x + (g.val : Nat))) := fun hn => by
    obtain ⟨a1, a2, a3, a4⟩ := hx hn
    exact ⟨a1, a2, (hb.cell (World.block_lt_of_cell? W _ a3)).trans a3, (hb.cell (World.block_lt_of_cell? W _ a4)).trans a4⟩
  have hBX := wboxes_new W1 s b0 off0 cap0 n k pr g x hx1
  refine ⟨_, rfl, (((hb.alloc (by omega) _).alloc (by simp; omega) _).alloc (by simp; omega) _).alloc (by simp; omega) _, fun r hr => ?_⟩
  refine wbehind_stops r hr W1.heap.size (W1.heap.size + 1) (W1.heap.size + 2) (W1.heap.size + 3) bn s n k hk hn20 pr g _ ⟨by omega, by omega, by omega, by omega⟩ hBX ?_
  intro b off cap hc
  obtain ⟨_, ⟨b', off', cap', x', h4, _⟩, _, _⟩ := hBX
  have h5 := (Lies.new (W1.alloc (.cells s.cells 63)) #[.slice (some ⟨b0, off0, none⟩) n cap0] 22).alloc (.cells #[.int .i64 (k : Nat)] 3) |>.alloc (.cells #[.int .i64 (pr.val : Nat)] 3)
  simp only [World.size_alloc] at h5
  have h6 := h5.cell (j := 0) rfl
  rw [hc] at h6
  cases h6
  omega

def WRel (w : World) (p : Int) (l : List Int) (vc : Value) (Bt : Nat) (i : Value) (wr : World) : Prop :=
  ∃ (k b : Nat) (T : W20 → Option Nat), k ≤ l.length ∧ i = .int .i64 k ∧ Boxed wr Bt 60 (.map (some b)) ∧ IsTab Unit wr b T ∧ TabW p l k T ∧ Below w.heap.size w wr ∧ Boxed wr w.heap.size 22 vc ∧ Boxed wr (w.heap.size + 1) 3 (.int .i64 p)

set_option maxHeartbeats 4000000 in
set_option maxRecDepth 100000 in
theorem wleast_ok (v : Value) (l : List Int) (p : Int) (w : World) (hv : IsInts w v l) (hc0 : chkA l p = 0) :
    Calls Try.prog 9 #[v, .int .i64 p] w fun e w' => ∃ x : Nat, e = .returned (.tuple #[.int .i64 x, .nilIface]) ∧ LeastTell p l x ∧ Below w.heap.size w w' := by
  have HF : Hid (FineA l p) := chkA_zero hc0
  have hpr := HF.out.price
  have hl20 := HF.out.many
  obtain ⟨ao, cap, rfl, hcap, ho⟩ := hv.opened
  have hw2 : Below w.heap.size w ((w.alloc (.cells #[.slice ao l.length cap] 22)).alloc (.cells #[.int .i64 p] 3)) := ((Below.refl _ w).alloc (Nat.le_refl _) _).alloc (by simp) _
  have HV : Hid (IsInts ((w.alloc (.cells #[.slice ao l.length cap] 22)).alloc (.cells #[.int .i64 p] 3)) (.slice ao l.length cap) l) := hv.below hw2
  have HCK : Hid (chkA l p = 0) := hc0
  have HO : Hid (∀ k, k < l.length → ∃ b off, ao = some ⟨b, off, none⟩ ∧ l.length ≤ cap ∧ b < w.heap.size ∧ ∀ j, j < l.length → w.cell? ⟨b, off + j, none⟩ = some (.int .i64 (l[j]?.getD 0))) := ho
  obtain ⟨pr, hprv⟩ : ∃ pr : Fin 32768, ((pr.val : Nat) : Int) = p := ⟨⟨p.toNat, by omega⟩, by show ((p.toNat : Nat) : Int) = p; omega⟩
  clear ho hv hc0 hw2
  subst hprv
  unfold maxLen at hcap
  go_enter Try.func9, Try.ntmps9
  go_wp2_with (first | (go_at_call 25; go_must (refine (acheck_any _ l _ _ HV.out).mono ?_; rintro e w' ⟨rfl, q0, hw⟩; subst hw; rw [HCK.out]; simp only [errV, if_true])) | (go_at_call 29; fail))
  refine (tstart_any Unit W20.none _).mono ?_
  rintro e w1 ⟨⟨b0, rfl, hT0⟩, hb0⟩
  have hb0' : Below ((w.alloc (.cells #[.slice ao l.length cap] 22)).alloc (.cells #[.int .i64 (pr.val : Nat)] 3)).heap.size ((w.alloc (.cells #[.slice ao l.length cap] 22)).alloc (.cells #[.int .i64 (pr.val : Nat)] 3)) w1 := ⟨hb0.os, hb0.tape, hb0.output, hb0.size, hb0.block⟩
  clear hb0
  have hsz1 : w.heap.size + 1 < w1.heap.size := by have := hb0'.size; simp at this; omega
  have bC1 : Boxed w1 w.heap.size 22 (.slice ao l.length cap) := box_later ((Boxed.new w 22 (.slice ao l.length cap)).alloc _) hb0'
  have bS1 : Boxed w1 (w.heap.size + 1) 3 (.int .i64 (pr.val : Nat)) := box_later (by have := Boxed.new (w.alloc (.cells #[.slice ao l.length cap] 22)) 3 (.int .i64 (pr.val : Nat)); rwa [World.size_alloc] at this) hb0'
  have hB1 : Below w.heap.size w w1 := (((Below.refl _ w).alloc (Nat.le_refl _) _).alloc (by simp) _).trans (hb0'.mono (by simp; omega))
  have HR0 : Hid (WRel w (pr.val : Nat) l (.slice ao l.length cap) w1.heap.size (.int .i64 0) (w1.alloc (.cells #[.map (some b0)] 60))) := ⟨0, b0, _, Nat.zero_le _, rfl, Boxed.new w1 _ _, hT0.kept (World.grownBy_alloc _ _ none) (by simp), tabW_start _ _, hB1.alloc (by omega) _, bC1.alloc _, bS1.alloc _⟩
  have HSZ : Hid (w.heap.size + 1 < w1.heap.size) := hsz1
  have bC0 := (bC1.alloc (.cells #[.map (some b0)] 60)).cell
  clear bC1 bS1 hB1 hT0 hb0'
  go_wp2_with fail
  go_loopw [8, 19] (fun _ i wr => WRel w (pr.val : Nat) l (.slice ao l.length cap) w1.heap.size i wr) (fun _ i _ => l.length - (intOf i).toNat)
  case atStart => exact HR0.out
  case round =>
    obtain ⟨k, b, T, hk, rfl, bT, hT, hTab, hbel, bC, bS⟩ := hrel
    by_cases hlt : k < l.length
    · obtain ⟨br, off, rfl, hlc, hbw, hcell⟩ := HO.out k hlt
      have hwr := hbel.size
      have hat : ∀ j, j < l.length → wr.cell? ⟨br, off + j, none⟩ = some (.int .i64 (l[j]?.getD 0)) := fun j hj => (hbel.cell (by exact hbw)).trans (hcell j hj)
      have hx0 : 0 ≤ l[k]?.getD 0 ∧ l[k]?.getD 0 ≤ 1000 := by
        have := HF.out.times (l[k]?.getD 0) (by rw [List.getElem?_eq_getElem hlt]; exact List.getElem_mem hlt)
        omega
      obtain ⟨g, hg⟩ : ∃ g : Fin 1001, k + 1 < l.length → ((g.val : Nat) : Int) = l[k+1]?.getD 0 - l[k]?.getD 0 := by
        by_cases h1 : k + 1 < l.length
        · have h2 := rising_adj HF.out.rise h1
          have h3 := HF.out.times (l[k+1]?.getD 0) (by rw [List.getElem?_eq_getElem h1]; exact List.getElem_mem h1)
          exact ⟨⟨(l[k+1]?.getD 0 - l[k]?.getD 0).toNat, by omega⟩, fun _ => by show (((l[k+1]?.getD 0 - l[k]?.getD 0).toNat : Nat) : Int) = _; omega⟩
        · exact ⟨0, fun h => absurd h h1⟩
      have HG : Hid (k + 1 < l.length → ((g.val : Nat) : Int) = l[k+1]?.getD 0 - l[k]?.getD 0) := hg
      have hwP : Below wr.heap.size wr (wr.alloc (.cells #[.int .i64 (k : Nat)] 3)) := (Below.refl _ wr).alloc (Nat.le_refl _) _
      have HLD : Hid (LeadsTo (wr.alloc (.cells #[.int .i64 (k : Nat)] 3)) 31 #[.pointer (some ⟨w.heap.size, 0, none⟩), .pointer (some ⟨wr.heap.size, 0, none⟩), .pointer (some ⟨w.heap.size + 1, 0, none⟩)] 55 (waitsL l.length k pr g) 3) := by
        refine wleads_to hlt hl20 ⟨⟨br, off, cap, l[k]?.getD 0, (bC.alloc _).cell, fun h1 => ⟨hx0.1, hx0.2, Lib.cell?_alloc_some _ (hat k hlt), ?_⟩⟩, (Boxed.new wr 3 (.int .i64 (k : Nat))).cell, (bS.alloc _).cell⟩ ?_
        · have e := hg h1
          have := hat (k+1) h1
          rw [show l[k+1]?.getD 0 = l[k]?.getD 0 + ((g.val : Nat) : Int) by omega] at this
          exact Lib.cell?_alloc_some _ this
        · intro b' off' cap' hc
          rw [(bC.alloc _).cell] at hc
          cases hc
          simp; omega
      have HT : Hid (IsTab Unit (wr.alloc (.cells #[.int .i64 (k : Nat)] 3)) b T) := hT.kept (World.grownBy_alloc _ _ none) (by simp)
      have HL1 : Hid (∀ st x, T st = some x → x < 32768) := tabW_lt HF.out hTab
      have HTab : Hid (TabW (pr.val : Nat) l k T) := hTab
      have HB : Hid (Below w.heap.size w wr) := hbel
      have HBP : Hid (Below wr.heap.size wr (wr.alloc (.cells #[.int .i64 (k : Nat)] 3))) := hwP
      have HBT : Hid (Boxed wr w1.heap.size 60 (.map (some b))) := bT
      have HBC : Hid (Boxed wr w.heap.size 22 (.slice (some ⟨br, off, none⟩) l.length cap)) := bC
      have HBS : Hid (Boxed wr (w.heap.size + 1) 3 (.int .i64 (pr.val : Nat))) := bS
      have cT : (wr.alloc (.cells #[.int .i64 (k : Nat)] 3)).cell? ⟨w1.heap.size, 0, none⟩ = some (.map (some b)) := (bT.alloc _).cell
      clear hcell hat hbw hx0 hg hT hTab hbel hwP bT bC bS
      go_wp2_with (go_at_call 30; go_must (refine (tstep_any Unit b T HL1.out _ _ 3 _ HT.out HLD.out).mono ?_; rintro e w3 ⟨⟨b3, T3, rfl, hT3, hO3⟩, hb3⟩; have hb4 : Below wr.heap.size wr w3 := HBP.out.trans (hb3.mono (by simp)); have bT3 : Boxed w3 w1.heap.size 60 (.map (some b)) := box_later HBT.out hb4; have cT3 := bT3.cell; have fT3 := bT3.frozen; have HT3 : Hid (IsTab Unit w3 b3 T3) := hT3; have HO3 : Hid (Onto (waitsL l.length k pr g) T T3) := hO3; have HB4 : Hid (Below wr.heap.size wr w3) := hb4; have HBT3 : Hid (Boxed w3 w1.heap.size 60 (.map (some b))) := bT3; clear hT3 hO3 hb3 hb4 bT3))
      go_roundw
      case rel =>
        have hsw := HSZ.out
        have hne : b3 ≠ w1.heap.size := fun e => by
          obtain ⟨es, ck, hh⟩ := HT3.out.obj
          have := HBT3.out
          unfold Boxed at this
          rw [e, this] at hh; cases hh
        exact ⟨k + 1, b3, T3, by omega, by go_num, HBT3.out.set _, HT3.out.setCell (a := ⟨w1.heap.size, 0, none⟩) hne _, tabW_succ HF.out hlt rfl HG.out HTab.out HO3.out, (HB.out.trans (HB4.out.mono hwr)).setCell (p := ⟨w1.heap.size, 0, none⟩) (by show w.heap.size ≤ w1.heap.size; omega) _, (box_later HBC.out HB4.out).other (by omega) _, (box_later HBS.out HB4.out).other (by omega) _⟩
      case measure => simp [intOf]; omega
    · have hkl : k = l.length := by omega
      subst hkl
      have cT := bT.cell
      have HT : Hid (IsTab Unit wr b T) := hT
      have HTab : Hid (TabW (pr.val : Nat) l l.length T) := hTab
      have HB : Hid (Below w.heap.size w wr) := hbel
      have hwr := hbel.size
      clear hT hTab hbel bT bC bS
      go_wp2_with (go_at_call 33; go_must (refine (tleast_any Unit b T (tabW_lt HF.out HTab.out) (tabW_some (Nat.le_refl _) HTab.out) wr HT.out).mono ?_; rintro e w3 ⟨⟨x, rfl, hx⟩, hb3⟩))
      go_ret2
      exact ⟨x, rfl, tabW_least HF.out HTab.out hx, HB.out.trans (hb3.mono hwr)⟩
set_option maxHeartbeats 2000000 in
theorem wleast_err (v : Value) (l : List Int) (p : Int) (w : World) (hv : IsInts w v l) (n : Nat) (hn : n = 1 ∨ n = 4 ∨ n = 6) (hc0 : chkA l p = n) :
    Calls Try.prog 9 #[v, .int .i64 p] w fun e w' => e = .returned (.tuple #[.int .i64 0, errV n]) ∧ Below w.heap.size w w' := by
  obtain ⟨ao, cap, rfl, _⟩ := hv.opened
  have hw2 : Below w.heap.size w ((w.alloc (.cells #[.slice ao l.length cap] 22)).alloc (.cells #[.int .i64 p] 3)) := ((Below.refl _ w).alloc (Nat.le_refl _) _).alloc (by simp) _
  have HW2 : Hid (Below w.heap.size w ((w.alloc (.cells #[.slice ao l.length cap] 22)).alloc (.cells #[.int .i64 p] 3))) := hw2
  have HV : Hid (IsInts ((w.alloc (.cells #[.slice ao l.length cap] 22)).alloc (.cells #[.int .i64 p] 3)) (.slice ao l.length cap) l) := hv.below hw2
  have HCK : Hid (chkA l p = n) := hc0
  clear hv hc0 hw2
  rcases hn with rfl | rfl | rfl
  all_goals
    go_enter Try.func9, Try.ntmps9
    go_wp2_with (go_at_call 25; go_must (refine (acheck_any _ l p _ HV.out).mono ?_; rintro e w' ⟨rfl, q0, hw⟩; subst hw; rw [HCK.out]; simp only [errV]))
    go_ret2
    exact ⟨rfl, below_drewN HW2.out _⟩
/-- What acks.Least tells. -/
structure LeastA (l : List Int) (p : Int) (x : Nat) : Prop where
  ok : chkA l p = 0 → LeastTell p l x
  err : chkA l p ≠ 0 → x = 0
theorem wleast_any (v : Value) (l : List Int) (p : Int) (w : World) (hv : IsInts w v l) :
    Calls Try.prog 9 #[v, .int .i64 p] w fun e w' => ∃ x : Nat, e = .returned (.tuple #[.int .i64 x, errV (chkA l p)]) ∧ LeastA l p x ∧ Below w.heap.size w w' := by
  by_cases h : chkA l p = 0
  · refine (wleast_ok v l p w hv h).mono ?_
    rintro e w' ⟨x, rfl, hx, hb⟩
    exact ⟨x, by rw [h]; rfl, ⟨fun _ => hx, fun h1 => absurd h h1⟩, hb⟩
  · have hn : chkA l p = 1 ∨ chkA l p = 4 ∨ chkA l p = 6 := by have := chkA_cases l p; omega
    refine (wleast_err v l p w hv _ hn rfl).mono ?_
    rintro e w' ⟨rfl, hb⟩
    exact ⟨0, rfl, ⟨fun h1 => absurd h1 h, fun _ => rfl⟩, hb⟩
end Wt
end Go.Proofs.Ytnjfmlojbaigjab
