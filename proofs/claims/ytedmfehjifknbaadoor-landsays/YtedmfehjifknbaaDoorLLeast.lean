/- The walk of landlord.Least. -/
import Derived.Test.YtedmfehjifknbaaDoorLandS
import Derived.Test.YtedmfehjifknbaaDoorLBehS
import Derived.Test.YtedmfehjifknbaaDoorLLeads
import Derived.Test.YtedmfehjifknbaaDoorLCheck
namespace Go.Proofs.YtedmfehjifknbaaDoor
set_option maxRecDepth 100000
open Go.RowKit Go.Maps Go.Shelf

theorem Leads.below {w W : World} {Bp Bc Bs : Nat} {p c n : Int} (h : Leads w Bp Bc Bs p c n) (hb : Below w.heap.size w W) : Leads W Bp Bc Bs p c n := by
  have k : ∀ {b j : Nat} {u : Value}, w.cell? ⟨b, j, none⟩ = some u → W.cell? ⟨b, j, none⟩ = some u := fun h0 => (hb.cell (World.block_lt_of_cell? w _ h0)).trans h0
  obtain ⟨h1, ⟨g, off, len, cap, h2, a1, a2, a3, h3⟩, h4⟩ := h
  exact ⟨k h1, ⟨g, off, len, cap, k h2, a1, a2, a3, k h3⟩, k h4⟩
theorem boxes_new (W : World) (s : S6) (p : Nat) (co : Fin 1024) (sl : Nat) : Boxes ((((W.alloc (.cells s.cells 58)).alloc (.cells #[.int .i64 (p : Int)] 3)).alloc (.cells #[.int .i64 ((co.val : Nat) : Int)] 3)).alloc (.cells #[.int .i64 (sl : Int)] 3)) W.heap.size (W.heap.size + 1) (W.heap.size + 3) (W.heap.size + 2) s p co sl := by
  have l0 := (((Lies.new W s.cells 58).alloc (.cells #[.int .i64 (p : Int)] 3)).alloc (.cells #[.int .i64 ((co.val : Nat) : Int)] 3)).alloc (.cells #[.int .i64 (sl : Int)] 3)
  have l1 := ((Lies.new (W.alloc (.cells s.cells 58)) #[.int .i64 (p : Int)] 3).alloc (.cells #[.int .i64 ((co.val : Nat) : Int)] 3)).alloc (.cells #[.int .i64 (sl : Int)] 3)
  have l2 := (Lies.new ((W.alloc (.cells s.cells 58)).alloc (.cells #[.int .i64 (p : Int)] 3)) #[.int .i64 ((co.val : Nat) : Int)] 3).alloc (.cells #[.int .i64 (sl : Int)] 3)
  have l3 := Lies.new (((W.alloc (.cells s.cells 58)).alloc (.cells #[.int .i64 (p : Int)] 3)).alloc (.cells #[.int .i64 ((co.val : Nat) : Int)] 3)) #[.int .i64 (sl : Int)] 3
  simp only [World.size_alloc] at l1 l2 l3
  exact ⟨l0.cell rfl, l0.cell rfl, l0.cell rfl, l0.cell rfl, l0.cell rfl, l0.cell rfl, l1.cell rfl, l2.cell rfl, l3.cell rfl⟩
theorem leads_to {w : World} {Bp Bc Bs pn : Nat} (hp : pn < 6) {co : Fin 1024} {sl : Nat} (hL : Leads w Bp Bc Bs pn (co.val : Nat) sl) :
    LeadsTo w 26 #[.pointer (some ⟨Bp, 0, none⟩), .pointer (some ⟨Bc, 0, none⟩), .pointer (some ⟨Bs, 0, none⟩)] 35 (fun s => behindL s pn co sl) 7 := by
  intro bn s W h1 h2 h3
  refine (leads_any s Bp Bc Bs pn (co.val : Nat) sl W (hL.below h3)).mono ?_
  rintro e W' ⟨W1, rfl, hb, rfl⟩
  have hsz := hb.size
  refine ⟨_, rfl, (((hb.alloc (by omega) _).alloc (by simp; omega) _).alloc (by simp; omega) _).alloc (by simp; omega) _, fun n hn => ?_⟩
  exact behind_stops n hn W1.heap.size (W1.heap.size + 1) (W1.heap.size + 3) (W1.heap.size + 2) bn s pn hp co sl _ ⟨by omega, by omega⟩ (boxes_new W1 s pn co sl)

def LeastRel (w : World) (s : Nat) (c l : List Int) (vc : Value) (Bt : Nat) (i : Value) (wr : World) : Prop :=
  ∃ (k b : Nat) (T : S6 → Option Nat), k ≤ l.length ∧ i = .int .i64 k ∧ Boxed wr Bt 55 (.map (some b)) ∧ IsTab Unit wr b T ∧ Tab6 s (cf c) l k T ∧ Below w.heap.size w wr ∧ Boxed wr w.heap.size 22 vc ∧ Boxed wr (w.heap.size + 1) 3 (.int .i64 s)

set_option maxHeartbeats 4000000 in
set_option maxRecDepth 100000 in
theorem least_ok (v vc : Value) (l c : List Int) (s : Nat) (w : World) (hv : IsInts w v l) (hvc : IsInts w vc c) (hc0 : chkC l c s = 0) :
    Calls Tryd.prog 11 #[v, vc, .int .i64 s] w fun e w' => ∃ x : Nat, e = .returned (.tuple #[.int .i64 x, .nilIface]) ∧ IsLeast s (cf c) l x ∧ Below w.heap.size w w' := by
  have F := chkC_zero hc0
  have hw2 : Below w.heap.size w ((w.alloc (.cells #[vc] 22)).alloc (.cells #[.int .i64 (s : Int)] 3)) := ((Below.refl _ w).alloc (Nat.le_refl _) _).alloc (by simp) _
  have HV : Hid (IsInts ((w.alloc (.cells #[vc] 22)).alloc (.cells #[.int .i64 (s : Int)] 3)) v l) := hv.below hw2
  have HVC : Hid (IsInts ((w.alloc (.cells #[vc] 22)).alloc (.cells #[.int .i64 (s : Int)] 3)) vc c) := hvc.below hw2
  have HCK : Hid (chkC l c s = 0) := hc0
  have hs1 : 1 ≤ s := by have := F.slots; omega
  have hs8 : s ≤ 8 := by have := F.slots; omega
  have hl40 := F.reqs
  have HF : Hid (FineC l c s) := F
  obtain ⟨ao, cap, rfl, hcap, ho⟩ := hv.opened
  obtain ⟨ac, cac, rfl, hcac, hoc⟩ := hvc.opened
  have HO : Hid (∀ k, k < l.length → ∃ b off, ao = some ⟨b, off, none⟩ ∧ l.length ≤ cap ∧ b < w.heap.size ∧ ∀ j, j < l.length → w.cell? ⟨b, off + j, none⟩ = some (.int .i64 (l[j]?.getD 0))) := ho
  have HOC : Hid (∀ k, k < c.length → ∃ b off, ac = some ⟨b, off, none⟩ ∧ c.length ≤ cac ∧ b < w.heap.size ∧ ∀ j, j < c.length → w.cell? ⟨b, off + j, none⟩ = some (.int .i64 (c[j]?.getD 0))) := hoc
  clear ho hoc hv hvc hc0 F hw2
  unfold maxLen at hcap hcac
  go_enter Tryd.func11, Tryd.ntmps11
  go_wp2_with (first | (go_at_call 6; go_must (refine (lcheck_any _ _ l c s _ HV.out HVC.out).mono ?_; rintro e w' ⟨rfl, hw⟩; have hw := hw.symm; subst hw; rw [HCK.out]; simp only [errV, if_true])) | (go_at_call 24; fail))
  refine (tstart_any Unit S6.none _).mono ?_
  rintro e w1 ⟨⟨b0, rfl, hT0⟩, hb0⟩
  have hsz1 : w.heap.size + 1 < w1.heap.size := by have := hb0.size; simp at this; omega
  have bC1 : Boxed w1 w.heap.size 22 (.slice ac c.length cac) := box_later ((Boxed.new w 22 (.slice ac c.length cac)).alloc _) hb0
  have bS1 : Boxed w1 (w.heap.size + 1) 3 (.int .i64 (s : Int)) := box_later (by have := Boxed.new (w.alloc (.cells #[.slice ac c.length cac] 22)) 3 (.int .i64 (s : Int)); rwa [World.size_alloc] at this) hb0
  have hB1 : Below w.heap.size w w1 := (((Below.refl _ w).alloc (Nat.le_refl _) _).alloc (by simp) _).trans (hb0.mono (by simp; omega))
  have HR0 : Hid (LeastRel w s c l (.slice ac c.length cac) w1.heap.size (.int .i64 0) (w1.alloc (.cells #[.map (some b0)] 55))) := ⟨0, b0, _, Nat.zero_le _, rfl, Boxed.new w1 _ _, hT0.kept (World.grownBy_alloc _ _ none) (by simp), tab6_start _ _ _, hB1.alloc (by omega) _, bC1.alloc _, bS1.alloc _⟩
  have HSZ : Hid (w.heap.size + 1 < w1.heap.size) := hsz1
  clear bC1 bS1 hB1 hT0 hb0
  go_wp2_with fail
  go_loopw [11, 23] (fun _ i wr => LeastRel w s c l (.slice ac c.length cac) w1.heap.size i wr) (fun _ i _ => l.length - (intOf i).toNat)
  case atStart => exact HR0.out
  case round =>
    obtain ⟨k, b, T, hk, rfl, bT, hT, hTab, hbel, bC, bS⟩ := hrel
    by_cases hlt : k < l.length
    · obtain ⟨br, off, rfl, hlc, hbw, hcell⟩ := HO.out k hlt
      have hck : wr.cell? ⟨br, off + k, none⟩ = some (.int .i64 (l[k]?.getD 0)) := (hbel.cell (by exact hbw)).trans (hcell k hlt)
      have hpg := HF.out.page k hlt
      obtain ⟨bc, offc, rfl, hlcc, hbcw, hcellc⟩ := HOC.out (l[k]?.getD 0).toNat (by omega)
      have hcc : w.cell? ⟨bc, offc + (l[k]?.getD 0).toNat, none⟩ = some (.int .i64 (cf c (l[k]?.getD 0) : Nat)) := by rw [hcellc _ (by omega), cf_get HF.out (by omega)]
      have hcl := cf_le HF.out (l[k]?.getD 0)
      have hc6 := HF.out.costs
      obtain ⟨pn, hpn⟩ : ∃ n : Nat, l[k]?.getD 0 = n := ⟨(l[k]?.getD 0).toNat, by omega⟩
      have HPN : Hid (l[k]?.getD 0 = (pn : Int)) := hpn
      rw [hpn] at hck hpg hcc hcl
      rw [Int.toNat_natCast] at hcc
      obtain ⟨co, hco⟩ : ∃ co : Fin 1024, co.val = cf c (pn : Int) := ⟨⟨cf c (pn : Int), by omega⟩, rfl⟩
      rw [← hco] at hcc
      have HCO : Hid (co.val = cf c (pn : Int)) := hco
      have hwr := hbel.size
      have hwP : Below wr.heap.size wr (wr.alloc (.cells #[.int .i64 (pn : Int)] 3)) := (Below.refl _ wr).alloc (Nat.le_refl _) _
      have HLD : Hid (LeadsTo (wr.alloc (.cells #[.int .i64 (pn : Int)] 3)) 26 #[.pointer (some ⟨wr.heap.size, 0, none⟩), .pointer (some ⟨w.heap.size, 0, none⟩), .pointer (some ⟨w.heap.size + 1, 0, none⟩)] 35 (fun st => behindL st pn co s) 7) := by
        refine leads_to (by omega) ⟨(Boxed.new wr 3 (.int .i64 (pn : Int))).cell, ⟨bc, offc, c.length, cac, (bC.alloc _).cell, by omega, hpg.2, by omega, ?_⟩, (bS.alloc _).cell⟩
        rw [Int.toNat_natCast]
        exact Lib.cell?_alloc_some _ ((hbel.cell (by exact hbcw)).trans hcc)
      have HT : Hid (IsTab Unit (wr.alloc (.cells #[.int .i64 (pn : Int)] 3)) b T) := hT.kept (World.grownBy_alloc _ _ none) (by simp)
      have HL1 : Hid (∀ st x, T st = some x → x < 1024) := tab6_lt (cf_le HF.out) (by omega) hTab
      have HTab : Hid (Tab6 s (cf c) l k T) := hTab
      have HB : Hid (Below w.heap.size w wr) := hbel
      have HBP : Hid (Below wr.heap.size wr (wr.alloc (.cells #[.int .i64 (pn : Int)] 3))) := hwP
      have HBT : Hid (Boxed wr w1.heap.size 55 (.map (some b))) := bT
      have HBC : Hid (Boxed wr w.heap.size 22 (.slice (some ⟨bc, offc, none⟩) c.length cac)) := bC
      have HBS : Hid (Boxed wr (w.heap.size + 1) 3 (.int .i64 (s : Int))) := bS
      have HIN : Hid (∀ x, x ∈ l → 0 ≤ x ∧ x < 6) := by
        intro x hx
        obtain ⟨j, hj, e⟩ := List.getElem_of_mem hx
        have := HF.out.page j hj
        rw [List.getElem?_eq_getElem hj, Option.getD_some, e] at this
        omega
      have cT : (wr.alloc (.cells #[.int .i64 (pn : Int)] 3)).cell? ⟨w1.heap.size, 0, none⟩ = some (.map (some b)) := (bT.alloc _).cell
      clear hcell hcellc hbw hbcw hcc hT hTab hbel hwP bT bC bS hpn hpg hcl hco
      go_wp2_with (go_at_call 25; go_must (refine (tstep_any Unit b T HL1.out _ _ 7 _ HT.out HLD.out).mono ?_; rintro e w3 ⟨⟨b3, T3, rfl, hT3, hO3⟩, hb3⟩; have hb4 : Below wr.heap.size wr w3 := HBP.out.trans (hb3.mono (by simp)); have bT3 : Boxed w3 w1.heap.size 55 (.map (some b)) := box_later HBT.out hb4; have cT3 := bT3.cell; have fT3 := bT3.frozen; have HT3 : Hid (IsTab Unit w3 b3 T3) := hT3; have HO3 : Hid (Onto (fun st => behindL st pn co s) T T3) := hO3; have HB4 : Hid (Below wr.heap.size wr w3) := hb4; have HBT3 : Hid (Boxed w3 w1.heap.size 55 (.map (some b))) := bT3; clear hT3 hO3 hb3 hb4 bT3))
      go_roundw
      case rel =>
        have hsw := HSZ.out
        have hne : b3 ≠ w1.heap.size := fun e => by
          obtain ⟨es, ck, hh⟩ := HT3.out.obj
          have := HBT3.out
          unfold Boxed at this
          rw [e, this] at hh; cases hh
        exact ⟨k + 1, b3, T3, by omega, by go_num, HBT3.out.set _, HT3.out.setCell (a := ⟨w1.heap.size, 0, none⟩) hne _, tab6_succ HIN.out hlt HPN.out HCO.out HTab.out HO3.out, (HB.out.trans (HB4.out.mono hwr)).setCell (p := ⟨w1.heap.size, 0, none⟩) (by show w.heap.size ≤ w1.heap.size; omega) _, (box_later HBC.out HB4.out).other (by omega) _, (box_later HBS.out HB4.out).other (by omega) _⟩
      case measure => simp [intOf]; omega
    · have hkl : k = l.length := by omega
      subst hkl
      have cT := bT.cell
      have HT : Hid (IsTab Unit wr b T) := hT
      have HTab : Hid (Tab6 s (cf c) l l.length T) := hTab
      have HB : Hid (Below w.heap.size w wr) := hbel
      have hwr := hbel.size
      clear hT hTab hbel bT bC bS
      go_wp2_with (go_at_call 28; go_must (refine (tleast_any Unit b T (tab6_lt (cf_le HF.out) hl40 HTab.out) (tab6_some hs1 (Nat.le_refl _) HTab.out) wr HT.out).mono ?_; rintro e w3 ⟨⟨x, rfl, hx⟩, hb3⟩))
      go_ret2
      exact ⟨x, rfl, tab6_least HTab.out hx, HB.out.trans (hb3.mono hwr)⟩
set_option maxHeartbeats 2000000 in
theorem least_err (v vc : Value) (l c : List Int) (s : Int) (w : World) (hv : IsInts w v l) (hvc : IsInts w vc c) (n : Nat) (hn : n = 1 ∨ n = 4) (hc0 : chkC l c s = n) :
    Calls Tryd.prog 11 #[v, vc, .int .i64 s] w fun e w' => e = .returned (.tuple #[.int .i64 0, errV n]) ∧ Below w.heap.size w w' := by
  have hw2 : Below w.heap.size w ((w.alloc (.cells #[vc] 22)).alloc (.cells #[.int .i64 s] 3)) := ((Below.refl _ w).alloc (Nat.le_refl _) _).alloc (by simp) _
  have HW2 : Hid (Below w.heap.size w ((w.alloc (.cells #[vc] 22)).alloc (.cells #[.int .i64 s] 3))) := hw2
  have HV : Hid (IsInts ((w.alloc (.cells #[vc] 22)).alloc (.cells #[.int .i64 s] 3)) v l) := hv.below hw2
  have HVC : Hid (IsInts ((w.alloc (.cells #[vc] 22)).alloc (.cells #[.int .i64 s] 3)) vc c) := hvc.below hw2
  have HCK : Hid (chkC l c s = n) := hc0
  obtain ⟨ao, cap, rfl, _⟩ := hv.opened
  obtain ⟨ac, cac, rfl, _⟩ := hvc.opened
  clear hv hvc hc0 hw2
  rcases hn with rfl | rfl
  all_goals
    go_enter Tryd.func11, Tryd.ntmps11
    go_wp2_with (go_at_call 6; go_must (refine (lcheck_any _ _ l c s _ HV.out HVC.out).mono ?_; rintro e w' ⟨rfl, hw⟩; have hw := hw.symm; subst hw; rw [HCK.out]; simp only [errV]))
    go_ret2
    exact ⟨rfl, HW2.out⟩
/-- What landlord.Least tells. -/
structure LeastN (l c : List Int) (s : Int) (x : Nat) : Prop where
  ok : chkC l c s = 0 → IsLeast s.toNat (cf c) l x
  err : chkC l c s ≠ 0 → x = 0
theorem least_any (v vc : Value) (l c : List Int) (s : Int) (w : World) (hv : IsInts w v l) (hvc : IsInts w vc c) :
    Calls Tryd.prog 11 #[v, vc, .int .i64 s] w fun e w' => ∃ x : Nat, e = .returned (.tuple #[.int .i64 x, errV (chkC l c s)]) ∧ LeastN l c s x ∧ Below w.heap.size w w' := by
  by_cases h : chkC l c s = 0
  · have F := chkC_zero h
    obtain ⟨n, rfl⟩ : ∃ n : Nat, s = n := ⟨s.toNat, by have := F.slots; omega⟩
    refine (least_ok v vc l c n w hv hvc h).mono ?_
    rintro e w' ⟨x, rfl, hx, hb⟩
    exact ⟨x, by rw [h]; rfl, ⟨fun _ => hx, fun h1 => absurd h h1⟩, hb⟩
  · have hn : chkC l c s = 1 ∨ chkC l c s = 4 := by have := chkC_cases l c s; omega
    refine (least_err v vc l c s w hv hvc _ hn rfl).mono ?_
    rintro e w' ⟨rfl, hb⟩
    exact ⟨0, rfl, ⟨fun h1 => absurd h1 h, fun _ => rfl⟩, hb⟩
end Go.Proofs.YtedmfehjifknbaaDoor
