/- The walk of lists.Least. -/
import Derived.Test.YtnjfmlojbaigjabOMid
import Derived.Test.YtnjfmlojbaigjabOChk
namespace Go.Proofs.Ytnjfmlojbaigjab
set_option maxRecDepth 100000
open Go.RowKit Go.Maps Go.Shelf

def OLRel (w : World) (n : Nat) (l : List Int) (Bt : Nat) (i : Value) (wr : World) : Prop :=
  ∃ (k b : Nat) (T : O4 → Option Nat), k ≤ l.length ∧ i = .int .i64 k ∧ Boxed wr Bt 43 (.map (some b)) ∧ IsTab Unit wr b T ∧ OTab n l k T ∧ Below w.heap.size w wr
theorem thing_in {n : Nat} {l : List Int} (F : FineL (n : Int) l) : ∀ p, p ∈ l → p ∈ Un n := fun p hp => by
  obtain ⟨k, hk, rfl⟩ := List.getElem_of_mem hp
  have := F.thing k hk
  rw [List.getElem?_eq_getElem hk, Option.getD_some] at this
  exact Un_mem.2 this
theorem tab_ne {W : World} {b B : Nat} {T : O4 → Option Nat} {t : TypeId} {v : Value} (hT : IsTab Unit W b T) (hB : Boxed W B t v) : b ≠ B := fun e => by
  obtain ⟨es, ck, hh⟩ := hT.obj
  unfold Boxed at hB
  rw [e, hB] at hh; cases hh
set_option maxHeartbeats 4000000 in
theorem oleast_ok (n : Nat) (v : Value) (l : List Int) (w : World) (hv : IsInts w v l) (hc0 : chkL n l = 0) :
    Calls Try.prog 6 #[.int .i64 n, v] w fun e w' => ∃ x : Nat, e = .returned (.tuple #[.int .i64 x, .nilIface]) ∧ LeastLook (Un n) l x ∧ Below w.heap.size w w' := by
  have F := chkL_zero hc0
  have HV : Hid (IsInts w v l) := hv
  have HCK : Hid (chkL n l = 0) := hc0
  have hn1 : 1 ≤ n := by have := F.low; omega
  have hn4 : n ≤ 4 := by have := F.low; omega
  have hl40 := F.reqs
  have HF : Hid (FineL n l) := F
  have HIN : Hid (∀ p, p ∈ l → p ∈ Un n) := thing_in F
  obtain ⟨ao, cap, rfl, hcap, ho⟩ := hv.opened
  have HO : Hid (∀ k, k < l.length → ∃ b off, ao = some ⟨b, off, none⟩ ∧ l.length ≤ cap ∧ b < w.heap.size ∧ ∀ j, j < l.length → w.cell? ⟨b, off + j, none⟩ = some (.int .i64 (l[j]?.getD 0))) := ho
  clear ho hv hc0 F
  unfold maxLen at hcap
  go_enter Try.func6, Try.ntmps6
  go_wp2_with (first | (go_at_call 16; go_must (refine (ocheck_any _ _ l _ HV.out).mono ?_; rintro e w' ⟨rfl, hw⟩; have hw := hw.symm; subst hw; rw [HCK.out]; simp only [errV, if_true])) | (go_at_call 18; go_must (refine (lstart_any _).mono ?_; rintro e w0 ⟨rfl, hb0⟩; have HB0 : Hid (Below w.heap.size w w0) := hb0; clear hb0)) | (go_at_call 17; fail))
  refine (tstart_any Unit O4.id _).mono ?_
  rintro e w1 ⟨⟨b0, rfl, hT0⟩, hb1⟩
  have HB1 : Hid (Below w.heap.size w w1) := HB0.out.trans (hb1.mono HB0.out.size)
  have hsz1 : w.heap.size ≤ w1.heap.size := HB1.out.size
  have HSZ : Hid (w.heap.size ≤ w1.heap.size) := hsz1
  have HR0 : Hid (OLRel w n l w1.heap.size (.int .i64 0) (w1.alloc (.cells #[.map (some b0)] 43))) := ⟨0, b0, _, Nat.zero_le _, rfl, Boxed.new w1 _ _, hT0.kept (World.grownBy_alloc _ _ none) (by simp), otab_start hn1 hn4 l, HB1.out.alloc hsz1 _⟩
  clear hT0 hb1 HB0
  go_wp2_with fail
  go_loopw [9, 20] (fun _ i wr => OLRel w n l w1.heap.size i wr) (fun _ i _ => l.length - (intOf i).toNat)
  case atStart => exact HR0.out
  case round =>
    obtain ⟨k, b, T, hk, rfl, bT, hT, hTab, hbel⟩ := hrel
    have hwr := hbel.size
    by_cases hlt : k < l.length
    · obtain ⟨br, off, rfl, hlc, hbw, hcell⟩ := HO.out k hlt
      have hck : wr.cell? ⟨br, off + k, none⟩ = some (.int .i64 (l[k]?.getD 0)) := (hbel.cell (by exact hbw)).trans (hcell k hlt)
      have hth := HF.out.thing k hlt
      obtain ⟨x, hxn⟩ : ∃ x : Nat, l[k]?.getD 0 = x := ⟨(l[k]?.getD 0).toNat, by omega⟩
      have HXN : Hid (l[k]?.getD 0 = (x : Int)) := hxn
      rw [hxn] at hck hth
      have HX : Hid (x < n) := by unfold Hid; omega
      have HTab : Hid (OTab n l k T) := hTab
      have HL1 : Hid (∀ st y, T st = some y → y < 1000) := fun st y e => by have := otab_lt hn4 HIN.out hTab st y e; omega
      have HB : Hid (Below w.heap.size w wr) := hbel
      have HT : Hid (IsTab Unit (wr.alloc (.cells #[.int .i64 (x : Int)] 3)) b T) := hT.kept (World.grownBy_alloc _ _ none) (by simp)
      have HBT : Hid (Boxed (wr.alloc (.cells #[.int .i64 (x : Int)] 3)) w1.heap.size 43 (.map (some b))) := bT.alloc _
      have HBX : Hid (Boxed (wr.alloc (.cells #[.int .i64 (x : Int)] 3)) wr.heap.size 3 (.int .i64 (x : Int))) := Boxed.new wr 3 _
      have HBA : Hid (Below w.heap.size w (wr.alloc (.cells #[.int .i64 (x : Int)] 3))) := hbel.alloc hwr _
      have HNE : Hid (w1.heap.size ≠ wr.heap.size) := by have := bT.lt; unfold Hid; omega
      have cT := (bT.alloc (.cells #[.int .i64 (x : Int)] 3)).cell
      clear hcell hbw hT hTab hbel bT hxn hth
      go_wp2_with (go_at_call 19; fail)
      refine (rear_any n hn1 hn4 b T HL1.out _ HT.out).mono ?_
      rintro e w3 ⟨⟨b3, T3, rfl, hT3, hS3⟩, hb3⟩
      have bT3 := box_later HBT.out hb3
      have bX3 := box_later HBX.out hb3
      have cT3 := bT3.cell
      have fT3 := bT3.frozen
      have HB3 : Hid (Below w.heap.size w w3) := HBA.out.trans (hb3.mono (by have := HBA.out.size; omega))
      have hne3 := tab_ne hT3 bT3
      have HT4 : Hid (IsTab Unit (w3.setCell ⟨w1.heap.size, 0, none⟩ (.map (some b3))) b3 T3) := hT3.setCell (a := ⟨w1.heap.size, 0, none⟩) hne3 _
      have HBT4 : Hid (Boxed (w3.setCell ⟨w1.heap.size, 0, none⟩ (.map (some b3))) w1.heap.size 43 (.map (some b3))) := bT3.set _
      have HBX4 : Hid (Boxed (w3.setCell ⟨w1.heap.size, 0, none⟩ (.map (some b3))) wr.heap.size 3 (.int .i64 (x : Int))) := bX3.other (Ne.symm HNE.out) _
      have HB4 : Hid (Below w.heap.size w (w3.setCell ⟨w1.heap.size, 0, none⟩ (.map (some b3)))) := HB3.out.setCell (p := ⟨w1.heap.size, 0, none⟩) HSZ.out _
      have HS3 : Hid (StepsC n (pairs n) T T3) := hS3
      have HL3 : Hid (∀ st y, T3 st = some y → y < 1024) := fun st y e => by
        have h1 := stepsC_lt HL1.out HS3.out st y e
        have h2 : pairs n ≤ 6 := by rcases four_n hn1 hn4 with rfl | rfl | rfl | rfl <;> decide
        omega
      have HLD : Hid (LeadsTo (w3.setCell ⟨w1.heap.size, 0, none⟩ (.map (some b3))) 21 #[.pointer (some ⟨wr.heap.size, 0, none⟩)] 50 (fun s => foundL s (x : Int)) 7) := leads_found HBX4.out.cell
      clear hT3 hS3 hb3 bT3 bX3 hne3 HT HBT HBX HBA cT
      go_wp2_with (go_at_call 20; fail)
      refine (tstep_any Unit b3 T3 HL3.out _ _ 7 _ HT4.out HLD.out).mono ?_
      rintro e w5 ⟨⟨b5, T5, rfl, hT5, hO5⟩, hb5⟩
      have bT5 := box_later HBT4.out hb5
      have cT5 := bT5.cell
      have fT5 := bT5.frozen
      have HBT5 : Hid (Boxed w5 w1.heap.size 43 (.map (some b3))) := bT5
      have HT5 : Hid (IsTab Unit w5 b5 T5) := hT5
      have HO5 : Hid (Onto (fun s => foundL s (x : Int)) T3 T5) := hO5
      have HB5 : Hid (Below w.heap.size w w5) := HB4.out.trans (hb5.mono HB4.out.size)
      clear hT5 hO5 hb5 bT5
      go_wp2
      go_roundw
      case rel =>
        have hne5 := tab_ne HT5.out HBT5.out
        exact ⟨k + 1, b5, T5, by omega, by go_num, HBT5.out.set _, HT5.out.setCell (a := ⟨w1.heap.size, 0, none⟩) hne5 _, otab_succ hn1 hn4 hlt HXN.out HX.out HTab.out HS3.out HO5.out, HB5.out.setCell (p := ⟨w1.heap.size, 0, none⟩) HSZ.out _⟩
      case measure => simp [intOf]; omega
    · have hkl : k = l.length := by omega
      subst hkl
      have cT := bT.cell
      have HT : Hid (IsTab Unit wr b T) := hT
      have HTab : Hid (OTab n l l.length T) := hTab
      have HB : Hid (Below w.heap.size w wr) := hbel
      clear hT hTab hbel bT
      go_wp2_with (go_at_call 23; go_must (refine (tleast_any Unit b T (fun st y e => by have := otab_lt hn4 HIN.out HTab.out st y e; omega) (otab_some HIN.out (Nat.le_refl _) HTab.out) wr HT.out).mono ?_; rintro e w3 ⟨⟨x, rfl, hx⟩, hb3⟩))
      go_ret2
      exact ⟨x, rfl, otab_least HTab.out hx, HB.out.trans (hb3.mono hwr)⟩
set_option maxHeartbeats 2000000 in
theorem oleast_err (n : Int) (v : Value) (l : List Int) (w : World) (hv : IsInts w v l) (c : Nat) (hc : c = 1 ∨ c = 4) (hc0 : chkL n l = c) :
    Calls Try.prog 6 #[.int .i64 n, v] w fun e w' => e = .returned (.tuple #[.int .i64 0, errV c]) ∧ w' = w := by
  have HV : Hid (IsInts w v l) := hv
  have HCK : Hid (chkL n l = c) := hc0
  obtain ⟨ao, cap, rfl, _⟩ := hv.opened
  clear hv hc0
  rcases hc with rfl | rfl
  all_goals
    go_enter Try.func6, Try.ntmps6
    go_wp2_with (go_at_call 16; go_must (refine (ocheck_any _ _ l _ HV.out).mono ?_; rintro e w' ⟨rfl, hw⟩; have hw := hw.symm; subst hw; rw [HCK.out]; simp only [errV]))
    go_ret2
    exact ⟨rfl, rfl⟩
/-- What lists.Least tells. -/
structure LookN (n : Int) (l : List Int) (x : Nat) : Prop where
  ok : chkL n l = 0 → LeastLook (Un n.toNat) l x
  err : chkL n l ≠ 0 → x = 0
theorem oleast_any (n : Int) (v : Value) (l : List Int) (w : World) (hv : IsInts w v l) :
    Calls Try.prog 6 #[.int .i64 n, v] w fun e w' => ∃ x : Nat, e = .returned (.tuple #[.int .i64 x, errV (chkL n l)]) ∧ LookN n l x ∧ Below w.heap.size w w' := by
  by_cases h : chkL n l = 0
  · have F := chkL_zero h
    obtain ⟨m, rfl⟩ : ∃ m : Nat, n = m := ⟨n.toNat, by have := F.low; omega⟩
    refine (oleast_ok m v l w hv h).mono ?_
    rintro e w' ⟨x, rfl, hx, hb⟩
    exact ⟨x, by rw [h]; rfl, ⟨fun _ => hx, fun h1 => absurd h h1⟩, hb⟩
  · have hn : chkL n l = 1 ∨ chkL n l = 4 := by have := chkL_cases n l; omega
    refine (oleast_err n v l w hv _ hn rfl).mono ?_
    rintro e w' ⟨rfl, rfl⟩
    exact ⟨0, rfl, ⟨fun h1 => absurd h1 h, fun _ => rfl⟩, Below.refl _ _⟩
end Go.Proofs.Ytnjfmlojbaigjab
