/- The walk of lists.look, where what was found goes to the front: lists.Front. -/
import Derived.Test.YtnjfmlojbaigjabOLeast
import Derived.Deep.RegionWith
namespace Go.Proofs.Ytnjfmlojbaigjab
set_option maxRecDepth 100000
open Go.RowKit Go.Maps Go.Sort

def chkMv (n : Nat) : Bool := (perms n).all fun M => (List.range n).all fun x => (List.range (pos (M.row n) (x : Int) + 1)).all fun j => (M.fw (pos (M.row n) (x : Int)) j).row n == mv (M.row n) (x : Int) j
theorem mv_ok {n : Nat} (h1 : 1 ≤ n) (h4 : n ≤ 4) : chkMv n = true := by
  rcases four_n h1 h4 with rfl | rfl | rfl | rfl <;> decide +kernel
theorem mv_facts {n : Nat} (h1 : 1 ≤ n) (h4 : n ≤ 4) {M : O4} (hM : M ∈ perms n) {x : Nat} (hx : x < n) {j : Nat} (hj : j ≤ pos (M.row n) (x : Int)) : (M.fw (pos (M.row n) (x : Int)) j).row n = mv (M.row n) (x : Int) j := by
  have := mv_ok h1 h4
  unfold chkMv at this
  have h := List.all_eq_true.1 (List.all_eq_true.1 (List.all_eq_true.1 this M hM) x (List.mem_range.2 hx)) j (List.mem_range.2 (by omega))
  simpa using h
/-- Behind k requests. -/
def LkRel (f : Nat → Nat) (w : World) (n : Nat) (l : List Int) (Bo : Nat) (pv i : Value) (wr : World) : Prop :=
  ∃ (k : Nat) (s : O4), k ≤ l.length ∧ i = .int .i64 k ∧ pv = .int .i64 (wayCost f (Un n) l k : Nat) ∧ Lies wr Bo s.cells 46 ∧ s ∈ perms n ∧ s.row n = wayRow f (Un n) l k ∧ Below w.heap.size w wr
/-- What the other function tells: to which place. -/
def Whither (gw : Nat) (f : Nat → Nat) : Prop := ∀ (i : Nat) (w : World), i < 4 → Calls Try.prog gw #[.int .i64 (i : Nat)] w fun e w' => e = .returned (.int .i64 (f i : Nat)) ∧ w' = w

theorem four_set {W : World} {B : Nat} {s : O4} {t : TypeId} (h : Lies W B s.cells t) (r : O4) : Lies ((((W.setCell ⟨B, 0, none⟩ (.int .i64 (r.a.val : Nat))).setCell ⟨B, 1, none⟩ (.int .i64 (r.b.val : Nat))).setCell ⟨B, 2, none⟩ (.int .i64 (r.c.val : Nat))).setCell ⟨B, 3, none⟩ (.int .i64 (r.d.val : Nat))) B r.cells t := (((h.set (j := 0) (.int .i64 (r.a.val : Nat))).set (j := 1) (.int .i64 (r.b.val : Nat))).set (j := 2) (.int .i64 (r.c.val : Nat))).set (j := 3) (.int .i64 (r.d.val : Nat))
theorem four_below {w W : World} {B : Nat} (h : Below w.heap.size w W) (hB : w.heap.size ≤ B) (v0 v1 v2 v3 : Value) : Below w.heap.size w ((((W.setCell ⟨B, 0, none⟩ v0).setCell ⟨B, 1, none⟩ v1).setCell ⟨B, 2, none⟩ v2).setCell ⟨B, 3, none⟩ v3) :=
  (((h.setCell (p := ⟨B, 0, none⟩) hB v0).setCell (p := ⟨B, 1, none⟩) hB v1).setCell (p := ⟨B, 2, none⟩) hB v2).setCell (p := ⟨B, 3, none⟩) hB v3
theorem slice1 (B : Nat) (W : World) : (Instr.sliceAt 46 (.pointer (some ⟨B, 0, none⟩)) none (some (.int .i64 1)) none).run Try.prog W = .ok (.slice (some ⟨B, 0, none⟩) 1 4) W := by kernel_rfl
theorem slice2 (B : Nat) (W : World) : (Instr.sliceAt 46 (.pointer (some ⟨B, 0, none⟩)) none (some (.int .i64 2)) none).run Try.prog W = .ok (.slice (some ⟨B, 0, none⟩) 2 4) W := by kernel_rfl
theorem slice3 (B : Nat) (W : World) : (Instr.sliceAt 46 (.pointer (some ⟨B, 0, none⟩)) none (some (.int .i64 3)) none).run Try.prog W = .ok (.slice (some ⟨B, 0, none⟩) 3 4) W := by kernel_rfl
theorem slice4 (B : Nat) (W : World) : (Instr.sliceAt 46 (.pointer (some ⟨B, 0, none⟩)) none (some (.int .i64 4)) none).run Try.prog W = .ok (.slice (some ⟨B, 0, none⟩) 4 4) W := by kernel_rfl
theorem slice_first {n : Nat} (h1 : 1 ≤ n) (h4 : n ≤ 4) (B : Nat) (W : World) : (Instr.sliceAt 46 (.pointer (some ⟨B, 0, none⟩)) none (some (.int .i64 (n : Nat))) none).run Try.prog W = .ok (.slice (some ⟨B, 0, none⟩) n 4) W := by
  rcases four_n h1 h4 with rfl | rfl | rfl | rfl
  · exact slice1 B W
  · exact slice2 B W
  · exact slice3 B W
  · exact slice4 B W
set_option maxHeartbeats 4000000 in
theorem look_ok (f : Nat → Nat) (hf : ∀ a, f a ≤ a) (hw : Whither 15 f) (n : Nat) (v : Value) (l : List Int) (w : World) (hv : IsInts w v l) (hc0 : chkL n l = 0) :
    Calls Try.prog 14 #[.int .i64 n, v, .func (.func 15) #[] #[]] w fun e w' => ∃ vr, e = .returned (.tuple #[.int .i64 (wayCost f (Un n) l l.length : Nat), vr, .nilIface]) ∧ OwnI w' w.heap.size vr (wayRow f (Un n) l l.length) ∧ Below w.heap.size w w' := by
  have F := chkL_zero hc0
  have HV : Hid (IsInts w v l) := hv
  have HCK : Hid (chkL n l = 0) := hc0
  have hn1 : 1 ≤ n := by have := F.low; omega
  have hn4 : n ≤ 4 := by have := F.low; omega
  have hl40 := F.reqs
  have HF : Hid (FineL n l) := F
  have HIN : Hid (∀ p, p ∈ l → p ∈ Un n) := thing_in F
  have HW : Hid (Whither 15 f) := hw
  have HFF : Hid (∀ a, f a ≤ a) := hf
  obtain ⟨ao, cap, rfl, hcap, ho⟩ := hv.opened
  have HO : Hid (∀ k, k < l.length → ∃ b off, ao = some ⟨b, off, none⟩ ∧ l.length ≤ cap ∧ b < w.heap.size ∧ ∀ j, j < l.length → w.cell? ⟨b, off + j, none⟩ = some (.int .i64 (l[j]?.getD 0))) := ho
  clear ho hv hc0 F hw hf
  unfold maxLen at hcap
  go_enter Try.func14, Try.ntmps14
  go_wp2_with (first | (go_at_call 16; go_must (refine (ocheck_any _ _ l _ HV.out).mono ?_; rintro e w' ⟨rfl, hw⟩; have hw := hw.symm; subst hw; rw [HCK.out]; simp only [errV, if_true])) | (go_at_call 18; fail))
  refine (lstart_any _).mono ?_
  rintro e w1 ⟨rfl, hb1⟩
  have hid := id_perm hn1 hn4
  have HSZ : Hid (w.heap.size ≤ w1.heap.size) := hb1.size
  have HR0 : Hid (LkRel f w n l w1.heap.size (.int .i64 0) (.int .i64 0) (w1.alloc (.cells O4.id.cells 46))) := ⟨0, O4.id, Nat.zero_le _, rfl, rfl, Lies.new w1 _ _, hid.1, hid.2, hb1.alloc hb1.size _⟩
  clear hid hb1
  go_wp2_with fail
  go_loopw [10, 13, 14, 24] (fun pv _ _ i wr => LkRel f w n l w1.heap.size pv i wr) (fun _ _ _ i _ => l.length - (intOf i).toNat)
  case atStart => exact HR0.out
  case round =>
    obtain ⟨k, s, hk, rfl, rfl, lS, hsp, hrow, hbel⟩ := hrel
    have hwr := hbel.size
    have c0 := lS.cell (j := 0) rfl
    have c1 := lS.cell (j := 1) rfl
    have c2 := lS.cell (j := 2) rfl
    have c3 := lS.cell (j := 3) rfl
    have HS : Hid (Lies wr w1.heap.size s.cells 46) := lS
    have HSP : Hid (s ∈ perms n) := hsp
    have HRW : Hid (s.row n = wayRow f (Un n) l k) := hrow
    have HB : Hid (Below w.heap.size w wr) := hbel
    have hcost := way_cost_le (f := f) (Un_nodup n) HIN.out k hk
    rw [Un_length] at hcost
    have hcost2 : k * n ≤ 40 * 4 := Nat.mul_le_mul (by omega) hn4
    have hc160 : wayCost f (Un n) l k ≤ 160 := by omega
    clear hcost hcost2
    by_cases hlt : k < l.length
    · obtain ⟨br, off, rfl, hlc, hbw, hcell⟩ := HO.out k hlt
      have hck : wr.cell? ⟨br, off + k, none⟩ = some (.int .i64 (l[k]?.getD 0)) := (hbel.cell (by exact hbw)).trans (hcell k hlt)
      have hth := HF.out.thing k hlt
      obtain ⟨x, hxn⟩ : ∃ x : Nat, l[k]?.getD 0 = x := ⟨(l[k]?.getD 0).toNat, by omega⟩
      have HWC : Hid (wayCost f (Un n) l (k+1) = wayCost f (Un n) l k + pos (wayRow f (Un n) l k) (l[k]?.getD 0) + 1) := rfl
      have HWR : Hid (wayRow f (Un n) l (k+1) = mv (wayRow f (Un n) l k) (l[k]?.getD 0) (f (pos (wayRow f (Un n) l k) (l[k]?.getD 0)))) := rfl
      rw [hxn] at hck hth HWC HWR
      rw [← HRW.out] at HWC HWR
      have hx : x < n := by omega
      have FF := found_facts hn1 hn4 HSP.out hx
      have HAT : Hid (at_ s.l (x : Int) = (pos (s.row n) (x : Int) : Int)) := FF.1
      have hip := FF.2.1
      have hfi := HFF.out (pos (s.row n) (x : Int))
      have HNP : Hid (s.fw (pos (s.row n) (x : Int)) (f (pos (s.row n) (x : Int))) ∈ perms n) := (FF.2.2 _ hfi).1
      have HNR : Hid ((s.fw (pos (s.row n) (x : Int)) (f (pos (s.row n) (x : Int)))).row n = mv (s.row n) (x : Int) (f (pos (s.row n) (x : Int)))) := mv_facts hn1 hn4 HSP.out hx hfi
      have HFI : Hid (∀ w, Calls Try.prog 42 #[.agg #[.int .i64 (s.a.val : Nat), .int .i64 (s.b.val : Nat), .int .i64 (s.c.val : Nat), .int .i64 (s.d.val : Nat)], .int .i64 (x : Int)] w fun e w' => e = .returned (.int .i64 (pos (s.row n) (x : Int) : Nat)) ∧ w' = w.alloc (.cells s.cells 46)) := fun w => by have := find_any s (x : Int) w; rwa [HAT.out] at this
      clear hcell hbw FF lS hbel hsp hrow
      generalize pos (s.row n) (x : Int) = i at *
      generalize hj : f i = j at *
      have HWH : Hid (∀ w, Calls Try.prog 15 #[.int .i64 (i : Nat)] w fun e w' => e = .returned (.int .i64 (j : Nat)) ∧ w' = w) := fun w => by have := HW.out i w (by omega); rwa [hj] at this
      have HFW : Hid (∀ w, Calls Try.prog 44 #[.agg #[.int .i64 (s.a.val : Nat), .int .i64 (s.b.val : Nat), .int .i64 (s.c.val : Nat), .int .i64 (s.d.val : Nat)], .int .i64 i, .int .i64 j] w fun e w' => e = .returned (s.fw i j).v ∧ Below w.heap.size w w') := fun w => forward_any s i j (by omega) hfi w
      have HPR : Hid (∀ w, Calls Try.prog 43 #[.int .i64 i] w fun e w' => e = .returned (.int .i64 ((i : Int) + 1)) ∧ w' = w) := fun w => price_any i (by omega) (by omega) w
      clear hj hxn
      go_wp2_with (first | (go_at_call 42; go_must (refine (HFI.out _).mono ?_; rintro e w' ⟨rfl, rfl⟩)) | (go_at_call 43; go_must (refine (HPR.out _).mono ?_; rintro e w' ⟨rfl, hw⟩; have hw := hw.symm; subst hw)))
      have lA : Lies (wr.alloc (.cells s.cells 46)) w1.heap.size s.cells 46 := HS.out.alloc _
      have HBA : Hid (Below w.heap.size w (wr.alloc (.cells s.cells 46))) := HB.out.alloc hwr _
      have HLA : Hid (Lies (wr.alloc (.cells s.cells 46)) w1.heap.size s.cells 46) := lA
      have a0 := lA.cell (j := 0) rfl
      have a1 := lA.cell (j := 1) rfl
      have a2 := lA.cell (j := 2) rfl
      have a3 := lA.cell (j := 3) rfl
      clear lA c0 c1 c2 c3 hck
      generalize wr.alloc (.cells s.cells 46) = wA at *
      go_region_with (first | (go_at_call 15; go_must (refine (HWH.out _).mono ?_; rintro e w' ⟨rfl, hw⟩; have hw := hw.symm; subst hw)) | (go_at_call 44; go_must (refine (HFW.out _).mono ?_; rintro e W1 ⟨rfl, hb1⟩; have l1 : Lies W1 w1.heap.size s.cells 46 := Lies.later (W := wA.drew) HLA.out hb1; have HL1 : Hid (Lies W1 w1.heap.size s.cells 46) := l1; have HB1 : Hid (Below w.heap.size w W1) := HBA.out.drew.trans (hb1.mono HBA.out.size); have d0 := l1.cell (j := 0) rfl; have d1 := l1.cell (j := 1) rfl; have d2 := l1.cell (j := 2) rfl; have d3 := l1.cell (j := 3) rfl; have g0 := l1.frozen (j := 0); have g1 := l1.frozen (j := 1); have g2 := l1.frozen (j := 2); have g3 := l1.frozen (j := 3); clear l1 hb1)))
      all_goals
        have HC : Hid ((wayCost f (Un n) l k : Int) + ((i : Int) + 1) = ((wayCost f (Un n) l (k+1) : Nat) : Int)) := by unfold Hid; rw [HWC.out]; omega
        go_wp2
        go_roundw
        case rel => exact ⟨k + 1, s.fw i j, by omega, by go_num, by rw [HC.out], four_set HL1.out (s.fw i j), HNP.out, by rw [HNR.out, HWR.out], four_below HB1.out HSZ.out _ _ _ _⟩
        case measure => simp [intOf]; omega
    · have hkl : k = l.length := by omega
      subst hkl
      have HCL : Hid (Calls Try.prog 45 #[.slice (some ⟨w1.heap.size, 0, none⟩) n 4] wr fun e w' => ∃ v', e = .returned v' ∧ OwnI w' w.heap.size v' (s.row n) ∧ Below wr.heap.size wr w') := by
        refine (Try.slices_Clone_int w1.heap.size 0 n 4 s.l wr hn4 (by omega) (fun j hj => ?_)).mono ?_
        · have := O4.isInts HS.out
          rcases this with ⟨h, _⟩ | ⟨b, off, cap, hv, _, _, _, hc⟩
          · cases h
          · simp only [Value.slice.injEq, Option.some.injEq, Addr.mk.injEq] at hv
            obtain ⟨⟨rfl, rfl, _⟩, _, rfl⟩ := hv
            rw [List.getD_eq_getElem?_getD]
            exact hc j hj
        · rintro e w' ⟨v', rfl, hO, _, hb⟩
          refine ⟨v', rfl, ownI_mono ?_ hwr, hb⟩
          unfold OwnI
          rw [show (s.row n).length = n by unfold O4.row; rw [List.length_take]; show min n 4 = n; omega]
          exact hO
      have hsl := fun W => slice_first hn1 hn4 w1.heap.size W
      go_wp2_with (go_at_call 45; go_must (refine HCL.out.mono ?_; rintro e w' ⟨v', rfl, hO, hb⟩))
      go_ret3
      exact ⟨v', rfl, by rw [← HRW.out]; exact hO, HB.out.trans (hb.mono hwr)⟩
set_option maxHeartbeats 2000000 in
theorem look_err (n : Int) (v : Value) (l : List Int) (w : World) (hv : IsInts w v l) (c : Nat) (hc : c = 1 ∨ c = 4) (hc0 : chkL n l = c) :
    Calls Try.prog 14 #[.int .i64 n, v, .func (.func 15) #[] #[]] w fun e w' => e = .returned (.tuple #[.int .i64 0, .slice none 0 0, errV c]) ∧ w' = w := by
  have HV : Hid (IsInts w v l) := hv
  have HCK : Hid (chkL n l = c) := hc0
  obtain ⟨ao, cap, rfl, _⟩ := hv.opened
  clear hv hc0
  rcases hc with rfl | rfl
  all_goals
    go_enter Try.func14, Try.ntmps14
    go_wp2_with (go_at_call 16; go_must (refine (ocheck_any _ _ l _ HV.out).mono ?_; rintro e w' ⟨rfl, hw⟩; have hw := hw.symm; subst hw; rw [HCK.out]; simp only [errV]))
    go_ret3
    exact ⟨rfl, rfl⟩
theorem front_whither : Whither 15 (fun _ => 0) := by
  intro i w hi
  go_enter Try.func15, Try.ntmps15
  go_wp2
  go_ret
  exact ⟨rfl, rfl⟩
/-- What looking costs, and the list at the end. -/
def lookN (f : Nat → Nat) (n : Int) (l : List Int) : Nat := if chkL n l = 0 then wayCost f (Un n.toNat) l l.length else 0
def lookL (f : Nat → Nat) (n : Int) (l : List Int) : List Int := if chkL n l = 0 then wayRow f (Un n.toNat) l l.length else []
theorem lookF_any (n : Int) (v : Value) (l : List Int) (w : World) (hv : IsInts w v l) :
    Calls Try.prog 14 #[.int .i64 n, v, .func (.func 15) #[] #[]] w fun e w' => ∃ vr, e = .returned (.tuple #[.int .i64 (lookN (fun _ => 0) n l : Nat), vr, errV (chkL n l)]) ∧ OwnI w' w.heap.size vr (lookL (fun _ => 0) n l) ∧ Below w.heap.size w w' := by
  by_cases h : chkL n l = 0
  · have F := chkL_zero h
    obtain ⟨m, rfl⟩ : ∃ m : Nat, n = m := ⟨n.toNat, by have := F.low; omega⟩
    rw [lookN, lookL, if_pos h, if_pos h, h, Int.toNat_natCast]
    exact look_ok (fun _ => 0) (fun _ => Nat.zero_le _) front_whither m v l w hv h
  · have hn : chkL n l = 1 ∨ chkL n l = 4 := by have := chkL_cases n l; omega
    rw [lookN, lookL, if_neg h, if_neg h]
    refine (look_err n v l w hv _ hn rfl).mono ?_
    rintro e w' ⟨rfl, rfl⟩
    exact ⟨_, rfl, OwnI.nil _ _, Below.refl _ _⟩
set_option maxHeartbeats 1000000 in
theorem front_any (n : Int) (v : Value) (l : List Int) (w : World) (hv : IsInts w v l) :
    Calls Try.prog 5 #[.int .i64 n, v] w fun e w' => ∃ vr, e = .returned (.tuple #[.int .i64 (lookN (fun _ => 0) n l : Nat), vr, errV (chkL n l)]) ∧ OwnI w' w.heap.size vr (lookL (fun _ => 0) n l) ∧ Below w.heap.size w w' := by
  have HV : Hid (IsInts w v l) := hv
  obtain ⟨ao, cap, rfl, _⟩ := hv.opened
  clear hv
  generalize hN : lookN (fun _ => 0) n l = N
  generalize hE : errV (chkL n l) = E
  have HN : Hid (lookN (fun _ => 0) n l = N) := hN
  have HE : Hid (errV (chkL n l) = E) := hE
  clear hN hE
  go_enter Try.func5, Try.ntmps5
  go_wp2_with (go_at_call 14; go_must (refine (lookF_any n _ l _ HV.out).mono ?_; rintro e w' ⟨vr, rfl, hO, hb⟩; rw [HN.out, HE.out]))
  go_ret3
  exact ⟨vr, rfl, hO, hb⟩
end Go.Proofs.Ytnjfmlojbaigjab
