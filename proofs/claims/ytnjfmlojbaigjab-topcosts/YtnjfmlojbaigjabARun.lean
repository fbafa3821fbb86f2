/- The walk of acks.Run. -/
import Derived.Test.YtnjfmlojbaigjabACame
import Derived.Test.YtnjfmlojbaigjabACheck
namespace Go.Proofs.Ytnjfmlojbaigjab
set_option maxRecDepth 100000
open Go.RowKit Go.Sort

/-- When it is told, all in all. -/
def tl (p : Int) (l : List Int) : List Int := told p l.length l
theorem tl_cons {p : Int} (hp : 0 ≤ p) {l : List Int} (hr : rising l) (h0 : l ≠ []) : tl p l = firstAt p l :: tl p (past (firstAt p l) l) := by
  cases l with
  | nil => exact absurd rfl h0
  | cons t r =>
    unfold tl
    rw [List.length_cons, told, (told_fuel hp r.length _ (past_rising hr) (past_head hp hr)).1]
theorem tc_more {p : Int} (hp : 0 ≤ p) {l : List Int} (hr : rising l) (h0 : l ≠ []) : tc p l = p + late l (firstAt p l) + tc p (past (firstAt p l) l) := by
  cases l with
  | nil => exact absurd rfl h0
  | cons t r => rw [tc_cons hp hr, late_upto hr (by omega)]
theorem first_late {p : Int} (hp : 0 ≤ p) {l : List Int} (hr : rising l) (h0 : l ≠ []) : 0 ≤ late l (firstAt p l) ∧ late l (firstAt p l) ≤ p ∧ 0 < cameN l (firstAt p l) := by
  cases l with
  | nil => exact absurd rfl h0
  | cons t r =>
    have hs := firstAt_spec hp hr
    exact ⟨late_nonneg _ _, hs.now, came_first rfl hs.from_⟩
theorem FineA.rest {l : List Int} {p : Int} (h : FineA l p) (m : Nat) : FineA (l.drop m) p :=
  ⟨by rw [List.length_drop]; have := h.many; omega, fun x hx => h.times x (List.mem_of_mem_drop hx), h.price, h.rise.sublist (List.drop_sublist _ _)⟩
def lenV : Value → Nat
  | .slice _ n _ => n
  | _ => 0
structure ARel (w : World) (p : Int) (l cur sofar : List Int) (paid : Int) : Prop where
  fine : FineA cur p
  told : sofar ++ tl p cur = tl p l
  cost : paid + tc p cur = tc p l
  few : sofar.length + cur.length ≤ 20
  pos : 0 ≤ paid
  most : paid ≤ 40 * sofar.length
theorem ARel.step {w : World} {p : Int} {l cur sofar : List Int} {paid : Int} (h : ARel w p l cur sofar paid) (h0 : cur ≠ []) {a x : Int} {m : Nat} (ha : firstAt p cur = a) (hx : late cur a = x) (hm : cameN cur a = m) : ARel w p l (cur.drop m) (sofar ++ [a]) (paid + (p + x)) := by
  have hp := h.fine.price
  have hf := first_late (show 0 ≤ p by omega) h.fine.rise h0
  have hd := (came_split a h.fine.rise).2
  rw [hm] at hd
  have e1 := tl_cons (show 0 ≤ p by omega) h.fine.rise h0
  have e2 := tc_more (show 0 ≤ p by omega) h.fine.rise h0
  rw [ha] at hf e1 e2
  rw [hx] at hf e2
  rw [hm] at hf
  rw [← hd] at e1 e2
  have hc := cameN_le cur a
  rw [hm] at hc
  have := h.told
  have := h.cost
  have := h.few
  have := h.pos
  have := h.most
  refine ⟨h.fine.rest m, by rw [List.append_assoc, List.singleton_append, ← e1]; exact h.told, by omega, by rw [List.length_append, List.length_drop]; simp; omega, by omega, by rw [List.length_append]; simp; omega⟩
theorem ARel.start {w : World} {p : Int} {l : List Int} (h : FineA l p) : ARel w p l l [] 0 := ⟨h, rfl, by omega, by have := h.many; simpa using this, by omega, by simp⟩

set_option maxHeartbeats 2000000 in
theorem arun_ok (v : Value) (l : List Int) (p : Int) (w : World) (hv : IsInts w v l) (hc0 : chkA l p = 0) :
    Calls Try.prog 8 #[v, .int .i64 p] w fun e w' => ∃ vt, e = .returned (.tuple #[vt, .int .i64 (tc p l), .nilIface]) ∧ OwnI w' w.heap.size vt (tl p l) ∧ Below w.heap.size w w' := by
  have HV : Hid (IsInts w v l) := hv
  have HCK : Hid (chkA l p = 0) := hc0
  have HF : Hid (FineA l p) := chkA_zero hc0
  obtain ⟨i0, hi, hz0, hz1, hz2⟩ := info_parts Try.info3
  have HI : Hid (Try.prog.info? 3 = some i0 ∧ i0.zero = some (.int .i64 0) ∧ i0.size = 1 ∧ i0.bytes = 8) := ⟨hi, hz0, hz1, hz2⟩
  obtain ⟨ao, cap, rfl, hcap, _⟩ := hv.opened
  clear hc0 hv hi hz0 hz1 hz2
  unfold maxLen at hcap
  go_enter Try.func8, Try.ntmps8
  go_wp2_with (go_at_call 25; go_must (refine (acheck_any _ l p _ HV.out).mono ?_; rintro e w' ⟨rfl, q0, hw⟩; subst hw; rw [HCK.out]; simp only [errV, if_true]))
  go_loopw [8, 9, 10] (fun vp vt vl wr => ∃ (cur sofar : List Int) (x : Int), vp = .int .i64 x ∧ OwnI wr w.heap.size vt sofar ∧ Hid (IsInts w vl cur) ∧ Hid (ARel w p l cur sofar x) ∧ Below w.heap.size w wr) (fun _ _ vl _ => lenV vl)
  case atStart => exact ⟨l, [], 0, rfl, OwnI.nil _ _, HV.out, ARel.start HF.out, below_drewN (Below.refl _ _) _⟩
  case round =>
    obtain ⟨cur, sofar, x, rfl, hO, HVC, HR, hbel⟩ := hrel
    have hpos := HR.out.pos
    have hmost := HR.out.most
    have hfew := HR.out.few
    have hpr := HR.out.fine.price
    obtain ⟨at_, cp, rfl⟩ := hO.form
    have HO : Hid (OwnI wr w.heap.size (.slice at_ sofar.length cp) sofar) := hO
    have HB : Hid (Below w.heap.size w wr) := hbel
    have hsz : w.heap.size ≤ wr.heap.size := hbel.size
    obtain ⟨al, cl, rfl, hcl, hcells⟩ := HVC.out.opened
    unfold maxLen at hcl
    clear hO hbel
    by_cases h0 : 0 < cur.length
    · obtain ⟨b, off, rfl, hlc, hbw, _⟩ := hcells 0 h0
      have hne : cur ≠ [] := List.length_pos_iff.1 h0
      have HFI : Hid (0 ≤ firstAt p cur ∧ firstAt p cur ≤ 1020) := first_le HR.out.fine hne
      have HFL : Hid (0 ≤ late cur (firstAt p cur) ∧ late cur (firstAt p cur) ≤ p ∧ 0 < cameN cur (firstAt p cur)) := first_late (by omega) HR.out.fine.rise hne
      have HST : Hid (ARel w p l (cur.drop (cameN cur (firstAt p cur))) (sofar ++ [firstAt p cur]) (x + (p + late cur (firstAt p cur)))) := HR.out.step hne rfl rfl rfl
      have HNE : Hid (cur ≠ []) := hne
      have hml := cameN_le cur (firstAt p cur)
      have hfi := HFI.out
      have hfl := HFL.out
      clear hcells hne HFI HFL
      generalize ha : firstAt p cur = a at *
      have HA : Hid (firstAt p cur = a) := ha
      clear ha
      generalize hy : late cur a = y at *
      have HY : Hid (late cur a = y) := hy
      clear hy
      generalize hm : cameN cur a = m at *
      have HM : Hid (cameN cur a = m) := hm
      clear hm
      have HDL : Hid ((cur.drop m).length = cur.length - m) := List.length_drop
      have hmcl : m ≤ cl := by omega
      rcases Nat.lt_or_ge m cl with hmc | hmc
      rotate_left
      · have hmc2 : cl = m := by omega
        subst hmc2
        go_wp2_with (first | (go_at_call 26; go_must (refine (latest_any _ cur p _ HR.out.fine HNE.out (HVC.out.below HB.out)).mono ?_; rintro e w1 ⟨rfl, q1, hw1⟩; subst hw1; rw [HA.out])) | (at_builtin; go_must (refine wpList_append_own _ rfl _ _ 22 rfl w.heap.size 3 i0 (.int .i64 0) 1 8 Try.underlying22 HI.out.1 HI.out.2.1 HI.out.2.2.1 HI.out.2.2.2 rfl (by decide) _ sofar.length (sofar.map (Value.int .i64)) rfl (World.ownsRow.alloc (HO.out.rows (w1 := wr.drewN q1) rfl rfl) _) ⟨wr.heap.size, 0, none⟩ 1 1 [.int .i64 a] rfl rfl (by exact new_one _ _ _) (one_cell _) (by unfold maxLen; omega) (by omega) (by simp; omega) ?_; intro v2 w2 hown' hgrow _; have R := own_append (w := w) (HO.out.rows (w1 := wr.drewN q1) rfl rfl) (below_drewN HB.out q1) (Nat.le_refl _) hown' hgrow; have HO2 : Hid (OwnI w2 w.heap.size v2 (sofar ++ [a])) := R.1; have HB2 : Hid (Below w.heap.size w w2) := R.2; clear hown' hgrow R)) | (go_at_call 27; go_must (refine (waited_any _ cur a _ HR.out.fine.many HR.out.fine.rise (fun x hx => (HR.out.fine.times x hx).1) (by omega) (HVC.out.below HB2.out)).mono ?_; rintro e w3 ⟨rfl, q3, hw3⟩; subst hw3; rw [HY.out])) | (go_at_call 28; go_must (refine (came_any _ cur a _ HR.out.fine.many HR.out.fine.rise (by omega) ((HVC.out.below HB2.out).heap (w := w2.drewN q3) rfl)).mono ?_; rintro e w4 ⟨rfl, q4, hw4⟩; subst hw4; rw [HM.out])))
        have e0 : cur.drop cl = [] := List.eq_nil_of_length_eq_zero (by rw [HDL.out]; omega)
        refine ⟨⟨cur.drop cl, sofar ++ [a], x + (p + y), rfl, HO2.out.rows rfl rfl, ?_, HST.out, below_drewN HB2.out _⟩, h0⟩
        rw [e0]
        exact .inl ⟨rfl, _, 0, rfl, by simp⟩
      · go_wp2_with (first | (go_at_call 26; go_must (refine (latest_any _ cur p _ HR.out.fine HNE.out (HVC.out.below HB.out)).mono ?_; rintro e w1 ⟨rfl, q1, hw1⟩; subst hw1; rw [HA.out])) | (at_builtin; go_must (refine wpList_append_own _ rfl _ _ 22 rfl w.heap.size 3 i0 (.int .i64 0) 1 8 Try.underlying22 HI.out.1 HI.out.2.1 HI.out.2.2.1 HI.out.2.2.2 rfl (by decide) _ sofar.length (sofar.map (Value.int .i64)) rfl (World.ownsRow.alloc (HO.out.rows (w1 := wr.drewN q1) rfl rfl) _) ⟨wr.heap.size, 0, none⟩ 1 1 [.int .i64 a] rfl rfl (by exact new_one _ _ _) (one_cell _) (by unfold maxLen; omega) (by omega) (by simp; omega) ?_; intro v2 w2 hown' hgrow _; have R := own_append (w := w) (HO.out.rows (w1 := wr.drewN q1) rfl rfl) (below_drewN HB.out q1) (Nat.le_refl _) hown' hgrow; have HO2 : Hid (OwnI w2 w.heap.size v2 (sofar ++ [a])) := R.1; have HB2 : Hid (Below w.heap.size w w2) := R.2; clear hown' hgrow R)) | (go_at_call 27; go_must (refine (waited_any _ cur a _ HR.out.fine.many HR.out.fine.rise (fun x hx => (HR.out.fine.times x hx).1) (by omega) (HVC.out.below HB2.out)).mono ?_; rintro e w3 ⟨rfl, q3, hw3⟩; subst hw3; rw [HY.out])) | (go_at_call 28; go_must (refine (came_any _ cur a _ HR.out.fine.many HR.out.fine.rise (by omega) ((HVC.out.below HB2.out).heap (w := w2.drewN q3) rfl)).mono ?_; rintro e w4 ⟨rfl, q4, hw4⟩; subst hw4; rw [HM.out])))
        refine ⟨⟨cur.drop m, sofar ++ [a], x + (p + y), rfl, HO2.out.rows rfl rfl, ?_, HST.out, below_drewN HB2.out _⟩, ?_⟩
        · exact isInts_drop HVC.out rfl hml fun z hz _ => by cases hz; rfl
        · show cur.length - m < cur.length
          omega
    · have h00 : cur = [] := List.eq_nil_of_length_eq_zero (by omega)
      subst h00
      have e1 : sofar = tl p l := by have := HR.out.told; rwa [show tl p [] = [] from rfl, List.append_nil] at this
      have e2 : x = tc p l := by have := HR.out.cost; rw [show tc p [] = 0 from rfl] at this; omega
      clear hcells
      subst e1
      subst e2
      go_wp2
      go_ret3
      exact ⟨_, rfl, HO.out, HB.out⟩

set_option maxHeartbeats 1000000 in
theorem arun_err (v : Value) (l : List Int) (p : Int) (w : World) (hv : IsInts w v l) (n : Nat) (hn : n = 1 ∨ n = 4 ∨ n = 6) (hc0 : chkA l p = n) :
    Calls Try.prog 8 #[v, .int .i64 p] w fun e w' => e = .returned (.tuple #[.slice none 0 0, .int .i64 0, errV n]) ∧ Below w.heap.size w w' := by
  have HV : Hid (IsInts w v l) := hv
  have HCK : Hid (chkA l p = n) := hc0
  obtain ⟨ao, cap, rfl, _⟩ := hv.opened
  clear hv hc0
  rcases hn with rfl | rfl | rfl
  all_goals
    go_enter Try.func8, Try.ntmps8
    go_wp2_with (go_at_call 25; go_must (refine (acheck_any _ l p _ HV.out).mono ?_; rintro e w' ⟨rfl, q0, hw⟩; subst hw; rw [HCK.out]; simp only [errV]))
    go_ret3
    exact ⟨rfl, below_drewN (Below.refl _ _) _⟩
/-- What Run tells. -/
def toldA (l : List Int) (p : Int) : List Int := if chkA l p = 0 then tl p l else []
def paidA (l : List Int) (p : Int) : Int := if chkA l p = 0 then tc p l else 0
theorem arun_any (v : Value) (l : List Int) (p : Int) (w : World) (hv : IsInts w v l) :
    Calls Try.prog 8 #[v, .int .i64 p] w fun e w' => ∃ vt, e = .returned (.tuple #[vt, .int .i64 (paidA l p), errV (chkA l p)]) ∧ OwnI w' w.heap.size vt (toldA l p) ∧ Below w.heap.size w w' := by
  by_cases h : chkA l p = 0
  · refine (arun_ok v l p w hv h).mono ?_
    rintro e w' ⟨vt, rfl, hO, hb⟩
    refine ⟨vt, ?_, ?_, hb⟩
    · unfold paidA; rw [if_pos h, h]; rfl
    · unfold toldA; rw [if_pos h]; exact hO
  · have hn : chkA l p = 1 ∨ chkA l p = 4 ∨ chkA l p = 6 := by have := chkA_cases l p; omega
    refine (arun_err v l p w hv _ hn rfl).mono ?_
    rintro e w' ⟨rfl, hb⟩
    refine ⟨.slice none 0 0, ?_, ?_, hb⟩
    · unfold paidA; rw [if_neg h]
    · unfold toldA; rw [if_neg h]; exact OwnI.nil _ _
end Go.Proofs.Ytnjfmlojbaigjab
