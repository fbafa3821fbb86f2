/- The walk of stack.Curve. -/
import Derived.Test.YtkoccdhonbnlhaaStack
namespace Go.Proofs.Ytkoccdhonbnlhaa
open Go.RowKit Go.Sort

def zeros8 : Array Value := #[.int .i64 0, .int .i64 0, .int .i64 0, .int .i64 0, .int .i64 0, .int .i64 0, .int .i64 0, .int .i64 0]
theorem curve_new {w w1 : World} {vd : Value} {D l : List Int} (hO : OwnI w1 w.heap.size vd D) (hb : Below w.heap.size w w1) :
    Tri w (w1.alloc (.cells zeros8 3)) (.slice none 0 0) (.slice (some ⟨w1.heap.size, 0, none⟩) 8 8) vd [] (curveTo l 0) D := by
  have hs := hb.size
  refine ⟨OwnB.nil _ _, ⟨rfl, .inr ⟨w1.heap.size, 8, zeros8, rfl, hs, heap_alloc_new _ _, (show (curveTo l 0).length ≤ 8 from Nat.le_refl 8), by decide, rfl, rfl⟩⟩, World.ownsRow.alloc hO _, .inr fun e => ?_, hb.alloc (by omega) _⟩
  have h2 := (World.ownsRow.lt hO w1.heap.size e.symm).2
  exact Nat.lt_irrefl _ h2

theorem OwnI.cellN {w : World} {base n g cap j : Nat} {l : List Int} (h : OwnI w base (.slice (some ⟨g, 0, none⟩) n cap) l) (hn : l.length = n) (hj : j < n) : w.cell? ⟨g, j, none⟩ = some (.int .i64 (l[j]?.getD 0)) := by
  subst hn
  rw [World.ownsRow.cellAt h j (by omega), List.getElem?_map, List.getElem?_eq_getElem hj]; rfl
theorem OwnI.softN {w : World} {base n g cap : Nat} {l : List Int} (h : OwnI w base (.slice (some ⟨g, 0, none⟩) n cap) l) (hn : l.length = n) (j : Nat) : w.frozen? ⟨g, j, none⟩ = false := by
  subst hn
  exact World.ownsRow.frozenAt h j

set_option maxHeartbeats 1000000 in
theorem curve_ok (v : Value) (l : List Int) (w : World) (hv : IsInts w v l) (hc0 : chk l 8 = 0) (hl40 : l.length ≤ 40) :
    Calls Try.prog 7 #[v] w fun e w' => ∃ vd, e = .returned (.tuple #[vd, .nilIface]) ∧ OwnI w' w.heap.size vd (curveOf l 8) ∧ Below w.heap.size w w' := by
  have HV : Hid (IsInts w v l) := hv
  have HCK : Hid (chk l 8 = 0) := hc0
  have HS : Hid (stkD l = depthsOf l l.length) := stkD_ok hc0
  have hmk : ∀ w, (Instr.makeSlice 22 (.int .i64 8) (.int .i64 8)).run Try.prog w = .ok (.slice (some ⟨w.heap.size, 0, none⟩) 8 8) (w.alloc (.cells zeros8 3)) := fun _ => by kernel_rfl
  clear hv hc0
  go_enter Try.func7, Try.ntmps7
  go_wp2_with (go_at_call 8; fail)
  refine (depths_any _ l _ HV.out).mono ?_
  rintro e w1 ⟨vd, rfl, hO, hb⟩
  rw [HCK.out, show errV 0 = .nilIface from rfl]
  rw [HS.out] at hO
  have HT0 : Hid (Tri w (w1.alloc (.cells zeros8 3)) (.slice none 0 0) (.slice (some ⟨w1.heap.size, 0, none⟩) 8 8) vd [] (curveTo l 0) (depthsOf l l.length)) := curve_new hO hb
  clear hO hb
  go_wp2
  generalize w1.alloc (.cells zeros8 3) = w2 at *
  generalize w1.heap.size = g at *
  go_loopw [7, 19] (fun _ i wr => ∃ k : Nat, k ≤ 8 ∧ i = .int .i64 k ∧ Tri w wr (.slice none 0 0) (.slice (some ⟨g, 0, none⟩) 8 8) vd [] (curveTo l k) (depthsOf l l.length)) (fun _ i _ => 8 - (intOf i).toNat)
  case atStart => exact ⟨0, by omega, rfl, HT0.out⟩
  case round =>
    obtain ⟨k, hk, rfl, hT⟩ := hrel
    have HT : Hid (Tri w wr (.slice none 0 0) (.slice (some ⟨g, 0, none⟩) 8 8) vd [] (curveTo l k) (depthsOf l l.length)) := hT
    have HL : Hid ((curveTo l k).length = 8) := curveTo_length l hk
    clear hT
    by_cases hlt : k < 8
    · have HS2 : Hid ((curveTo l k).set k (deeper l (k+1) l.length : Int) = curveTo l (k+1)) := curveTo_set l hlt
      have hcell := HT.out.p.cellN HL.out hlt
      have hfz := HT.out.p.softN HL.out k
      generalize curveTo l k = C at *
      generalize C[k]?.getD 0 = c0 at *
      go_wp2_with (go_at_call 17; go_must (refine (lies_any _ l (k+1) _ HT.out.a.isInts hl40).mono ?_; rintro e w' ⟨rfl, hw⟩; have hw := hw.symm; subst hw))
      go_roundw
      case rel => exact ⟨k + 1, by omega, by go_num, by rw [← HS2.out]; exact HT.out.stored HL.out k _⟩
      case measure => simp [intOf]; omega
    · have hk8 : k = 8 := by omega
      have HO : Hid (OwnI wr w.heap.size (.slice (some ⟨g, 0, none⟩) 8 8) (curveOf l 8)) := by have := HT.out.p; rw [hk8, curveTo_all] at this; exact this
      clear hk8
      go_wp2
      go_ret2
      exact ⟨_, rfl, HO.out, HT.out.below⟩

theorem curve_err (v : Value) (l : List Int) (w : World) (hv : IsInts w v l) (n : Nat) (hn : n = 1 ∨ n = 4) (hc : chk l 8 = n) :
    Calls Try.prog 7 #[v] w fun e w' => e = .returned (.tuple #[.slice none 0 0, errV n]) ∧ w' = w := by
  have HV : Hid (IsInts w v l) := hv
  have HCK : Hid (chk l 8 = n) := hc
  have HN : Hid (n = 1 ∨ n = 4) := hn
  clear hc hv
  rcases hn with rfl | rfl
  all_goals
    go_enter Try.func7, Try.ntmps7
    go_wp2_with (go_at_call 8; go_must (refine (depths_err _ l _ HV.out _ HN.out HCK.out).mono ?_; rintro e w' ⟨rfl, hw⟩; have hw := hw.symm; subst hw; simp only [errV]))
    go_ret2
    exact ⟨rfl, rfl⟩

/-- What stack.Curve answers. -/
theorem curve_any (v : Value) (l : List Int) (w : World) (hv : IsInts w v l) :
    Calls Try.prog 7 #[v] w fun e w' => ∃ vd, e = .returned (.tuple #[vd, errV (chk l 8)]) ∧ OwnI w' w.heap.size vd (stkC l) ∧ Below w.heap.size w w' := by
  rcases chk_cases l 8 with h | h
  · obtain ⟨h40, _, _⟩ := chk_zero h
    rw [stkC_ok h, h]
    exact curve_ok v l w hv h h40
  · have hne : chk l 8 ≠ 0 := by omega
    rw [stkC_bad hne]
    refine (curve_err v l w hv (chk l 8) h rfl).mono ?_
    rintro e w' ⟨rfl, rfl⟩
    exact ⟨_, rfl, OwnI.nil _ _, Below.refl _ _⟩

theorem curve_cells {w : World} {base : Nat} {v : Value} {l : List Int} (h : OwnI w base v (curveOf l 8)) : ∃ g cap, v = .slice (some ⟨g, 0, none⟩) 8 cap ∧ 8 ≤ cap ∧ cap ≤ maxLen ∧ ∀ j, j < 8 → w.cell? ⟨g, j, none⟩ = some (.int .i64 (deeper l (j+1) l.length)) := by
  have hl := curveOf_length l 8
  obtain ⟨g, cap, cur, hv, _, _, _, hn, hm, _, _⟩ := h.block (by intro e; rw [e] at hl; simp at hl)
  rw [hl] at hv hn
  subst hv
  exact ⟨g, cap, rfl, hn, hm, fun j hj => by rw [h.cellN hl hj, curveOf_get hj]⟩

theorem depth_cells {w : World} {base : Nat} {v : Value} {l : List Int} (h : OwnI w base v (depthsOf l l.length)) : ∃ ad dcp, v = .slice ad l.length dcp ∧ (0 < l.length → ∃ g, ad = some ⟨g, 0, none⟩ ∧ l.length ≤ dcp ∧ dcp ≤ maxLen ∧ ∀ j, j < l.length → w.cell? ⟨g, j, none⟩ = some (.int .i64 (deep l j))) := by
  obtain ⟨ad, dcp, hv⟩ := h.form
  have hl := depthsOf_length l l.length
  rw [hl] at hv
  refine ⟨ad, dcp, hv, fun hp => ?_⟩
  obtain ⟨g, cap, cur, hv2, _, _, _, hn, hm, _, _⟩ := h.block (by intro e; rw [e] at hl; simp at hl; omega)
  rw [hl] at hv2 hn
  rw [hv] at hv2
  simp only [Value.slice.injEq, true_and] at hv2
  obtain ⟨rfl, rfl⟩ := hv2
  subst hv
  exact ⟨g, rfl, hn, hm, fun j hj => by rw [h.cellN hl hj, depthsOf_get hj]⟩

theorem chk_eight {l : List Int} {s : Int} (h : chk l 8 = 0) (h1 : 1 ≤ s) (h8 : s ≤ 8) : chk l s = 0 := by
  unfold chk at *
  split at h
  · cases h
  · rename_i h40
    split at h
    · cases h
    · rename_i hb
      rw [if_neg h40, if_neg hb, if_neg (by omega)]
theorem chk_less {l : List Int} {s : Int} (h : chk l s = 0) : chk l 8 = 0 := by
  unfold chk at *
  split at h
  · cases h
  · rename_i h40
    split at h
    · cases h
    · rename_i hb
      rw [if_neg h40, if_neg hb, if_neg (by omega)]
end Go.Proofs.Ytkoccdhonbnlhaa
