/- The walk of the document's answer: Last, the pages of the last requests. -/
import Derived.Test.YtbnhlnjbgimibaaDoorSeenL
import Derived.Test.YtbnhlnjbgimibaaDoorRef1
import Derived.Test.YtbnhlnjbgimibaaDoorKeep
import Derived.Test.YtbnhlnjbgimibaaDoorWsetL
namespace Go.Proofs.YtbnhlnjbgimibaaDoor
open Go.RowKit Go.Sort

def LastRel (w : World) (L : List Int) (lo : Nat) (vs i : Value) (wr : World) : Prop :=
  ∃ t : Nat, lo ≤ t ∧ t ≤ L.length ∧ i = .int .i64 ((t : Int) - 1) ∧ OwnI wr w.heap.size vs (full (L.drop t)) ∧ Below w.heap.size w wr

set_option maxHeartbeats 1000000 in
theorem reflast_any (v : Value) (l : List Int) (k n : Nat) (w : World) (hv : IsInts w v l) (hk : k ≤ l.length) (hl40 : l.length ≤ 40) (hn1 : 1 ≤ n) (hn40 : n ≤ 40) :
    Calls Tryd.prog 8 #[v, .int .i64 k, .int .i64 n] w fun e w' => ∃ vs, e = .returned vs ∧ OwnI w' w.heap.size vs (wset n l k) ∧ Below w.heap.size w w' := by
  have HLK : Hid ((l.take k).length = k) := by unfold Hid; rw [List.length_take]; omega
  have HGET : Hid (∀ j, j < k → (l.take k)[j]?.getD 0 = l[j]?.getD 0) := by intro j hj; rw [List.getElem?_take_of_lt hj]
  have HV : Hid (IsInts w v l) := hv
  have HNIL : Hid ((l.take k).drop k = []) := by unfold Hid; apply List.drop_of_length_le; rw [List.length_take]; omega
  have HW : Hid (wset n l k = full ((l.take k).drop (k - n))) := rfl
  clear hv
  obtain ⟨i0, hi, hz0, hz1, hz2⟩ := info_parts Tryd.info3
  have HI : Hid (Tryd.prog.info? 3 = some i0 ∧ i0.zero = some (.int .i64 0) ∧ i0.size = 1 ∧ i0.bytes = 8) := ⟨hi, hz0, hz1, hz2⟩
  clear hi hz0 hz1 hz2
  generalize hL : l.take k = L at *
  clear hL
  go_enter Tryd.func8, Tryd.ntmps8
  go_wp2
  go_loopw [7, 8] (fun vs i wr => LastRel w L (k - n) vs i wr) (fun _ i _ => (intOf i + 1).toNat)
  case atStart => exact ⟨k, by omega, by rw [HLK.out]; omega, by go_num, by rw [HNIL.out]; exact OwnI.nil _ _, Below.refl _ _⟩
  case round =>
    obtain ⟨t, hlo, ht, hi, hown, hbel⟩ := hrel
    rw [HLK.out] at ht
    by_cases hend : t = k - n
    · have HO : Hid (OwnI wr w.heap.size u7 (wset n l k)) := by unfold Hid; rw [HW.out, ← hend]; exact hown
      subst hi
      clear hown
      by_cases h0 : t = 0
      · have hneg : ((t : Int) - 1) < 0 := by omega
        have hneg2 : ¬ (0 ≤ ((t : Int) - 1)) := by omega
        clear h0 hend
        go_wp2
        go_ret
        exact ⟨_, rfl, HO.out, hbel⟩
      · have hpos : 0 ≤ ((t : Int) - 1) := by omega
        have hlt : ¬ ((k : Int) - (n : Int) ≤ (t : Int) - 1) := by omega
        clear h0 hend
        go_wp2
        go_ret
        exact ⟨_, rfl, HO.out, hbel⟩
    · obtain ⟨u, hu⟩ : ∃ u, t = u + 1 := ⟨t - 1, by omega⟩
      subst hu
      rw [show (((u + 1 : Nat) : Int) - 1) = (u : Int) by omega] at hi
      subst hi
      have hul : u < l.length := by omega
      have hge : (k : Int) - (n : Int) ≤ (u : Int) := by omega
      rcases HV.out with ⟨h, _⟩ | ⟨b, off, cap, rfl, hp, hlc, hcap, hc⟩
      · subst h; simp at hul
      have hbB : b < w.heap.size := World.block_lt_of_cell? w _ (hc 0 hp)
      have hck : wr.cell? ⟨b, off + u, none⟩ = some (.int .i64 (l[u]?.getD 0)) := (hbel.cell (by exact hbB)).trans (hc u hul)
      have hX := HGET.out u (by omega)
      generalize l[u]?.getD 0 = x at *
      have HX : Hid (L[u]?.getD 0 = x) := hX
      have HULL : Hid (u < L.length) := by unfold Hid; rw [HLK.out]; omega
      have HLO : Hid (k - n ≤ u) := by unfold Hid; omega
      have HO : Hid (OwnI wr w.heap.size u7 (full (L.drop (u+1)))) := hown
      have HSL : (full (L.drop (u+1))).length ≤ 40 := by
        have := full_short (L.drop (u+1))
        rw [List.length_drop, HLK.out] at this
        omega
      unfold maxLen at hcap
      clear hc hX hown hend hlo
      cases hcn : (full (L.drop (u+1))).contains x
      · have HN : Hid ((full (L.drop (u+1))).contains x = false) := hcn
        have HE : Hid (full (L.drop u) = full (L.drop (u+1)) ++ [x]) := seen_out HULL.out HX.out hcn
        clear hcn
        go_wp2_with (first | (go_at_call 10; go_must (refine (has_any _ (full (L.drop (u+1))) x _ HO.out.isInts).mono ?_; rintro e w' ⟨rfl, hw⟩; have hw := hw.symm; subst hw; rw [HN.out])) | (at_builtin; go_must (refine wpList_append_own _ rfl _ _ 22 rfl w.heap.size 3 i0 (.int .i64 0) 1 8 Tryd.underlying22 HI.out.1 HI.out.2.1 HI.out.2.2.1 HI.out.2.2.2 rfl (by decide) _ (full (L.drop (u+1))).length ((full (L.drop (u+1))).map (Value.int .i64)) rfl (World.ownsRow.alloc HO.out _) ⟨wr.heap.size, 0, none⟩ 1 1 [.int .i64 x] rfl rfl (by exact new_one _ _ _) (one_cell _) (by unfold maxLen; omega) (by omega) (by have := hbel.size; simp; omega) ?_; intro v1 w1 hown' hgrow _; have R := own_append HO.out hbel (Nat.le_refl _) hown' hgrow; rw [← HE.out] at R; have HR : Hid (OwnI w1 w.heap.size v1 (full (L.drop u))) := R.1; have HB1 : Hid (Below w.heap.size w w1) := R.2; clear hown' hgrow R)))
        go_roundw
        case rel => exact ⟨u, HLO.out, Nat.le_of_lt HULL.out, by go_num, HR.out, HB1.out⟩
        case measure => simp [intOf]
      · have hin := seen_in HULL.out HX.out hcn
        have HN : Hid ((full (L.drop (u+1))).contains x = true) := hcn
        have HE : Hid (full (L.drop u) = full (L.drop (u+1))) := hin.1
        clear hcn hin
        go_wp2_with (go_at_call 10; go_must (refine (has_any _ (full (L.drop (u+1))) x _ HO.out.isInts).mono ?_; rintro e w' ⟨rfl, hw⟩; have hw := hw.symm; subst hw; rw [HN.out]))
        go_roundw
        case rel => exact ⟨u, HLO.out, Nat.le_of_lt HULL.out, by go_num, by rw [HE.out]; exact HO.out, hbel⟩
        case measure => simp [intOf]
end Go.Proofs.YtbnhlnjbgimibaaDoor
