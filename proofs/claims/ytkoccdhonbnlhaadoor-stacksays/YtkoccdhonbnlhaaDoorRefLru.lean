/- The walks of the document's answer: since, Lru. -/
import Derived.Test.YtkoccdhonbnlhaaDoorRef1
import Derived.Test.YtkoccdhonbnlhaaDoorLate
import Derived.Test.YtkoccdhonbnlhaaDoorKeep
namespace Go.Proofs.YtkoccdhonbnlhaaDoor
open Go.RowKit Go.Sort

theorem full_short (l : List Int) : (full l).length ≤ l.length := by rw [full_length]; exact firsts_le l _

/-- How many pages were asked for since: what a request asks of it. -/
def Tells (d : Nat) (L : List Int) (p : Int) : Prop := d ≤ L.length ∧ ∀ s, (decide (0 < d) && decide (d ≤ s)) = ((full L).take s).contains p

theorem tells_none {L : List Int} {p : Int} (h : p ∉ L) : Tells 0 L p := by
  refine ⟨Nat.zero_le _, fun s => ?_⟩
  have h2 : p ∉ (full L).take s := fun hx => h (full_mem.1 (List.mem_of_mem_take hx))
  simp [h2]

theorem tells_at {L : List Int} {u : Nat} {p : Int} (hu : u < L.length) (hp : L[u]?.getD 0 = p) (h : p ∉ L.drop (u+1)) : Tells (full (L.drop u)).length L p := by
  have h1 := full_drop hu
  rw [hp, if_neg h] at h1
  obtain ⟨G, hG⟩ := full_prefix L u (by omega)
  have hp2 : p ∉ full (L.drop (u+1)) := fun hx => h (full_mem.1 hx)
  refine ⟨Nat.le_trans (full_short _) (by simp), fun s => ?_⟩
  rw [h1] at hG ⊢
  generalize full (L.drop (u+1)) = A at *
  rw [← hG]
  have hl : (A ++ [p]).length = A.length + 1 := by simp
  rw [hl]
  by_cases hs : A.length + 1 ≤ s
  · have hm : p ∈ (A ++ [p] ++ G).take s := by
      rw [List.take_append]
      refine List.mem_append_left _ ?_
      rw [List.take_of_length_le (by omega)]
      simp
    rw [List.contains_iff_mem.2 hm]
    simp [hs]
  · have hm : p ∉ (A ++ [p] ++ G).take s := by
      rw [List.append_assoc, List.take_append_of_le_length (by omega)]
      exact fun hx => hp2 (List.mem_of_mem_take hx)
    rw [show ((A ++ [p] ++ G).take s).contains p = false by rw [← Bool.not_eq_true, List.contains_iff_mem]; exact hm]
    simp [hs]

def SinceRel (w : World) (L : List Int) (p : Int) (vs i : Value) (wr : World) : Prop :=
  ∃ t : Nat, t ≤ L.length ∧ i = .int .i64 ((t : Int) - 1) ∧ OwnI wr w.heap.size vs (full (L.drop t)) ∧ p ∉ L.drop t ∧ Below w.heap.size w wr

theorem drop_not {L : List Int} {u : Nat} {p x : Int} (hu : u < L.length) (hx : L[u]?.getD 0 = x) (hne : x ≠ p) (h : p ∉ L.drop (u+1)) : p ∉ L.drop u := by
  rw [List.drop_eq_getElem_cons hu]
  rw [List.getElem?_eq_getElem hu, Option.getD_some] at hx
  rw [hx]
  simp [h, Ne.symm hne]

theorem seen_in {L : List Int} {u : Nat} {x : Int} (hu : u < L.length) (hx : L[u]?.getD 0 = x) (h : (full (L.drop (u+1))).contains x = true) : full (L.drop u) = full (L.drop (u+1)) ∧ x ∈ L.drop (u+1) := by
  have hm : x ∈ L.drop (u+1) := full_mem.1 (List.contains_iff_mem.1 h)
  refine ⟨?_, hm⟩
  rw [full_drop hu, hx, if_pos hm]
theorem seen_out {L : List Int} {u : Nat} {x : Int} (hu : u < L.length) (hx : L[u]?.getD 0 = x) (h : (full (L.drop (u+1))).contains x = false) : full (L.drop u) = full (L.drop (u+1)) ++ [x] := by
  have hm : x ∉ L.drop (u+1) := fun hm => by
    have := List.contains_iff_mem.2 (full_mem.2 hm)
    rw [h] at this; cases this
  rw [full_drop hu, hx, if_neg hm]

set_option maxHeartbeats 1000000 in
theorem since_any (v : Value) (l : List Int) (k : Nat) (p : Int) (w : World) (hv : IsInts w v l) (hk : k ≤ l.length) (hl40 : l.length ≤ 40) :
    Calls Tryd.prog 12 #[v, .int .i64 k, .int .i64 p] w fun e w' => ∃ d : Nat, e = .returned (.int .i64 d) ∧ Tells d (l.take k) p ∧ Below w.heap.size w w' := by
  have HLK : Hid ((l.take k).length = k) := by unfold Hid; rw [List.length_take]; omega
  have HGET : Hid (∀ j, j < k → (l.take k)[j]?.getD 0 = l[j]?.getD 0) := by intro j hj; rw [List.getElem?_take_of_lt hj]
  have HV : Hid (IsInts w v l) := hv
  have HNIL : Hid ((l.take k).drop k = []) := by unfold Hid; apply List.drop_of_length_le; rw [List.length_take]; omega
  clear hv
  obtain ⟨i0, hi, hz0, hz1, hz2⟩ := info_parts Tryd.info3
  have HI : Hid (Tryd.prog.info? 3 = some i0 ∧ i0.zero = some (.int .i64 0) ∧ i0.size = 1 ∧ i0.bytes = 8) := ⟨hi, hz0, hz1, hz2⟩
  clear hi hz0 hz1 hz2
  generalize hL : l.take k = L at *
  clear hL
  go_enter Tryd.func12, Tryd.ntmps12
  go_wp2
  go_loopw [7, 8] (fun vs i wr => SinceRel w L p vs i wr) (fun _ i _ => (intOf i + 1).toNat)
  case atStart => exact ⟨k, by rw [HLK.out]; omega, by go_num, by rw [HNIL.out]; exact OwnI.nil _ _, by rw [HNIL.out]; simp, Below.refl _ _⟩
  case round =>
    obtain ⟨t, ht, hi, hown, hnot, hbel⟩ := hrel
    rw [HLK.out] at ht
    cases t with
    | zero =>
      have hi : u8 = .int .i64 (-1) := hi
      subst hi
      have HT : Hid (Tells 0 L p) := tells_none (by simpa using hnot)
      clear hown hnot
      go_wp2
      go_ret
      exact ⟨0, rfl, HT.out, hbel⟩
    | succ u =>
      rw [show (((u + 1 : Nat) : Int) - 1) = (u : Int) by omega] at hi
      subst hi
      have hul : u < l.length := by omega
      rcases HV.out with ⟨h, _⟩ | ⟨b, off, cap, rfl, hp, hlc, hcap, hc⟩
      · subst h; simp at hul
      have hbB : b < w.heap.size := World.block_lt_of_cell? w _ (hc 0 hp)
      have hck : wr.cell? ⟨b, off + u, none⟩ = some (.int .i64 (l[u]?.getD 0)) := (hbel.cell (by exact hbB)).trans (hc u hul)
      have hX := HGET.out u (by omega)
      generalize l[u]?.getD 0 = x at *
      have HX : Hid (L[u]?.getD 0 = x) := hX
      have HNOT : Hid (p ∉ L.drop (u+1)) := hnot
      have HULL : Hid (u < L.length) := by unfold Hid; rw [HLK.out]; omega
      have HO : Hid (OwnI wr w.heap.size u7 (full (L.drop (u+1)))) := hown
      have HSL : (full (L.drop (u+1))).length ≤ 40 := by
        have := full_short (L.drop (u+1))
        rw [List.length_drop, HLK.out] at this
        omega
      unfold maxLen at hcap
      clear hc hX hnot hown
      cases hcn : (full (L.drop (u+1))).contains x
      · have HN : Hid ((full (L.drop (u+1))).contains x = false) := hcn
        have HE : Hid (full (L.drop u) = full (L.drop (u+1)) ++ [x]) := seen_out HULL.out HX.out hcn
        clear hcn
        by_cases hxp : x = p
        · subst hxp
          have hpp : (x == x) = true := by simp
          have HT : Hid (Tells (full (L.drop u)).length L x) := tells_at HULL.out HX.out HNOT.out
          go_wp2_with (first | (go_at_call 18; go_must (refine (has_any _ (full (L.drop (u+1))) x _ HO.out.isInts).mono ?_; rintro e w' ⟨rfl, hw⟩; have hw := hw.symm; subst hw; rw [HN.out])) | (at_builtin; go_must (refine wpList_append_own _ rfl _ _ 22 rfl w.heap.size 3 i0 (.int .i64 0) 1 8 Tryd.underlying22 HI.out.1 HI.out.2.1 HI.out.2.2.1 HI.out.2.2.2 rfl (by decide) _ (full (L.drop (u+1))).length ((full (L.drop (u+1))).map (Value.int .i64)) rfl (World.ownsRow.alloc HO.out _) ⟨wr.heap.size, 0, none⟩ 1 1 [.int .i64 x] rfl rfl (by exact new_one _ _ _) (one_cell _) (by unfold maxLen; omega) (by omega) (by have := hbel.size; simp; omega) ?_; intro v1 w1 hown' hgrow _; have R := own_append HO.out hbel (Nat.le_refl _) hown' hgrow; rw [← HE.out] at R; obtain ⟨ao1, cap1, rfl⟩ := R.1.form; have HR : Hid (OwnI w1 w.heap.size (.slice ao1 (full (L.drop u)).length cap1) (full (L.drop u))) := R.1; have HB1 : Hid (Below w.heap.size w w1) := R.2; have hck1 : w1.cell? ⟨b, off + u, none⟩ = some (.int .i64 x) := (HB1.out.cell (p := ⟨b, off + u, none⟩) (by exact hbB)).trans ((hbel.cell (by exact hbB)).symm.trans hck); clear hown' hgrow R)))
          go_ret
          exact ⟨_, rfl, HT.out, HB1.out⟩
        · have HD : Hid (p ∉ L.drop u) := drop_not HULL.out HX.out hxp HNOT.out
          have hxp2 : (x == p) = false := by rw [beq_eq_false_iff_ne]; exact hxp
          clear hxp
          go_wp2_with (first | (go_at_call 18; go_must (refine (has_any _ (full (L.drop (u+1))) x _ HO.out.isInts).mono ?_; rintro e w' ⟨rfl, hw⟩; have hw := hw.symm; subst hw; rw [HN.out])) | (at_builtin; go_must (refine wpList_append_own _ rfl _ _ 22 rfl w.heap.size 3 i0 (.int .i64 0) 1 8 Tryd.underlying22 HI.out.1 HI.out.2.1 HI.out.2.2.1 HI.out.2.2.2 rfl (by decide) _ (full (L.drop (u+1))).length ((full (L.drop (u+1))).map (Value.int .i64)) rfl (World.ownsRow.alloc HO.out _) ⟨wr.heap.size, 0, none⟩ 1 1 [.int .i64 x] rfl rfl (by exact new_one _ _ _) (one_cell _) (by unfold maxLen; omega) (by omega) (by have := hbel.size; simp; omega) ?_; intro v1 w1 hown' hgrow _; have R := own_append HO.out hbel (Nat.le_refl _) hown' hgrow; rw [← HE.out] at R; obtain ⟨ao1, cap1, rfl⟩ := R.1.form; have HR : Hid (OwnI w1 w.heap.size (.slice ao1 (full (L.drop u)).length cap1) (full (L.drop u))) := R.1; have HB1 : Hid (Below w.heap.size w w1) := R.2; have hck1 : w1.cell? ⟨b, off + u, none⟩ = some (.int .i64 x) := (HB1.out.cell (p := ⟨b, off + u, none⟩) (by exact hbB)).trans ((hbel.cell (by exact hbB)).symm.trans hck); clear hown' hgrow R)))
          go_roundw
          case rel => exact ⟨u, Nat.le_of_lt HULL.out, by go_num, HR.out, HD.out, HB1.out⟩
          case measure => simp [intOf]
      · have hin := seen_in HULL.out HX.out hcn
        have HN : Hid ((full (L.drop (u+1))).contains x = true) := hcn
        have HE : Hid (full (L.drop u) = full (L.drop (u+1))) := hin.1
        have hxp : x ≠ p := fun h => HNOT.out (h ▸ hin.2)
        have HD : Hid (p ∉ L.drop u) := drop_not HULL.out HX.out hxp HNOT.out
        have hxp2 : (x == p) = false := by rw [beq_eq_false_iff_ne]; exact hxp
        clear hcn hin hxp
        go_wp2_with (go_at_call 18; go_must (refine (has_any _ (full (L.drop (u+1))) x _ HO.out.isInts).mono ?_; rintro e w' ⟨rfl, hw⟩; have hw := hw.symm; subst hw; rw [HN.out]))
        go_roundw
        case rel => exact ⟨u, Nat.le_of_lt HULL.out, by go_num, by rw [HE.out]; exact HO.out, HD.out, hbel⟩
        case measure => simp [intOf]
end Go.Proofs.YtkoccdhonbnlhaaDoor
