/- The walk of the document's answer: Lru. -/
import Derived.Test.YtmjmdggpchfnbaaDoorRefLru
namespace Go.Proofs.YtmjmdggpchfnbaaDoor
open Go.RowKit Go.Sort

theorem apart_two {w : World} {base : Nat} {v vb : Value} {l : List Int} {lb : List Bool} (h : OwnI w base v l) (hb : OwnB w base vb lb) : vb.ownBlock = none ∨ vb.ownBlock ≠ v.ownBlock := by
  rcases hb.2 with ⟨rfl, _⟩ | ⟨g, cap, cur, rfl, _, hg, _⟩
  · exact .inl rfl
  · refine .inr fun he => ?_
    rcases h.2 with ⟨rfl, _⟩ | ⟨g2, cap2, cur2, rfl, _, hg2, _⟩
    · cases he
    · have : g = g2 := by simpa [Value.ownBlock] using he
      subst this
      rw [hg] at hg2
      simp at hg2

theorem held_append {w wr w1 : World} {B : Nat} {v v1 vb : Value} {l : List Int} {lb : List Bool} {x : Int} {o : Obj} (hoh : OwnI wr B v l) (hob : OwnB wr B vb lb) (hb : Below B w wr) (hB : B ≤ w.heap.size)
    (h1 : w1.ownsRow B 3 1 v1 (l.length + 1) (l.map (Value.int .i64) ++ [.int .i64 x])) (h2 : (wr.alloc o).grownBy w1 v.ownBlock) : OwnI w1 B v1 (l ++ [x]) ∧ OwnB w1 B vb lb ∧ Below B w w1 := by
  have R := own_append hoh hb hB h1 h2
  have hoh2 : OwnI (wr.alloc o) B v l := World.ownsRow.alloc hoh o
  have hob2 : OwnB (wr.alloc o) B vb lb := World.ownsRow.alloc hob o
  exact ⟨R.1, hob2.kept h2 (apart_two hoh2 hob2), R.2⟩

/-- The first loop's relation, and the second one's. -/
def HitsRel (w : World) (s : Nat) (l : List Int) (vb i : Value) (wr : World) : Prop :=
  ∃ k : Nat, k ≤ l.length ∧ i = .int .i64 k ∧ OwnB wr w.heap.size vb (hits s l k) ∧ Below w.heap.size w wr
def HeldRel (w : World) (s : Nat) (l : List Int) (vb vh i : Value) (wr : World) : Prop :=
  ∃ t : Nat, t ≤ l.length ∧ i = .int .i64 ((t : Int) - 1) ∧ OwnI wr w.heap.size vh (full (l.drop t)) ∧ (full (l.drop t)).length ≤ s ∧ OwnB wr w.heap.size vb (hits s l l.length) ∧ Below w.heap.size w wr

theorem held_full {l : List Int} {t s : Nat} (ht : t ≤ l.length) (h : (full (l.drop t)).length = s) : full (l.drop t) = (full l).take s := by
  rw [← h]; exact List.prefix_iff_eq_take.1 (full_prefix l t ht)

theorem full_none (l : List Int) : full (l.drop l.length) = [] := by simp [full, mru]

set_option maxHeartbeats 2000000 in
theorem reflru_any (v : Value) (l : List Int) (s : Nat) (w : World) (hv : IsInts w v l) (hform : ∃ ao cap, v = .slice ao l.length cap) (hl40 : l.length ≤ 40) (hs8 : s ≤ 8) :
    Calls Tryd.prog 5 #[v, .int .i64 s] w fun e w' => ∃ vb vh, e = .returned (.tuple #[vb, vh]) ∧ OwnB w' w.heap.size vb (hits s l l.length) ∧ OwnI w' w.heap.size vh ((full l).take s) ∧ Below w.heap.size w w' := by
  have HV : Hid (IsInts w v l) := hv
  obtain ⟨av, cv, rfl⟩ := hform
  clear hv
  obtain ⟨i0, hi, hz0, hz1, hz2⟩ := info_parts Tryd.info3
  have HI : Hid (Tryd.prog.info? 3 = some i0 ∧ i0.zero = some (.int .i64 0) ∧ i0.size = 1 ∧ i0.bytes = 8) := ⟨hi, hz0, hz1, hz2⟩
  clear hi hz0 hz1 hz2
  obtain ⟨i1, hi, hz0, hz1, hz2⟩ := info_parts Tryd.infoB
  have HI1 : Hid (Tryd.prog.info? 4 = some i1 ∧ i1.zero = some (.bool false) ∧ i1.size = 1 ∧ i1.bytes = 1) := ⟨hi, hz0, hz1, hz2⟩
  clear hi hz0 hz1 hz2
  go_enter Tryd.func5, Tryd.ntmps5
  go_wp2
  go_loopw [6, 7, 8] (fun vb i _ wr => HitsRel w s l vb i wr) (fun _ i _ _ => l.length - (intOf i).toNat)
  case atStart => exact ⟨0, Nat.zero_le _, rfl, OwnB.nil _ _, Below.refl _ _⟩
  case round =>
    obtain ⟨k, hk, rfl, hob, hbel⟩ := hrel
    have HB : Hid (OwnB wr w.heap.size u6 (hits s l k)) := hob
    clear hob
    by_cases hlt : k < l.length
    · rcases HV.out with ⟨h, _⟩ | ⟨b, off, cap, hv, hp, hlc, hcap, hc⟩
      · subst h; simp at hlt
      simp only [Value.slice.injEq] at hv
      obtain ⟨rfl, _, rfl⟩ := hv
      have hbB : b < w.heap.size := World.block_lt_of_cell? w _ (hc 0 hp)
      have hck : wr.cell? ⟨b, off + k, none⟩ = some (.int .i64 (l[k]?.getD 0)) := (hbel.cell (by exact hbB)).trans (hc k hlt)
      have HHD : Hid (hitAt s l k = ((full (l.take k)).take s).contains (l[k]?.getD 0)) := rfl
      generalize l[k]?.getD 0 = p at *
      unfold maxLen at hcap
      clear hc
      go_wp2_with (go_at_call 12; fail)
      refine (since_any _ l k p _ (HV.out.below hbel) hk hl40).mono ?_
      rintro e w1 ⟨d, rfl, ⟨hd40, hd⟩, hb1⟩
      have hdl : d ≤ 40 := by rw [List.length_take] at hd40; omega
      have hds := (hd s).trans HHD.out.symm
      have HBW : Hid (Below w.heap.size w w1) := hbel.trans (hb1.mono hbel.size)
      have HB1 : Hid (OwnB w1 w.heap.size u6 (hits s l k)) := HB.out.later hb1
      clear hd hd40 HHD hb1 hck
      rcases (by omega : d = 0 ∨ (0 < d ∧ d ≤ s) ∨ (0 < d ∧ s < d)) with h | ⟨h1, h2⟩ | ⟨h1, h2⟩
      · subst h
        have HH : Hid (hitAt s l k = false) := by unfold Hid; rw [← hds]; simp
        clear hds
        · go_wp2_with (at_builtin; go_must (refine wpList_append_own _ rfl _ _ 24 rfl w.heap.size 4 i1 (.bool false) 1 1 Tryd.underlying24 HI1.out.1 HI1.out.2.1 HI1.out.2.2.1 HI1.out.2.2.2 rfl (by decide) _ (hits s l k).length ((hits s l k).map Value.bool) rfl (World.ownsRow.alloc HB1.out _) ⟨w1.heap.size, 0, none⟩ 1 1 [.bool false] rfl rfl (by exact new_one _ _ _) (one_cellB _) (by rw [hits_length]; unfold maxLen; omega) (by rw [hits_length]; omega) (by have := HBW.out.size; simp; omega) ?_; intro vb' w2 hown' hgrow _; have R := ownB_append HB1.out HBW.out (Nat.le_refl _) hown' hgrow; have HR : Hid (OwnB w2 w.heap.size vb' (hits s l (k+1))) := (by rw [hits_succ, HH.out]; exact R.1); have HB2 : Hid (Below w.heap.size w w2) := R.2; clear hown' hgrow R))
          go_roundw
          case rel => exact ⟨k + 1, by omega, by go_num, HR.out, HB2.out⟩
          case measure => simp [intOf]; omega
      · have HH : Hid (hitAt s l k = true) := by unfold Hid; rw [← hds]; simp; omega
        have hi1 : (0 : Int) < (d : Int) := by omega
        have hi2 : (d : Int) ≤ (s : Int) := by omega
        clear hds
        · go_wp2_with (at_builtin; go_must (refine wpList_append_own _ rfl _ _ 24 rfl w.heap.size 4 i1 (.bool false) 1 1 Tryd.underlying24 HI1.out.1 HI1.out.2.1 HI1.out.2.2.1 HI1.out.2.2.2 rfl (by decide) _ (hits s l k).length ((hits s l k).map Value.bool) rfl (World.ownsRow.alloc HB1.out _) ⟨w1.heap.size, 0, none⟩ 1 1 [.bool true] rfl rfl (by exact new_one _ _ _) (one_cellB _) (by rw [hits_length]; unfold maxLen; omega) (by rw [hits_length]; omega) (by have := HBW.out.size; simp; omega) ?_; intro vb' w2 hown' hgrow _; have R := ownB_append HB1.out HBW.out (Nat.le_refl _) hown' hgrow; have HR : Hid (OwnB w2 w.heap.size vb' (hits s l (k+1))) := (by rw [hits_succ, HH.out]; exact R.1); have HB2 : Hid (Below w.heap.size w w2) := R.2; clear hown' hgrow R))
          go_roundw
          case rel => exact ⟨k + 1, by omega, by go_num, HR.out, HB2.out⟩
          case measure => simp [intOf]; omega
      · have HH : Hid (hitAt s l k = decide (d ≤ s)) := by unfold Hid; rw [← hds]; simp; omega
        have hi1 : (0 : Int) < (d : Int) := by omega
        clear hds
        · go_wp2_with (at_builtin; go_must (refine wpList_append_own _ rfl _ _ 24 rfl w.heap.size 4 i1 (.bool false) 1 1 Tryd.underlying24 HI1.out.1 HI1.out.2.1 HI1.out.2.2.1 HI1.out.2.2.2 rfl (by decide) _ (hits s l k).length ((hits s l k).map Value.bool) rfl (World.ownsRow.alloc HB1.out _) ⟨w1.heap.size, 0, none⟩ 1 1 [.bool (decide (d ≤ s))] rfl rfl (by exact new_one _ _ _) (one_cellB _) (by rw [hits_length]; unfold maxLen; omega) (by rw [hits_length]; omega) (by have := HBW.out.size; simp; omega) ?_; intro vb' w2 hown' hgrow _; have R := ownB_append HB1.out HBW.out (Nat.le_refl _) hown' hgrow; have HR : Hid (OwnB w2 w.heap.size vb' (hits s l (k+1))) := (by rw [hits_succ, HH.out]; exact R.1); have HB2 : Hid (Below w.heap.size w w2) := R.2; clear hown' hgrow R))
          go_roundw
          case rel => exact ⟨k + 1, by omega, by go_num, HR.out, HB2.out⟩
          case measure => simp [intOf]; omega
    · obtain rfl : k = l.length := by omega
      go_wp2
      go_loopw [9, 10] (fun vh i wr => HeldRel w s l u6 vh i wr) (fun _ i _ => (intOf i + 1).toNat)
      case atStart => exact ⟨l.length, Nat.le_refl _, by go_num, by rw [full_none]; exact OwnI.nil _ _, by rw [full_none]; simp, HB.out, hbel⟩
      case round =>
        clear hlt hk hbel HB
        obtain ⟨t, ht, hi, hoh, hls, hob, hbel⟩ := hrel
        obtain ⟨ah, ch, rfl⟩ := hoh.form
        have HO : Hid (OwnI wr w.heap.size (.slice ah (full (l.drop t)).length ch) (full (l.drop t))) := hoh
        have HOB : Hid (OwnB wr w.heap.size u6 (hits s l l.length)) := hob
        clear hoh hob
        cases t with
        | zero =>
          have hi : u10 = .int .i64 (-1) := hi
          subst hi
          have HF : Hid ((full l).take s = full (l.drop 0)) := by unfold Hid; rw [List.drop_zero] at hls ⊢; exact List.take_of_length_le hls
          go_wp2
          go_ret2
          rw [HF.out]
          exact ⟨_, _, rfl, HOB.out, HO.out, hbel⟩
        | succ u =>
          rw [show (((u + 1 : Nat) : Int) - 1) = (u : Int) by omega] at hi
          subst hi
          by_cases hroom : (full (l.drop (u+1))).length < s
          · have hul : u < l.length := by omega
            rcases HV.out with ⟨h, _⟩ | ⟨b, off, cap, hv, hp, hlc, hcap, hc⟩
            · subst h; simp at hul
            simp only [Value.slice.injEq] at hv
            obtain ⟨rfl, _, rfl⟩ := hv
            have hbB : b < w.heap.size := World.block_lt_of_cell? w _ (hc 0 hp)
            have hck : wr.cell? ⟨b, off + u, none⟩ = some (.int .i64 (l[u]?.getD 0)) := (hbel.cell (by exact hbB)).trans (hc u hul)
            have HSI := fun h => (seen_in (L := l) (x := l[u]?.getD 0) hul rfl h).1
            have HSO := fun h => seen_out (L := l) (x := l[u]?.getD 0) hul rfl h
            generalize l[u]?.getD 0 = x at *
            have hr1 : ((full (l.drop (u+1))).length : Int) < (s : Int) := by omega
            unfold maxLen at hcap
            clear hc
            cases hcn : (full (l.drop (u+1))).contains x
            · have HN : Hid ((full (l.drop (u+1))).contains x = false) := hcn
              have HE : Hid (full (l.drop u) = full (l.drop (u+1)) ++ [x]) := HSO hcn
              clear hcn HSI HSO
              go_wp2_with (first | (go_at_call 13; go_must (refine (has_any _ (full (l.drop (u+1))) x _ HO.out.isInts).mono ?_; rintro e w' ⟨rfl, hw⟩; have hw := hw.symm; subst hw; rw [HN.out])) | (at_builtin; go_must (refine wpList_append_own _ rfl _ _ 22 rfl w.heap.size 3 i0 (.int .i64 0) 1 8 Tryd.underlying22 HI.out.1 HI.out.2.1 HI.out.2.2.1 HI.out.2.2.2 rfl (by decide) _ (full (l.drop (u+1))).length ((full (l.drop (u+1))).map (Value.int .i64)) rfl (World.ownsRow.alloc HO.out _) ⟨wr.heap.size, 0, none⟩ 1 1 [.int .i64 x] rfl rfl (by exact new_one _ _ _) (one_cell _) (by unfold maxLen; omega) (by omega) (by have := hbel.size; simp; omega) ?_; intro v1 w1 hown' hgrow _; have R := held_append HO.out HOB.out hbel (Nat.le_refl _) hown' hgrow; rw [← HE.out] at R; have HR : Hid (OwnI w1 w.heap.size v1 (full (l.drop u))) := R.1; have HB1 : Hid (Below w.heap.size w w1) := R.2.2; have HOB1 : Hid (OwnB w1 w.heap.size u6 (hits s l l.length)) := R.2.1; clear hown' hgrow R)))
              go_roundw
              case rel => exact ⟨u, by omega, by go_num, HR.out, by rw [HE.out]; simp; omega, HOB1.out, HB1.out⟩
              case measure => simp [intOf]
            · have HN : Hid ((full (l.drop (u+1))).contains x = true) := hcn
              have HE : Hid (full (l.drop u) = full (l.drop (u+1))) := HSI hcn
              clear hcn HSI HSO
              go_wp2_with (go_at_call 13; go_must (refine (has_any _ (full (l.drop (u+1))) x _ HO.out.isInts).mono ?_; rintro e w' ⟨rfl, hw⟩; have hw := hw.symm; subst hw; rw [HN.out]))
              go_roundw
              case rel => exact ⟨u, by omega, by go_num, by rw [HE.out]; exact HO.out, by rw [HE.out]; exact hls, HOB.out, hbel⟩
              case measure => simp [intOf]
          · have HF : Hid ((full l).take s = full (l.drop (u+1))) := (held_full ht (by omega)).symm
            have hr1 : ¬ (((full (l.drop (u+1))).length : Int) < (s : Int)) := by omega
            go_wp2
            go_ret2
            rw [HF.out]
            exact ⟨_, _, rfl, HOB.out, HO.out, hbel⟩
end Go.Proofs.YtmjmdggpchfnbaaDoor
