/- The walk of the document's answer (larderwickref1): Rows: all rows of so many things. -/
import Derived.Test.YtjafedijbainbaaDoorRefPut
import Derived.Deep.RegionWith
namespace Go.Proofs.YtjafedijbainbaaDoor
set_option maxRecDepth 100000
open Go.RowKit Go.Sort

def insR (n : Nat) (r : List Int) (k : Nat) : List Int := r.take k ++ (n : Int) :: r.drop k
def rowsL : Nat → List (List Int)
  | 0 => [[]]
  | n + 1 => (rowsL n).flatMap fun r => (List.range (n+1)).map (insR n r)
/-- The rows of n + 1 things out of the first i rows of n. -/
def rowsTo (n i : Nat) : List (List Int) := ((rowsL n).take i).flatMap fun r => (List.range (n+1)).map (insR n r)
def rowAt (L : List (List Int)) (i : Nat) : List Int := L[i]?.getD []
theorem rowsTo_succ {n i : Nat} (h : i < (rowsL n).length) : rowsTo n (i+1) = rowsTo n i ++ (List.range (n+1)).map (insR n (rowAt (rowsL n) i)) := by
  unfold rowsTo rowAt
  rw [List.take_succ_eq_append_getElem h, List.flatMap_append, List.getElem?_eq_getElem h]
  simp
theorem rowsTo_all (n : Nat) : rowsTo n (rowsL n).length = rowsL (n+1) := by unfold rowsTo; rw [List.take_length]; rfl
theorem range_map_succ {f : Nat → List Int} (k : Nat) : (List.range (k+1)).map f = (List.range k).map f ++ [f k] := by rw [List.range_succ, List.map_append]; rfl
theorem rowsL_few {n : Nat} (h : n ≤ 4) : (rowsL n).length ≤ 24 ∧ ∀ r, r ∈ rowsL n → r.length = n := by
  have hc : ∀ n, n ≤ 4 → ((rowsL n).length ≤ 24 ∧ ((rowsL n).all fun r => r.length == n) = true) := by
    intro n hn
    rcases (by omega : n = 0 ∨ n = 1 ∨ n = 2 ∨ n = 3 ∨ n = 4) with rfl | rfl | rfl | rfl | rfl <;> decide +kernel
  obtain ⟨h1, h2⟩ := hc n h
  exact ⟨h1, fun r hr => by simpa using List.all_eq_true.1 h2 r hr⟩
theorem rowAt_mem {L : List (List Int)} {i : Nat} (h : i < L.length) : rowAt L i ∈ L := by unfold rowAt; rw [List.getElem?_eq_getElem h]; exact List.getElem_mem h

/-- A slice of slices of ints, all of them of one's own. -/
def OwnR (w : World) (base : Nat) (v : Value) (L : List (List Int)) : Prop :=
  ∃ us : List Value, us.length = L.length ∧ w.ownsRow base 22 1 v L.length us ∧ ∀ j u, us[j]? = some u → OwnI w base u (rowAt L j)
theorem OwnR.nil (w : World) (base : Nat) : OwnR w base (.slice none 0 0) [] := ⟨[], rfl, World.ownsRow_nil _ _ _ _, fun j u h => by simp at h⟩
theorem ownsRow_below {w w' : World} {B n : Nat} {t : TypeId} {sz : Nat} {v : Value} {l : List Value} (h : w.ownsRow B t sz v n l) (hb : RowKit.Below w.heap.size w w') : w'.ownsRow B t sz v n l := by
  refine ⟨h.1, ?_⟩
  rcases h.2 with h0 | ⟨g, cap, cur, hv, hB, hg, rest⟩
  · exact .inl h0
  · exact .inr ⟨g, cap, cur, hv, hB, by rw [hb.block g (Array.getElem?_eq_some_iff.1 hg).1]; exact hg, rest⟩
theorem OwnR.later {w w' : World} {base : Nat} {v : Value} {L : List (List Int)} (h : OwnR w base v L) (hb : RowKit.Below w.heap.size w w') : OwnR w' base v L := by
  obtain ⟨us, h1, h2, h3⟩ := h
  exact ⟨us, h1, ownsRow_below h2 hb, fun j u hj => ownI_below (h3 j u hj) hb⟩
theorem ownsRow_mono {w : World} {B B' n : Nat} {t : TypeId} {sz : Nat} {v : Value} {l : List Value} (h : w.ownsRow B t sz v n l) (hB : B' ≤ B) : w.ownsRow B' t sz v n l := by
  refine ⟨h.1, ?_⟩
  rcases h.2 with h0 | ⟨g, cap, cur, hv, hb, rest⟩
  · exact .inl h0
  · exact .inr ⟨g, cap, cur, hv, Nat.le_trans hB hb, rest⟩
theorem OwnR.mono {w : World} {B B' : Nat} {v : Value} {L : List (List Int)} (h : OwnR w B v L) (hB : B' ≤ B) : OwnR w B' v L := by
  obtain ⟨us, h1, h2, h3⟩ := h
  exact ⟨us, h1, ownsRow_mono h2 hB, fun j u hj => ownI_mono (h3 j u hj) hB⟩
/-- A row of slices and a row of ints lie apart. -/
theorem apart_ri {w : World} {base n : Nat} {v u : Value} {l : List Int} {us : List Value} (h : w.ownsRow base 22 1 v n us) (hu : OwnI w base u l) : u.ownBlock = none ∨ u.ownBlock ≠ v.ownBlock := by
  rcases hu.2 with ⟨rfl, _⟩ | ⟨g, cap, cur, rfl, _, hg, _⟩
  · exact .inl rfl
  · refine .inr fun he => ?_
    rcases h.2 with ⟨rfl, _⟩ | ⟨g2, cap2, cur2, rfl, _, hg2, _⟩
    · simp [Value.ownBlock] at he
    · simp [Value.ownBlock] at he
      subst he
      rw [hg] at hg2
      simp at hg2
theorem ownR_append {w wr w' : World} {B : Nat} {v v' u : Value} {L : List (List Int)} {r : List Int} {us : List Value} {o : Obj} (hl : us.length = L.length) (h2 : wr.ownsRow B 22 1 v L.length us) (h3 : ∀ j u, us[j]? = some u → OwnI wr B u (rowAt L j)) (hu : OwnI wr B u r) (hb : Below B w wr) (hB : B ≤ w.heap.size)
    (ha : w'.ownsRow B 22 1 v' (L.length + 1) (us ++ [u])) (hg : (wr.alloc o).grownBy w' v.ownBlock) : OwnR w' B v' (L ++ [r]) ∧ Below B w w' := by
  have hs := hb.size
  refine ⟨⟨us ++ [u], by simp [hl], by rw [List.length_append]; exact ha, fun j x hj => ?_⟩, ?_⟩
  · have h2a : (wr.alloc o).ownsRow B 22 1 v L.length us := World.ownsRow.alloc h2 o
    have key : ∀ {x : Value} {l : List Int}, OwnI wr B x l → OwnI w' B x l := fun {x l} hx => by
      have hxa : OwnI (wr.alloc o) B x l := World.ownsRow.alloc hx o
      exact OwnI.kept hxa hg (apart_ri h2a hxa)
    unfold rowAt
    by_cases hjl : j < us.length
    · rw [List.getElem?_append_left hjl] at hj
      rw [List.getElem?_append_left (by omega)]
      exact key (h3 j x hj)
    · rw [List.getElem?_append_right (by omega)] at hj
      have hj0 : j - us.length = 0 := by
        have := (List.getElem?_eq_some_iff.1 hj).1
        simp at this; omega
      rw [hj0] at hj
      have hxu : u = x := by simpa using hj
      subst hxu
      rw [List.getElem?_append_right (by omega), show j - L.length = 0 by omega]
      exact key hu
  · exact (hb.alloc (by omega) o).grown hg (by simp; omega) fun k hk => (World.ownsRow.lt h2 k hk).1
theorem OwnR.form {w : World} {base : Nat} {v : Value} {L : List (List Int)} (h : OwnR w base v L) : ∃ ao cap, v = .slice ao L.length cap := by
  obtain ⟨us, _, h2, _⟩ := h
  rcases h2.2 with ⟨rfl, h0⟩ | ⟨g, cap, cur, rfl, _⟩
  · exact ⟨none, 0, by rw [h0]⟩
  · exact ⟨_, cap, rfl⟩
/-- Opened: its form, its cells, and what they hold. -/
theorem OwnR.opened {w : World} {base : Nat} {v : Value} {L : List (List Int)} (h : OwnR w base v L) : ∃ ao cap, v = .slice ao L.length cap ∧ L.length ≤ cap ∧ cap ≤ maxLen ∧ ∀ k, k < L.length → ∃ g, ao = some ⟨g, 0, none⟩ ∧ g < w.heap.size ∧ ∃ u, w.cell? ⟨g, k, none⟩ = some u ∧ OwnI w base u (rowAt L k) := by
  obtain ⟨us, h1, h2, h3⟩ := h
  have h2' := h2
  rcases h2.2 with ⟨rfl, h0⟩ | ⟨g, cap, cur, rfl, hb, hg, hn, hm, hs, ht⟩
  · exact ⟨none, 0, by rw [h0], by omega, by simp, fun k hk => by omega⟩
  · refine ⟨_, cap, rfl, hn, hm, fun k hk => ⟨g, rfl, (Array.getElem?_eq_some_iff.1 hg).1, ?_⟩⟩
    have hku : k < us.length := by omega
    refine ⟨us[k], ?_, h3 k _ (List.getElem?_eq_getElem hku)⟩
    rw [World.ownsRow.cellAt h2' k (by omega), List.getElem?_eq_getElem hku]
theorem info_row : (Tryd.prog.info? 22).map (fun i => (i.zero, i.size, i.bytes)) = some (some (.slice none 0 0), 1, 24) := by kernel_rfl
theorem ownI_one {w : World} {base : Nat} {u : Value} {l : List Int} (h : OwnI w base u l) : ∀ x ∈ [u], x.oneCell' = true := by
  intro x hx
  have : x = u := by simpa using hx
  subst this
  obtain ⟨ao, cap, rfl⟩ := ownI_form h
  rfl
theorem rows_zero (w : World) : OwnR (w.alloc (.cells #[.slice none 0 0] 22)) w.heap.size (.slice (some ⟨w.heap.size, 0, none⟩) 1 1) [[]] := by
  refine ⟨[.slice none 0 0], rfl, ⟨rfl, .inr ⟨w.heap.size, 1, #[.slice none 0 0], rfl, Nat.le_refl _, heap_alloc_new _ _, by simp, by simp [maxLen], rfl, rfl⟩⟩, fun j u hj => ?_⟩
  have hj0 : j = 0 := by have := (List.getElem?_eq_some_iff.1 hj).1; simp at this; omega
  subst hj0
  have : Value.slice none 0 0 = u := by simpa using hj
  subst this
  exact OwnI.nil _ _
def RRRel (w : World) (n : Nat) (vo i : Value) (wr : World) : Prop := ∃ k : Nat, k ≤ (rowsL n).length ∧ i = .int .i64 (k : Nat) ∧ OwnR wr w.heap.size vo (rowsTo n k) ∧ Below w.heap.size w wr
def RKRel (w : World) (n i : Nat) (vo kv : Value) (wr : World) : Prop := ∃ k : Nat, k ≤ n + 1 ∧ kv = .int .i64 (k : Nat) ∧ OwnR wr w.heap.size vo (rowsTo n i ++ (List.range k).map (insR n (rowAt (rowsL n) i))) ∧ Below w.heap.size w wr
set_option maxHeartbeats 2000000 in
theorem rrows_succ (n : Nat) (hn : n < 4) (w : World) (ih : ∀ w : World, Calls Tryd.prog 20 #[.int .i64 (n : Nat)] w fun e w' => ∃ v', e = .returned v' ∧ OwnR w' w.heap.size v' (rowsL n) ∧ Below w.heap.size w w') :
    Calls Tryd.prog 20 #[.int .i64 ((n + 1 : Nat) : Int)] w fun e w' => ∃ v', e = .returned v' ∧ OwnR w' w.heap.size v' (rowsL (n+1)) ∧ Below w.heap.size w w' := by
  have HIH : Hid (∀ w : World, Calls Tryd.prog 20 #[.int .i64 (n : Nat)] w fun e w' => ∃ v', e = .returned v' ∧ OwnR w' w.heap.size v' (rowsL n) ∧ Below w.heap.size w w') := ih
  clear ih
  have HFW : Hid ((rowsL n).length ≤ 24 ∧ ∀ r, r ∈ rowsL n → r.length = n) := rowsL_few (by omega)
  obtain ⟨i0, hi, hz0, hz1, hz2⟩ := info_parts info_row
  have HI : Hid (Tryd.prog.info? 22 = some i0 ∧ i0.zero = some (.slice none 0 0) ∧ i0.size = 1 ∧ i0.bytes = 24) := ⟨hi, hz0, hz1, hz2⟩
  clear hi hz0 hz1 hz2
  rw [show ((n + 1 : Nat) : Int) = (n : Int) + 1 by omega]
  have hz : (((n : Int) + 1) == 0) = false := by rw [beq_eq_false_iff_ne]; omega
  have hsub : IntKind.i64.wrap ((n : Int) + 1 - 1) = (n : Int) := by rw [IntKind.wrap_i64]; omega
  go_enter Tryd.func20, Tryd.ntmps20
  go_wp2_with (go_at_call 20; go_must (refine (HIH.out _).mono ?_; rintro e w1 ⟨vl, rfl, hO1, hb1⟩))
  obtain ⟨ao, cap, rfl, hlc, hcap, hop⟩ := hO1.opened
  have hs1 := hb1.size
  have HB1 : Hid (Below w.heap.size w w1) := hb1
  have HOP : Hid (∀ k, k < (rowsL n).length → ∃ g, ao = some ⟨g, 0, none⟩ ∧ g < w1.heap.size ∧ ∃ u, w1.cell? ⟨g, k, none⟩ = some u ∧ OwnI w1 w.heap.size u (rowAt (rowsL n) k)) := hop
  have HR0 : Hid (RRRel w1 n (.slice none 0 0) (.int .i64 0) w1) := ⟨0, Nat.zero_le _, rfl, OwnR.nil _ _, Below.refl _ _⟩
  have hfew := HFW.out.1
  clear hop hb1 hO1
  unfold maxLen at hcap
  go_loopw [3, 5] (fun o i wr => RRRel w1 n o i wr) (fun _ i _ => (rowsL n).length - (intOf i).toNat)
  case atStart => exact HR0.out
  case round =>
    clear HR0
    obtain ⟨i, hi, rfl, hO, hbel⟩ := hrel
    by_cases hlt : i < (rowsL n).length
    · have HK0 : Hid (RKRel w1 n i u3 (.int .i64 0) wr) := ⟨0, Nat.zero_le _, rfl, by rw [List.range_zero, List.map_nil, List.append_nil]; exact hO, hbel⟩
      clear hO hbel
      go_wp2
      go_loopw [3, 6] (fun o k wr => RKRel w1 n i o k wr) (fun _ k _ => n + 1 - (intOf k).toNat)
      case atStart => exact HK0.out
      case round =>
        clear HK0
        obtain ⟨k, hk, rfl, hO, hbel⟩ := hrel
        by_cases hlt2 : k < n + 1
        · obtain ⟨g, rfl, hgw, u, hcu, hu⟩ := HOP.out i hlt
          have hcell : wr.cell? ⟨g, i, none⟩ = some u := (hbel.cell (p := ⟨g, i, none⟩) hgw).trans hcu
          have hk2 : (k : Int) < (n : Int) + 1 := by omega
          have HU : Hid (OwnI wr w.heap.size u (rowAt (rowsL n) i)) := ownI_below hu hbel
          have hlen : (rowAt (rowsL n) i).length = n := HFW.out.2 _ (rowAt_mem hlt)
          have HLEN : Hid ((rowAt (rowsL n) i).length = n) := hlen
          have HOW : Hid (OwnR wr w1.heap.size u3 (rowsTo n i ++ (List.range k).map (insR n (rowAt (rowsL n) i)))) := hO
          have HBL : Hid (Below w1.heap.size w1 wr) := hbel
          have HNX : Hid ((List.range (k+1)).map (insR n (rowAt (rowsL n) i)) = (List.range k).map (insR n (rowAt (rowsL n) i)) ++ [insR n (rowAt (rowsL n) i) k]) := range_map_succ k
          obtain ⟨a3, c3, rfl⟩ := hO.form
          have hDl : (rowsTo n i ++ (List.range k).map (insR n (rowAt (rowsL n) i))).length ≤ 1000 := by
            have h1 : (rowsTo n i).length ≤ (rowsL n).length * (n + 1) := by
              unfold rowsTo
              have : ∀ (X : List (List Int)), (X.flatMap fun r => (List.range (n+1)).map (insR n r)).length = X.length * (n+1) := fun X => by
                induction X with
                | nil => simp
                | cons a X ih => rw [List.flatMap_cons, List.length_append, ih, List.length_map, List.length_range, List.length_cons, Nat.succ_mul]; omega
              rw [this, List.length_take]
              exact Nat.mul_le_mul_right _ (Nat.min_le_right _ _)
            have h2 : (rowsL n).length * (n + 1) ≤ 24 * 4 := Nat.mul_le_mul hfew (by omega)
            rw [List.length_append, List.length_map, List.length_range]; omega
          obtain ⟨us, hul, hrow, hel⟩ := hO
          have HDL : Hid ((rowsTo n i ++ (List.range k).map (insR n (rowAt (rowsL n) i))).length ≤ 1000) := hDl
          have HFIN : Hid (∀ (v : Value) (w : World), OwnR w w1.heap.size v ((rowsTo n i ++ (List.range k).map (insR n (rowAt (rowsL n) i))) ++ [insR n (rowAt (rowsL n) i) k]) → OwnR w w1.heap.size v (rowsTo n i ++ (List.range (k+1)).map (insR n (rowAt (rowsL n) i)))) := fun v w h => by rw [HNX.out, ← List.append_assoc]; exact h
          have HUL : Hid (us.length = (rowsTo n i ++ (List.range k).map (insR n (rowAt (rowsL n) i))).length) := hul
          have HROW : Hid (wr.ownsRow w1.heap.size 22 1 (.slice a3 (rowsTo n i ++ (List.range k).map (insR n (rowAt (rowsL n) i))).length c3) (rowsTo n i ++ (List.range k).map (insR n (rowAt (rowsL n) i))).length us) := hrow
          have HEL : Hid (∀ j u, us[j]? = some u → OwnI wr w1.heap.size u (rowAt (rowsTo n i ++ (List.range k).map (insR n (rowAt (rowsL n) i))) j)) := hel
          clear hbel hcu hu hlen hul hrow hel hDl HOW HNX
          have hwr := HBL.out.size
          generalize rowsTo n i ++ (List.range k).map (insR n (rowAt (rowsL n) i)) = D at *
          go_wp2_with (first | (go_at_call 18; go_must (refine (rput_any _ (rowAt (rowsL n) i) k n _ _ HU.out (by rw [HLEN.out]; omega) (by rw [HLEN.out]; omega)).mono ?_; rintro e w2 ⟨u2, rfl, hO2, hb2⟩; obtain ⟨a2, m2, c2, rfl⟩ : ∃ a m c, u2 = .slice a m c := (ownI_form hO2).elim fun a h => h.elim fun c h => ⟨a, _, c, h⟩; have HO2 : Hid (OwnI w2 w1.heap.size (.slice a2 m2 c2) (insR n (rowAt (rowsL n) i) k)) := ownI_mono hO2 hwr; have HB2 : Hid (Below w1.heap.size w1 w2) := HBL.out.trans (hb2.mono hwr); have HR2 : Hid (w2.ownsRow w1.heap.size 22 1 (.slice a3 D.length c3) D.length us) := ownsRow_below HROW.out hb2; have HE2 : Hid (∀ j u, us[j]? = some u → OwnI w2 w1.heap.size u (rowAt D j)) := fun j u hj => ownI_below (HEL.out j u hj) hb2; have hs2 : w1.heap.size ≤ w2.heap.size := HB2.out.size; clear hO2 hb2)) | (at_builtin; go_must (refine wpList_append_own _ rfl _ _ 44 rfl w1.heap.size 22 i0 (.slice none 0 0) 1 24 Tryd.underlying44 HI.out.1 HI.out.2.1 HI.out.2.2.1 HI.out.2.2.2 rfl (by decide) _ D.length us rfl (World.ownsRow.alloc HR2.out _) ⟨w2.heap.size, 0, none⟩ 1 1 [.slice a2 m2 c2] rfl rfl (new_one _ _ _) (ownI_one HO2.out) (by have := HDL.out; unfold maxLen; omega) (by have := HDL.out; omega) (by simp; omega) ?_; intro v' w3 hown' hgrow _; have R := ownR_append HUL.out HR2.out HE2.out HO2.out HB2.out (Nat.le_refl _) hown' hgrow; clear hown' hgrow)))
          go_roundw
          case rel =>
            have hh : RKRel w1 n i v' (.int .i64 ((k : Int) + 1)) w3 := ⟨k + 1, by omega, by go_num, HFIN.out _ _ R.1, R.2⟩
            first | exact hh | ((repeat apply Exists.intro); exact ⟨hh, rfl⟩)
          case measure => simp [intOf]; omega
        · have hkn : k = n + 1 := by omega
          subst hkn
          have HR : Hid (RRRel w1 n u3 (.int .i64 ((i + 1 : Nat) : Int)) wr) := ⟨i + 1, by omega, rfl, by rw [rowsTo_succ hlt]; exact hO, hbel⟩
          clear hO hbel
          rw [show ((n + 1 : Nat) : Int) = (n : Int) + 1 by omega]
          go_wp2
          go_roundw
          case rel =>
            have hh := HR.out
            rw [show ((i + 1 : Nat) : Int) = (i : Int) + 1 by omega] at hh
            first | exact hh | ((repeat apply Exists.intro); exact ⟨hh, rfl⟩)
          case measure => simp [intOf]; omega
    · have hil : i = (rowsL n).length := by omega
      subst hil
      rw [rowsTo_all] at hO
      have HOW : Hid (OwnR wr w1.heap.size u3 (rowsL (n+1))) := hO
      have HBL : Hid (Below w1.heap.size w1 wr) := hbel
      clear hO hbel
      go_wp2
      go_ret
      exact ⟨_, rfl, HOW.out.mono hs1, HB1.out.trans (HBL.out.mono hs1)⟩
set_option maxHeartbeats 400000 in
theorem rrows_zero (w : World) : Calls Tryd.prog 20 #[.int .i64 0] w fun e w' => ∃ v', e = .returned v' ∧ OwnR w' w.heap.size v' [[]] ∧ Below w.heap.size w w' := by
  have HZ : Hid (OwnR (w.alloc (.cells #[.slice none 0 0] 22)) w.heap.size (.slice (some ⟨w.heap.size, 0, none⟩) 1 1) [[]]) := rows_zero w
  go_enter Tryd.func20, Tryd.ntmps20
  go_wp2
  go_ret
  exact ⟨_, rfl, HZ.out, (Below.refl _ w).alloc (Nat.le_refl _) _⟩
theorem rrows_any : ∀ (n : Nat), n ≤ 4 → ∀ w : World, Calls Tryd.prog 20 #[.int .i64 (n : Nat)] w fun e w' => ∃ v', e = .returned v' ∧ OwnR w' w.heap.size v' (rowsL n) ∧ Below w.heap.size w w'
  | 0, _, w => rrows_zero w
  | n + 1, h, w => rrows_succ n (by omega) w (rrows_any n (by omega))
end Go.Proofs.YtjafedijbainbaaDoor
