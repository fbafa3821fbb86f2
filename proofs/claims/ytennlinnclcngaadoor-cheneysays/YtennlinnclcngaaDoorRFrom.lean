/- The walk of the document's From (larderwickref2): all that can be come to, breadth first. -/
import Derived.Test.YtennlinnclcngaaDoorHeapI
import Derived.Test.YtennlinnclcngaaDoorBfsL
import Derived.Test.YtennlinnclcngaaDoorHas
import Derived.Laws.AppendOwn
namespace Go.Proofs.YtennlinnclcngaaDoor
set_option maxRecDepth 100000
open Go.RowKit Go.Sort

set_option maxHeartbeats 4000000 in
theorem rfrom_any (vo vl : Value) (L : List (List Int)) (R S : List Int) (w : World) (ho : IsRows w vo L) (hl : IsInts w vl S) (hf : FineH L R) (hS : ∀ x, x ∈ S → 0 ≤ x ∧ x < L.length) :
    Calls Tryd.prog 5 #[vo, vl] w fun e w' => ∃ v', e = .returned v' ∧ ∃ A, OwnI w' w.heap.size v' A ∧ Hid (IsFrom (gOf L) S A) ∧ Below w.heap.size w w' := by
  obtain ⟨ao, co, rfl⟩ := ho.form
  have HO : Hid (IsRows w (.slice ao L.length co) L) := ho
  have HF : Hid (FineH L R) := hf
  have HS : Hid (∀ x, x ∈ S → 0 ≤ x ∧ x < L.length) := hS
  have hl12 := hf.few
  obtain ⟨al, cl, rfl, hcl, hlo⟩ := hl.opened
  have HLO : Hid (∀ k, k < S.length → ∃ b off, al = some ⟨b, off, none⟩ ∧ S.length ≤ cl ∧ b < w.heap.size ∧ ∀ j, j < S.length → w.cell? ⟨b, off + j, none⟩ = some (.int .i64 (S[j]?.getD 0))) := hlo
  have hsm : S.length ≤ 9223372036854775807 := by
    by_cases h : 0 < S.length
    · obtain ⟨_, _, _, h2, _⟩ := hlo 0 h
      unfold maxLen at hcl; omega
    · omega
  unfold maxLen at hcl
  obtain ⟨i0, hi, hz0, hz1, hz2⟩ := info_parts Tryd.info3
  have HI : Hid (Tryd.prog.info? 3 = some i0 ∧ i0.zero = some (.int .i64 0) ∧ i0.size = 1 ∧ i0.bytes = 8) := ⟨hi, hz0, hz1, hz2⟩
  clear ho hl hf hS hlo hi hz0 hz1 hz2
  go_enter Tryd.func5, Tryd.ntmps5
  go_wp2
  go_loopw [5, 6] (fun fv i wr => ∃ k : Nat, k ≤ S.length ∧ i = .int .i64 (k : Nat) ∧ OwnI wr w.heap.size fv (addNew [] (S.take k)) ∧ Below w.heap.size w wr) (fun _ i _ => S.length - (intOf i).toNat)
  case atStart => exact ⟨0, Nat.zero_le _, rfl, OwnI.nil _ _, Below.refl _ _⟩
  case round =>
    obtain ⟨k, hk, rfl, hO, hbel⟩ := hrel
    have HA : Hid (OwnI wr w.heap.size u5 (addNew [] (S.take k))) := hO
    have HBE : Hid (Below w.heap.size w wr) := hbel
    have hws := hbel.size
    clear hO hbel
    by_cases hlt : k < S.length
    · have hlt' : (k : Int) < (S.length : Int) := by omega
      obtain ⟨b, off, rfl, hlc, hbs, hcell⟩ := HLO.out k hlt
      have hck : wr.cell? ⟨b, off + k, none⟩ = some (.int .i64 (S[k]?.getD 0)) := (HBE.out.cell (by exact hbs)).trans (hcell k hlt)
      have HSU : Hid (addNew [] (S.take (k+1)) = if (addNew [] (S.take k)).contains (S[k]?.getD 0) then addNew [] (S.take k) else addNew [] (S.take k) ++ [S[k]?.getD 0]) := addNew_take hlt
      have hfew : (addNew [] (S.take k)).length ≤ L.length := addNew_few (by simp) (by simp) fun x hx => HS.out x (List.mem_of_mem_take hx)
      clear hcell hbs
      generalize S[k]?.getD 0 = x at *
      generalize hA2 : addNew [] (S.take (k+1)) = A2 at *
      have HA2 : Hid (addNew [] (S.take (k+1)) = A2) := hA2
      clear hA2
      generalize addNew [] (S.take k) = A at *
      cases hc : A.contains x with
      | true =>
        have HC : Hid (A.contains x = true) := hc
        have HE : Hid (A2 = A) := by unfold Hid; rw [HSU.out, hc]; rfl
        clear hc
        go_wp2_with (go_at_call 12; go_must (refine (has_any _ A x _ HA.out.isInts).mono ?_; rintro e w' ⟨rfl, hw⟩; have hw := hw.symm; subst hw; rw [HC.out]))
        go_roundw
        case rel => exact ⟨k + 1, by omega, by go_num, by rw [HA2.out, HE.out]; exact HA.out, HBE.out⟩
        case measure => simp [intOf]; omega
      | false =>
        have HC : Hid (A.contains x = false) := hc
        have HE : Hid (A2 = A ++ [x]) := by unfold Hid; rw [HSU.out, hc]; rfl
        clear hc
        go_wp2_with (first | (go_at_call 12; go_must (refine (has_any _ A x _ HA.out.isInts).mono ?_; rintro e w' ⟨rfl, hw⟩; have hw := hw.symm; subst hw; rw [HC.out])) | (at_builtin; go_must (refine wpList_append_own _ rfl _ _ 23 rfl w.heap.size 3 i0 (.int .i64 0) 1 8 Tryd.underlying23 HI.out.1 HI.out.2.1 HI.out.2.2.1 HI.out.2.2.2 rfl (by decide) _ A.length (A.map (Value.int .i64)) rfl (World.ownsRow.alloc (HA.out.rows rfl rfl) _) ⟨wr.heap.size, 0, none⟩ 1 1 [.int .i64 x] rfl rfl (by exact new_one _ _ _) (one_cell _) (by unfold maxLen; omega) (by omega) (by simp; omega) ?_; intro vo' w1 hown' hgrow _; have HOW := own_append HA.out HBE.out (Nat.le_refl _) hown' hgrow; have HOW := And.intro (show Hid _ from HOW.1) (show Hid _ from HOW.2); clear hown' hgrow)))
        go_roundw
        case rel => exact ⟨k + 1, by omega, by go_num, by rw [HA2.out, HE.out]; exact HOW.1.out, HOW.2.out⟩
        case measure => simp [intOf]; omega
    · have hlt' : ¬ (k : Int) < (S.length : Int) := by omega
      have HA0 : Hid (OwnI wr w.heap.size u5 (bfsA (gOf L) S 0)) := by have := HA.out; rwa [List.take_of_length_le (by omega)] at this
      clear HA HLO
      go_wp2
      obtain ⟨wA, hwA⟩ : ∃ wA, wA = wr := ⟨_, rfl⟩
      subst hwA
      go_loopw [5, 7] (fun fv i wr => ∃ k : Nat, Hid (Ahead (gOf L) S k) ∧ k ≤ (bfsA (gOf L) S k).length ∧ i = .int .i64 (k : Nat) ∧ OwnI wr w.heap.size fv (bfsA (gOf L) S k) ∧ Below w.heap.size w wr) (fun _ i _ => L.length - (intOf i).toNat)
      case atStart => exact ⟨0, fun j hj => absurd hj (Nat.not_lt_zero _), Nat.zero_le _, rfl, HA0.out, HBE.out⟩
      case round =>
        obtain ⟨t, HAH, ht, rfl, hO, hbel⟩ := hrel
        clear HA0 HBE
        obtain ⟨hfew, hin⟩ := bfs_few HF.out HS.out HAH.out
        have HIN : Hid (∀ x, x ∈ bfsA (gOf L) S t → 0 ≤ x ∧ x < L.length) := hin
        have HND : Hid ((bfsA (gOf L) S t).Nodup) := (bfs_found t HAH.out).nodup
        have HNX : Hid (t < (bfsA (gOf L) S t).length → Ahead (gOf L) S (t+1) ∧ bfsA (gOf L) S (t+1) = addNew (bfsA (gOf L) S t) (gOf L ((bfsA (gOf L) S t)[t]?.getD 0))) := bfs_next HAH.out
        have HEN : Hid (¬ t < (bfsA (gOf L) S t).length → IsFrom (gOf L) S (bfsA (gOf L) S t)) := fun h => ⟨t, HAH.out, by omega, rfl⟩
        have HLT : Hid (t < (bfsA (gOf L) S t).length → t + 1 ≤ (bfsA (gOf L) S (t+1)).length) := fun h => (bfs_found (t+1) (bfs_next HAH.out h).1).le
        generalize hB2 : bfsA (gOf L) S (t+1) = B2 at *
        have HB2 : Hid (bfsA (gOf L) S (t+1) = B2) := hB2
        clear hB2 hin
        generalize bfsA (gOf L) S t = B at *
        obtain ⟨bo, cb, rfl, hcb, hbo⟩ := hO.isInts.opened
        have HA : Hid (OwnI wr w.heap.size (.slice bo B.length cb) B) := hO
        have HBE : Hid (Below w.heap.size w wr) := hbel
        have hws := hbel.size
        clear hO hbel
        unfold maxLen at hcb
        by_cases hlt : t < B.length
        · have hlt' : (t : Int) < (B.length : Int) := by omega
          obtain ⟨b, off, rfl, hlc, hbs, hcell⟩ := hbo t hlt
          have hck0 := hcell t hlt
          have hxm := HIN.out (B[t]?.getD 0) (by rw [List.getElem?_eq_getElem hlt]; exact List.getElem_mem _)
          obtain ⟨hah, hb2⟩ := HNX.out hlt
          have hle2 := HLT.out hlt
          obtain ⟨x, hx⟩ : ∃ x : Nat, B[t]?.getD 0 = x := ⟨(B[t]?.getD 0).toNat, by omega⟩
          rw [hx] at hck0 hxm hb2
          rw [gOf_at] at hb2
          have hxl : x < L.length := by omega
          have hxl' : (x : Int) < (L.length : Int) := by omega
          have hx0 : (0 : Int) ≤ (x : Int) := by omega
          obtain ⟨bq, oq, rfl, hlcq, hbsq, au, cu, hcu0, hiu, hmm, hcum⟩ := HO.out.at hxl
          have hcu : wr.cell? ⟨bq, oq + x, none⟩ = some (.slice au (rowAt L x).length cu) := (HBE.out.cell (by exact hbsq)).trans hcu0
          obtain ⟨_, _, eu, _, hUo⟩ := hiu.opened
          simp only [Value.slice.injEq] at eu
          obtain ⟨rfl, _, rfl⟩ := eu
          have HUO : Hid (∀ k, k < (rowAt L x).length → ∃ b off, au = some ⟨b, off, none⟩ ∧ (rowAt L x).length ≤ cu ∧ b < w.heap.size ∧ ∀ j, j < (rowAt L x).length → w.cell? ⟨b, off + j, none⟩ = some (.int .i64 ((rowAt L x)[j]?.getD 0))) := hUo
          have HRN : Hid (∀ y, y ∈ rowAt L x → 0 ≤ y ∧ y < L.length) := HF.out.node _ (rowAt_mem hxl)
          have HB3 : Hid (B2 = addNew B (rowAt L x)) := hb2
          have HAH2 : Hid (Ahead (gOf L) S (t+1)) := hah
          have hr4 : (rowAt L x).length ≤ 4 := HF.out.outs _ (rowAt_mem hxl)
          clear hcell hcu0 hx hiu hUo hah hb2 HNX HEN HLT hbo hbs hbsq hxm HAH
          go_wp2
          clear hck0 hcu
          obtain ⟨wB, hwB⟩ : ∃ wB, wB = wr := ⟨_, rfl⟩
          subst hwB
          go_loopw [5, 9] (fun fv i wr => ∃ j : Nat, j ≤ (rowAt L x).length ∧ i = .int .i64 (j : Nat) ∧ OwnI wr w.heap.size fv (addNew B ((rowAt L x).take j)) ∧ Below w.heap.size w wr) (fun _ i _ => (rowAt L x).length - (intOf i).toNat)
          case atStart => exact ⟨0, Nat.zero_le _, rfl, HA.out, HBE.out⟩
          case round =>
            obtain ⟨j, hj, rfl, hO, hbel⟩ := hrel
            clear HA HBE
            have HA : Hid (OwnI wr w.heap.size u5 (addNew B ((rowAt L x).take j))) := hO
            have HBE : Hid (Below w.heap.size w wr) := hbel
            have hws := hbel.size
            clear hO hbel
            by_cases hjt : j < (rowAt L x).length
            · have hjt' : (j : Int) < ((rowAt L x).length : Int) := by omega
              obtain ⟨b, off, rfl, hlc, hbs, hcell⟩ := HUO.out j hjt
              have hck : wr.cell? ⟨b, off + j, none⟩ = some (.int .i64 ((rowAt L x)[j]?.getD 0)) := (HBE.out.cell (by exact hbs)).trans (hcell j hjt)
              have HSU : Hid (addNew B ((rowAt L x).take (j+1)) = if (addNew B ((rowAt L x).take j)).contains ((rowAt L x)[j]?.getD 0) then addNew B ((rowAt L x).take j) else addNew B ((rowAt L x).take j) ++ [(rowAt L x)[j]?.getD 0]) := addNew_take hjt
              have hfew2 : (addNew B ((rowAt L x).take j)).length ≤ L.length := addNew_few HND.out HIN.out fun y hy => HRN.out y (List.mem_of_mem_take hy)
              clear hcell hbs
              generalize (rowAt L x)[j]?.getD 0 = y at *
              generalize hA2 : addNew B ((rowAt L x).take (j+1)) = A2 at *
              have HA2 : Hid (addNew B ((rowAt L x).take (j+1)) = A2) := hA2
              clear hA2
              generalize addNew B ((rowAt L x).take j) = A at *
              cases hc : A.contains y with
              | true =>
                have HC : Hid (A.contains y = true) := hc
                have HE : Hid (A2 = A) := by unfold Hid; rw [HSU.out, hc]; rfl
                clear hc
                go_wp2_with (go_at_call 12; go_must (refine (has_any _ A y _ HA.out.isInts).mono ?_; rintro e w' ⟨rfl, hw⟩; have hw := hw.symm; subst hw; rw [HC.out]))
                go_roundw
                case rel => exact ⟨j + 1, by omega, by go_num, by rw [HA2.out, HE.out]; exact HA.out, HBE.out⟩
                case measure => simp [intOf]; omega
              | false =>
                have HC : Hid (A.contains y = false) := hc
                have HE : Hid (A2 = A ++ [y]) := by unfold Hid; rw [HSU.out, hc]; rfl
                clear hc
                go_wp2_with (first | (go_at_call 12; go_must (refine (has_any _ A y _ HA.out.isInts).mono ?_; rintro e w' ⟨rfl, hw⟩; have hw := hw.symm; subst hw; rw [HC.out])) | (at_builtin; go_must (refine wpList_append_own _ rfl _ _ 23 rfl w.heap.size 3 i0 (.int .i64 0) 1 8 Tryd.underlying23 HI.out.1 HI.out.2.1 HI.out.2.2.1 HI.out.2.2.2 rfl (by decide) _ A.length (A.map (Value.int .i64)) rfl (World.ownsRow.alloc (HA.out.rows rfl rfl) _) ⟨wr.heap.size, 0, none⟩ 1 1 [.int .i64 y] rfl rfl (by exact new_one _ _ _) (one_cell _) (by unfold maxLen; omega) (by omega) (by simp; omega) ?_; intro vo' w1 hown' hgrow _; have HOW := own_append HA.out HBE.out (Nat.le_refl _) hown' hgrow; have HOW := And.intro (show Hid _ from HOW.1) (show Hid _ from HOW.2); clear hown' hgrow)))
                go_roundw
                case rel => exact ⟨j + 1, by omega, by go_num, by rw [HA2.out, HE.out]; exact HOW.1.out, HOW.2.out⟩
                case measure => simp [intOf]; omega
            · have hjt' : ¬ (j : Int) < ((rowAt L x).length : Int) := by omega
              have HA3 : Hid (OwnI wr w.heap.size u5 B2) := by have := HA.out; rw [List.take_of_length_le (by omega), ← HB3.out] at this; exact this
              clear HA
              go_wp2
              go_roundw
              case rel => exact ⟨t + 1, HAH2, by rw [HB2.out]; exact hle2, by go_num, by rw [HB2.out]; exact HA3.out, HBE.out⟩
              case measure => simp [intOf]; omega
        · have hlt' : ¬ (t : Int) < (B.length : Int) := by omega
          have HFR : Hid (IsFrom (gOf L) S B) := HEN.out (by omega)
          go_wp2
          go_ret
          exact ⟨_, rfl, B, HA.out, HFR, HBE.out⟩
end Go.Proofs.YtennlinnclcngaaDoor
