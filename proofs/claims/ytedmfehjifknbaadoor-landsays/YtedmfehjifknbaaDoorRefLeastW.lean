/- The walk of the document's answer: LeastCost. -/
import Derived.Test.YtedmfehjifknbaaDoorRefLeast
namespace Go.Proofs.YtedmfehjifknbaaDoor
set_option maxRecDepth 100000
open Go.RowKit Go.Sort

/-- A row of 64 numbers that tells T, in block g, from base on. -/
def IsRow (w : World) (base g : Nat) (T : Nat → Option Nat) : Prop := OwnI w base (.slice (some ⟨g, 0, none⟩) 64 64) (rowN T)
theorem IsRow.cell {w : World} {base g : Nat} {T : Nat → Option Nat} (h : IsRow w base g T) {m : Nat} (hm : m < 64) : w.cell? ⟨g, m, none⟩ = some (.int .i64 (vN (T m))) := by
  rw [OwnI.cellN h (rowN_length T) hm, rowN_get T hm]
theorem IsRow.soft {w : World} {base g : Nat} {T : Nat → Option Nat} (h : IsRow w base g T) (m : Nat) : w.frozen? ⟨g, m, none⟩ = false := OwnI.softN h (rowN_length T) m
theorem IsRow.off {w w0 : World} {g : Nat} {T : Nat → Option Nat} (h : IsRow w w0.heap.size g T) (hb : Below w0.heap.size w0 w) (j x : Nat) : IsRow (w.setCell ⟨g, j, none⟩ (.int .i64 (vN (minO (T j) x)))) w0.heap.size g (offN T j x) ∧ Below w0.heap.size w0 (w.setCell ⟨g, j, none⟩ (.int .i64 (vN (minO (T j) x)))) := by
  have := OwnI.storedN h (rowN_length T) hb j (vN (minO (T j) x))
  rw [rowN_set] at this
  exact this
theorem IsRow.drew {w : World} {base g : Nat} {T : Nat → Option Nat} (h : IsRow w base g T) : IsRow w.drew base g T := h
theorem vN_le {o : Option Nat} (h : ∀ x, o = some x → x ≤ 1000) : -1 ≤ vN o ∧ vN o ≤ 1000 := by
  cases o with
  | none => show -1 ≤ (-1 : Int) ∧ (-1 : Int) ≤ 1000; omega
  | some x => have := h x rfl; show -1 ≤ (x : Int) ∧ (x : Int) ≤ 1000; omega
theorem idx_room {s : Nat} {c : Int → Nat} {l : List Int} (hl : ∀ x, x ∈ l → 0 ≤ x ∧ x < 6) {n : Nat} (hn : n < l.length) {p : Nat} (hp : l[n]?.getD 0 = (p : Int)) {T : Nat → Option Nat} (h : Tab s c l n T) {m x : Nat} (hT : T m = some x) (hb : m / 2 ^ p % 2 = 0) (hr : cnt 16 m < s) : m + 2 ^ p < 64 := by
  have hA : allIn l := fun p hp => by have := hl p hp; omega
  have st := MStep.room (s := s) (c := c) (p := (p : Int)) (m := m) (x := x) (by rw [Int.toNat_natCast]; exact hb) hr
  rw [Int.toNat_natCast] at st
  exact can_64 hl ((can_succ hA hn).2 ⟨m, x, h.1 m x hT, by rw [hp]; exact st⟩)
theorem idx_goes {s : Nat} {c : Int → Nat} {l : List Int} (hl : ∀ x, x ∈ l → 0 ≤ x ∧ x < 6) {n : Nat} (hn : n < l.length) {p : Nat} (hp : l[n]?.getD 0 = (p : Int)) {T : Nat → Option Nat} (h : Tab s c l n T) {m x : Nat} (hT : T m = some x) (hb : m / 2 ^ p % 2 = 0) (hr : ¬ cnt 16 m < s) {q : Nat} (hq6 : q < 6) (hq : m / 2 ^ q % 2 = 1) : m - 2 ^ q + 2 ^ p < 64 ∧ 2 ^ q ≤ m := by
  have hA : allIn l := fun p hp => by have := hl p hp; omega
  have hcn := can_cnt hA (h.1 m x hT)
  have st := MStep.goes (s := s) (c := c) (p := (p : Int)) (m := m) (x := x) (q := q) (by rw [Int.toNat_natCast]; exact hb) (by omega) (by omega) hq
  rw [Int.toNat_natCast] at st
  refine ⟨can_64 hl ((can_succ hA hn).2 ⟨m, x, h.1 m x hT, by rw [hp]; exact st⟩), ?_⟩
  rcases Nat.lt_or_ge m (2 ^ q) with h1 | h1
  · rw [Nat.div_eq_of_lt h1] at hq; cases hq
  · exact h1
theorem pow_six {p : Nat} (h : p < 6) : 1 ≤ 2 ^ p ∧ 2 ^ p ≤ 32 := by
  rcases (by omega : p = 0 ∨ p = 1 ∨ p = 2 ∨ p = 3 ∨ p = 4 ∨ p = 5) with rfl | rfl | rfl | rfl | rfl | rfl <;> decide
theorem minO_le {o : Option Nat} {y : Nat} (h : ∀ x, o = some x → x ≤ 1000) (hy : y ≤ 1000) : ∀ x, minO o y = some x → x ≤ 1000 := fun x e => by
  cases o with
  | none => simp [minO] at e; omega
  | some z =>
    have := h z rfl
    simp only [minO] at e
    split at e <;> (simp at e; omega)
/-- What is known in the midst of a request. -/
structure Mid (w w3 wr : World) (gn gt : Nat) (T T' : Nat → Option Nat) (os : List (Nat × Nat)) : Prop where
  then_ : IsRow wr w3.heap.size gt T'
  made : MadeN os T'
  few : ∀ m x, T' m = some x → x ≤ 1000
  below : Below w3.heap.size w3 wr
theorem Mid.off {w w3 wr : World} {gn gt : Nat} {T T' : Nat → Option Nat} {os : List (Nat × Nat)} (h : Mid w w3 wr gn gt T T' os) {j x : Nat} (hx : x ≤ 1000) : Mid w w3 (wr.setCell ⟨gt, j, none⟩ (.int .i64 (vN (minO (T' j) x)))) gn gt T (offN T' j x) (os ++ [(j, x)]) := by
  have R := h.then_.off h.below j x
  refine ⟨R.1, madeN_off h.made j x, fun m y e => ?_, R.2⟩
  unfold offN at e
  split at e
  · exact minO_le (h.few j) hx y e
  · exact h.few m y e
theorem Mid.drew {w w3 wr : World} {gn gt : Nat} {T T' : Nat → Option Nat} {os : List (Nat × Nat)} (h : Mid w w3 wr gn gt T T' os) : Mid w w3 wr.drew gn gt T T' os := ⟨h.then_, h.made, h.few, h.below.drew⟩

def LCRel (w : World) (s : Nat) (c l : List Int) (vn i : Value) (wr : World) : Prop :=
  ∃ (k gn : Nat) (T : Nat → Option Nat), k ≤ l.length ∧ i = .int .i64 k ∧ vn = .slice (some ⟨gn, 0, none⟩) 64 64 ∧ IsRow wr w.heap.size gn T ∧ gn < wr.heap.size ∧ Tab s (cf c) l k T ∧ Below w.heap.size w wr

set_option maxHeartbeats 8000000 in
theorem refleast_any (v vc : Value) (l c : List Int) (s : Nat) (w : World) (hv : IsInts w v l) (hvc : IsInts w vc c) (hc0 : chkC l c s = 0) :
    Calls Tryd.prog 8 #[v, vc, .int .i64 s] w fun e w' => ∃ x : Nat, e = .returned (.int .i64 x) ∧ IsLeast s (cf c) l x ∧ Below w.heap.size w w' := by
  have F := chkC_zero hc0
  have hs1 : 1 ≤ s := by have := F.slots; omega
  have hs8 : s ≤ 8 := by have := F.slots; omega
  have hl40 := F.reqs
  have hc6 := F.costs
  have HF : Hid (FineC l c s) := F
  have HIN : Hid (∀ x, x ∈ l → 0 ≤ x ∧ x < 6) := by
    intro x hx
    obtain ⟨j, hj, e⟩ := List.getElem_of_mem hx
    have := F.page j hj
    rw [List.getElem?_eq_getElem hj, Option.getD_some, e] at this
    omega
  obtain ⟨ao, cap, rfl, hcap, ho⟩ := hv.opened
  obtain ⟨ac, cac, rfl, hcac, hoc⟩ := hvc.opened
  have HO : Hid (∀ k, k < l.length → ∃ b off, ao = some ⟨b, off, none⟩ ∧ l.length ≤ cap ∧ b < w.heap.size ∧ ∀ j, j < l.length → w.cell? ⟨b, off + j, none⟩ = some (.int .i64 (l[j]?.getD 0))) := ho
  have HOC : Hid (∀ k, k < c.length → ∃ b off, ac = some ⟨b, off, none⟩ ∧ c.length ≤ cac ∧ b < w.heap.size ∧ ∀ j, j < c.length → w.cell? ⟨b, off + j, none⟩ = some (.int .i64 (c[j]?.getD 0))) := hoc
  clear ho hoc hv hvc hc0 F
  unfold maxLen at hcap hcac
  have hmk := make64
  have HZ : Hid (OwnI (w.alloc (.cells (madeCells #[.int .i64 0] 64) 3)) w.heap.size (.slice (some ⟨w.heap.size, 0, none⟩) 64 64) (firstTo 0)) := by unfold Hid; rw [firstTo_zero]; exact zeros_new w
  have HB0 : Hid (Below w.heap.size w (w.alloc (.cells (madeCells #[.int .i64 0] 64) 3))) := (Below.refl _ w).alloc (Nat.le_refl _) _
  go_enter Tryd.func8, Tryd.ntmps8
  go_wp2
  go_loopw [8] (fun i wr => ∃ k : Nat, k ≤ 63 ∧ i = .int .i64 ((k + 1 : Nat) : Int) ∧ OwnI wr w.heap.size (.slice (some ⟨w.heap.size, 0, none⟩) 64 64) (firstTo k) ∧ Below w.heap.size w wr) (fun i _ => 64 - (intOf i).toNat)
  case atStart => exact ⟨0, by omega, rfl, HZ.out, HB0.out⟩
  case round =>
    obtain ⟨k, hk, rfl, hO, hb⟩ := hrel
    have HOW : Hid (OwnI wr w.heap.size (.slice (some ⟨w.heap.size, 0, none⟩) 64 64) (firstTo k)) := hO
    have HB : Hid (Below w.heap.size w wr) := hb
    rw [show ((k + 1 : Nat) : Int) = (k : Int) + 1 by omega]
    by_cases hlt : k < 63
    · have hcl := hO.cellN (firstTo_length hk) (j := k + 1) (by omega)
      have hfz := hO.softN (firstTo_length hk) (k + 1)
      have HL : Hid ((firstTo k).length = 64) := firstTo_length hk
      have HS : Hid ((firstTo k).set (k+1) (-1) = firstTo (k+1)) := firstTo_succ hlt
      have hk2 : ((k : Int) + 1).toNat = k + 1 := by omega
      have hk3 : (k : Int) + 1 < 64 := by omega
      clear hO hb
      generalize firstTo k = lk at *
      generalize lk[k+1]?.getD 0 = u at *
      go_wp2
      go_roundw
      case rel =>
        have R := HOW.out.storedN HL.out HB.out (k+1) (-1)
        exact ⟨k + 1, by omega, by go_num, by rw [← HS.out]; exact R.1, R.2⟩
      case measure => simp [intOf]; omega
    · have hk63 : k = 63 := by omega
      subst hk63
      have HR0 : Hid (LCRel w s c l (.slice (some ⟨w.heap.size, 0, none⟩) 64 64) (.int .i64 0) wr) := ⟨0, w.heap.size, T0, Nat.zero_le _, rfl, rfl, by unfold IsRow; rw [← firstTo_all]; exact HOW.out, by have := hb.size; have h2 := World.block_lt_of_cell? wr _ (hO.cellN (firstTo_length hk) (j := 0) (by omega)); exact h2, tab_start rfl (fun m hm => if_neg hm), HB.out⟩
      clear hO hb HOW HB HZ HB0
      go_wp2
      go_loopw [7, 9] (fun vn i wr => LCRel w s c l vn i wr) (fun _ i _ => l.length - (intOf i).toNat)
      case atStart => exact HR0.out
      case round =>
        clear HR0
        obtain ⟨k, gn, T, hk, rfl, rfl, hRow, hgn, hTab, hbel⟩ := hrel
        have hwr := hbel.size
        by_cases hlt : k < l.length
        · obtain ⟨br, off, rfl, hlc, hbw, hcell⟩ := HO.out k hlt
          have hck : wr.cell? ⟨br, off + k, none⟩ = some (.int .i64 (l[k]?.getD 0)) := (hbel.cell (by exact hbw)).trans (hcell k hlt)
          have hpg := HF.out.page k hlt
          obtain ⟨bc, offc, rfl, hlcc, hbcw, hcellc⟩ := HOC.out (l[k]?.getD 0).toNat (by omega)
          have hcc : wr.cell? ⟨bc, offc + (l[k]?.getD 0).toNat, none⟩ = some (.int .i64 (cf c (l[k]?.getD 0) : Nat)) := (hbel.cell (by exact hbcw)).trans (by rw [hcellc _ (by omega), cf_get HF.out (by omega)])
          have hcl := cf_le HF.out (l[k]?.getD 0)
          obtain ⟨pn, hpn⟩ : ∃ n : Nat, l[k]?.getD 0 = n := ⟨(l[k]?.getD 0).toNat, by omega⟩
          have HPN : Hid (l[k]?.getD 0 = (pn : Int)) := hpn
          rw [hpn] at hck hpg hcc hcl
          rw [Int.toNat_natCast] at hcc
          have hp6 : pn < 6 := by omega
          obtain ⟨cst, hcst⟩ : ∃ cst, cf c (pn : Int) = cst := ⟨_, rfl⟩
          rw [hcst] at hcc hcl
          have HCST : Hid (cst = cf c (pn : Int)) := hcst.symm
          have HTab : Hid (Tab s (cf c) l k T) := hTab
          have hT800 : ∀ m x, T m = some x → x ≤ 800 := fun m x e => by have := tab_most (cf_le HF.out) hTab m x e; omega
          have HT8 : Hid (∀ m x, T m = some x → x ≤ 800) := hT800
          have hbig := pow_six hp6
          have HRow : Hid (IsRow wr w.heap.size gn T) := hRow
          have HB : Hid (Below w.heap.size w wr) := hbel
          have HA1 : Hid (IsInts (wr.alloc (.cells #[.int .i64 (pn : Int)] 3)) (.slice (some ⟨wr.heap.size, 0, none⟩) 1 1) [(pn : Int)]) := isInts_new (l := [(pn : Int)]) (t := 3) (cur := #[.int .i64 (pn : Int)]) rfl (by simp) (heap_alloc_new _ _)
          obtain ⟨B, hBq⟩ : ∃ B, 2 ^ pn = B := ⟨_, rfl⟩
          rw [hBq] at hbig
          have HSET : Hid (setN [(pn : Int)] = B) := by unfold Hid; rw [← hBq]; simp [setN]
          have HBQ : Hid (2 ^ pn = B) := hBq
          clear hBq
          have HALL : Hid (allIn [(pn : Int)]) := fun q hq => by simp at hq; omega
          have c3r := (Lib.cell?_alloc_some (.cells #[.int .i64 (pn : Int)] 3) hcc)
          have HRow3 : Hid (IsRow (wr.alloc (.cells #[.int .i64 (pn : Int)] 3)) w.heap.size gn T) := World.ownsRow.alloc hRow _
          have HB3 : Hid (Below w.heap.size w (wr.alloc (.cells #[.int .i64 (pn : Int)] 3))) := hbel.alloc hwr _
          have HG3 : Hid (gn < (wr.alloc (.cells #[.int .i64 (pn : Int)] 3)).heap.size) := by unfold Hid; simp; omega
          clear hcell hcellc hbw hbcw hRow hTab hbel hpn hT800 hcst hgn
          go_wp2_with (go_at_call 17; go_must (refine (refset_any _ [(pn : Int)] _ HA1.out HALL.out (by simp)).mono ?_; rintro e w' ⟨rfl, hw⟩; have hw := hw.symm; subst hw; rw [HSET.out]))
          have HZ3 : Hid (OwnI ((wr.alloc (.cells #[.int .i64 (pn : Int)] 3)).alloc (.cells (madeCells #[.int .i64 0] 64) 3)) (wr.alloc (.cells #[.int .i64 (pn : Int)] 3)).heap.size (.slice (some ⟨(wr.alloc (.cells #[.int .i64 (pn : Int)] 3)).heap.size, 0, none⟩) 64 64) (negTo (List.replicate 64 0) 0)) := zeros_new _
          have hg3 : (wr.alloc (.cells #[.int .i64 (pn : Int)] 3)).heap.size = wr.heap.size + 1 := by simp
          rw [hg3] at HZ3 HG3
          have hB3 : Below (wr.heap.size + 1) (wr.alloc (.cells #[.int .i64 (pn : Int)] 3)) ((wr.alloc (.cells #[.int .i64 (pn : Int)] 3)).alloc (.cells (madeCells #[.int .i64 0] 64) 3)) := by have := (Below.refl _ (wr.alloc (.cells #[.int .i64 (pn : Int)] 3))).alloc (Nat.le_refl _) (.cells (madeCells #[.int .i64 0] 64) 3); rwa [hg3] at this
          have HBZ : Hid (Below (wr.heap.size + 1) (wr.alloc (.cells #[.int .i64 (pn : Int)] 3)) ((wr.alloc (.cells #[.int .i64 (pn : Int)] 3)).alloc (.cells (madeCells #[.int .i64 0] 64) 3))) := hB3
          have HS3 : Hid ((wr.alloc (.cells #[.int .i64 (pn : Int)] 3)).heap.size = wr.heap.size + 1) := hg3
          clear hB3 hg3 hck HA1 HSET HALL HRow HB
          generalize (wr.alloc (.cells #[.int .i64 (pn : Int)] 3)).alloc (.cells (madeCells #[.int .i64 0] 64) 3) = w4 at *
          generalize wr.alloc (.cells #[.int .i64 (pn : Int)] 3) = w3 at *
          generalize hgt : wr.heap.size + 1 = gt at *
          clear hgt
          obtain ⟨hB1, hB32⟩ := hbig
          have hBne : ¬ (B : Int) = 0 := by omega
          have hBne2 : ¬ B = 0 := by omega
          have hBne3 : ((B : Int) == 0) = false := beq_eq_false_iff_ne.2 (by omega)
          go_loopw [13] (fun i wr => ∃ j : Nat, j ≤ 64 ∧ i = .int .i64 (j : Int) ∧ OwnI wr gt (.slice (some ⟨gt, 0, none⟩) 64 64) (negTo (List.replicate 64 0) j) ∧ Below gt w3 wr) (fun i _ => 64 - (intOf i).toNat)
          case atStart => exact ⟨0, by omega, rfl, HZ3.out, HBZ.out⟩
          case round =>
            obtain ⟨j, hj, rfl, hO, hb⟩ := hrel
            have HOW : Hid (OwnI wr gt (.slice (some ⟨gt, 0, none⟩) 64 64) (negTo (List.replicate 64 0) j)) := hO
            have HB : Hid (Below gt w3 wr) := hb
            by_cases hlt2 : j < 64
            · have hln := negTo_length (a := List.replicate 64 (0 : Int)) (k := j) (by rw [List.length_replicate]; omega)
              rw [List.length_replicate] at hln
              have hcl2 := hO.cellN hln (j := j) hlt2
              have hfz := hO.softN hln j
              have HL : Hid ((negTo (List.replicate 64 (0 : Int)) j).length = 64) := hln
              have HS : Hid ((negTo (List.replicate 64 (0 : Int)) j).set j (-1) = negTo (List.replicate 64 0) (j+1)) := negTo_succ (by rw [List.length_replicate]; exact hlt2)
              clear hO hb hln
              generalize negTo (List.replicate 64 (0 : Int)) j = lk at *
              generalize lk[j]?.getD 0 = u at *
              go_wp2
              go_roundw
              case rel =>
                have HO2 := HOW.out
                have hBB := HB.out
                rw [← HS3.out] at HO2 hBB
                have R := HO2.storedN HL.out hBB j (-1)
                rw [HS3.out] at R
                exact ⟨j + 1, by omega, by go_num, by rw [← HS.out]; exact R.1, R.2⟩
              case measure => simp [intOf]; omega
            · have hj64 : j = 64 := by omega
              subst hj64
              rw [show ((64 : Nat) : Int) = 64 from rfl]
              rw [neg_all] at HOW
              have HM0 : Hid (Mid w w3 wr gn gt T (fun _ => none) (offsN T s pn cst 0)) := ⟨by rw [HS3.out]; exact HOW.out, madeN_none, fun _ _ h => (by cases h), by rw [HS3.out]; exact HB.out⟩
              clear hO hb HOW HB HZ3 HBZ
              go_wp2
              go_loopw [14] (fun i wr => ∃ (m : Nat) (T' : Nat → Option Nat), m ≤ 64 ∧ i = .int .i64 (m : Int) ∧ Mid w w3 wr gn gt T T' (offsN T s pn cst m)) (fun i _ => 64 - (intOf i).toNat)
              case atStart => exact ⟨0, _, by omega, rfl, HM0.out⟩
              case round =>
                clear HM0
                obtain ⟨m, T', hm, rfl, hM⟩ := hrel
                have HM : Hid (Mid w w3 wr gn gt T T' (offsN T s pn cst m)) := hM
                by_cases hlt3 : m < 64
                · have hnow : wr.cell? ⟨gn, m, none⟩ = some (.int .i64 (vN (T m))) := (hM.below.cell (by rw [HS3.out]; exact HG3.out)).trans (HRow3.out.cell hlt3)
                  have hcc2 : wr.cell? ⟨bc, offc + pn, none⟩ = some (.int .i64 (cst : Nat)) := (hM.below.cell (p := ⟨bc, offc + pn, none⟩) (World.block_lt_of_cell? w3 _ c3r)).trans c3r
                  have HOF : Hid (offsN T s pn cst (m+1) = offsN T s pn cst m ++ (match T m with | none => [] | some x => stepO s pn cst m x)) := rfl
                  cases hTm : T m with
                  | none =>
                    rw [hTm] at hnow HOF
                    have hnow2 : wr.cell? ⟨gn, m, none⟩ = some (.int .i64 (-1)) := hnow
                    clear hTm hM hnow
                    go_wp2
                    go_roundw
                    case rel => exact ⟨m + 1, T', by omega, by go_num, by rw [HOF.out, List.append_nil]; exact HM.out⟩
                    case measure => simp [intOf]; omega
                  | some x =>
                    have hx8 := HT8.out m x hTm
                    have HTM : Hid (T m = some x) := hTm
                    rw [hTm] at hnow HOF
                    have hnow2 : wr.cell? ⟨gn, m, none⟩ = some (.int .i64 (x : Nat)) := hnow
                    clear hnow
                    have HOF2 : Hid (offsN T s pn cst (m+1) = offsN T s pn cst m ++ stepO s pn cst m x) := HOF
                    clear HOF hTm
                    have hdiv : (m : Int) / (B : Int) = ((m / B : Nat) : Int) := by omega
                    have hqle : m / B ≤ m := Nat.div_le_self _ _
                    by_cases hb : m / B % 2 = 1
                    · have HST : Hid (stepO s pn cst m x = [(m, x)]) := by unfold Hid stepO; rw [HBQ.out, if_pos hb]
                      have hthen := hM.then_.cell hlt3
                      have hsoft := hM.then_.soft m
                      have HLS : Hid (∀ w, Calls Tryd.prog 18 #[.int .i64 (vN (T' m)), .int .i64 (x : Nat)] w fun e w' => e = .returned (.int .i64 (vN (minO (T' m) x))) ∧ w' = w) := fun w => lesser_any (T' m) x w
                      have HN : Hid (Mid w w3 (wr.setCell ⟨gt, m, none⟩ (.int .i64 (vN (minO (T' m) x)))).drew gn gt T (offN T' m x) (offsN T s pn cst (m+1))) := by unfold Hid; rw [HOF2.out, HST.out]; exact (HM.out.off (by omega)).drew
                      have hb2 : (((m / B : Nat) : Int)) % 2 = 1 := by omega
                      generalize m / B = q at *
                      generalize vN (minO (T' m) x) = u2 at *
                      generalize vN (T' m) = u1 at *
                      clear hM
                      go_wp2_with fail
                      go_region_with (go_at_call 18; go_must (refine (HLS.out _).mono ?_; rintro e w' ⟨rfl, hw⟩; have hw := hw.symm; subst hw))
                      all_goals
                        go_wp2
                        go_roundw
                        case rel => exact ⟨m + 1, offN T' m x, by omega, by go_num, HN.out⟩
                        case measure => simp [intOf]; omega
                    · have hb0 : m / B % 2 = 0 := by omega
                      have hb2 : (((m / B : Nat) : Int)) % 2 = 0 := by omega
                      have HB0 : Hid (m / 2 ^ pn % 2 = 0) := by unfold Hid; rw [HBQ.out]; exact hb0
                      have hcm := cnt_le 16 m
                      have HMY : Hid (∀ w, Calls Tryd.prog 19 #[.int .i64 (m : Nat)] w fun e w' => e = .returned (.int .i64 (cnt 16 m : Nat)) ∧ w' = w) := fun w => rmany_any m hlt3 w
                      by_cases hr : cnt 16 m < s
                      · have HST : Hid (stepO s pn cst m x = [(m + B, x + cst)]) := by unfold Hid stepO; rw [HBQ.out, if_neg hb, if_pos hr]
                        have hidx : m + B < 64 := by have := idx_room HIN.out hlt HPN.out HTab.out HTM.out HB0.out hr; rwa [HBQ.out] at this
                        have hw1 : IntKind.i64.wrap ((m : Int) + (B : Int)) = ((m + B : Nat) : Int) := by rw [IntKind.wrap_i64]; omega
                        have hw2 : IntKind.i64.wrap ((x : Int) + (cst : Int)) = ((x + cst : Nat) : Int) := by rw [IntKind.wrap_i64]; omega
                        have hxc : x + cst ≤ 1000 := by omega
                        have hrI : (cnt 16 m : Int) < (s : Int) := by omega
                        generalize m + B = j at *
                        generalize x + cst = y at *
                        have hthen := hM.then_.cell hidx
                        have hsoft := hM.then_.soft j
                        have HLS : Hid (∀ w, Calls Tryd.prog 18 #[.int .i64 (vN (T' j)), .int .i64 (y : Int)] w fun e w' => e = .returned (.int .i64 (vN (minO (T' j) y))) ∧ w' = w) := fun w => lesser_any (T' j) y w
                        have HN : Hid (Mid w w3 (wr.setCell ⟨gt, j, none⟩ (.int .i64 (vN (minO (T' j) y)))).drew gn gt T (offN T' j y) (offsN T s pn cst (m+1))) := by unfold Hid; rw [HOF2.out, HST.out]; exact (HM.out.off hxc).drew
                        generalize m / B = q at *
                        generalize vN (minO (T' j) y) = u2 at *
                        generalize vN (T' j) = u1 at *
                        generalize cnt 16 m = cm at *
                        clear hM
                        go_wp2_with (go_at_call 19; go_must (refine (HMY.out _).mono ?_; rintro e w' ⟨rfl, hw⟩; have hw := hw.symm; subst hw))
                        go_region_with (go_at_call 18; go_must (refine (HLS.out _).mono ?_; rintro e w' ⟨rfl, hw⟩; have hw := hw.symm; subst hw))
                        all_goals
                          go_wp2
                          go_roundw
                          case rel => exact ⟨m + 1, offN T' j y, by omega, by go_num, HN.out⟩
                          case measure => simp [intOf]; omega
                      · have HST : Hid (stepO s pn cst m x = goesO m pn cst x 6) := by unfold Hid stepO; rw [HBQ.out, if_neg hb, if_neg hr]
                        have HIX : Hid (∀ q, q < 6 → m / 2 ^ q % 2 = 1 → m - 2 ^ q + B < 64 ∧ 2 ^ q ≤ m) := fun q hq hq2 => by have := idx_goes HIN.out hlt HPN.out HTab.out HTM.out HB0.out hr hq hq2; rwa [HBQ.out] at this
                        have hrI : ¬ (cnt 16 m : Int) < (s : Int) := by omega
                        have hw2 : IntKind.i64.wrap ((x : Int) + (cst : Int)) = ((x + cst : Nat) : Int) := by rw [IntKind.wrap_i64]; omega
                        have hxc : x + cst ≤ 1000 := by omega
                        have HGO : Hid (∀ k, goesO m pn cst x (k+1) = if m / 2 ^ k % 2 = 1 then goesO m pn cst x k ++ [(m - 2 ^ k + B, x + cst)] else goesO m pn cst x k) := fun k => by rw [← HBQ.out]; rfl
                        generalize x + cst = y at *
                        have HM1 : Hid (Mid w w3 wr gn gt T T' (offsN T s pn cst m ++ goesO m pn cst x 0)) := by unfold Hid; rw [show goesO m pn cst x 0 = [] from rfl, List.append_nil]; exact HM.out
                        have HC3 : Hid (w3.cell? ⟨bc, offc + pn, none⟩ = some (.int .i64 (cst : Nat))) := c3r
                        have HN3 : Hid (w3.cell? ⟨gn, m, none⟩ = some (.int .i64 (x : Nat))) := by have := HRow3.out.cell hlt3; rw [HTM.out] at this; exact this
                        generalize m / B = q at *
                        generalize cnt 16 m = cm at *
                        clear hM c3r
                        go_wp2_with (go_at_call 19; go_must (refine (HMY.out _).mono ?_; rintro e w' ⟨rfl, hw⟩; have hw := hw.symm; subst hw))
                        clear hnow2 hcc2
                        go_loopw [15, 16] (fun vq vk wr => ∃ (k : Nat) (T' : Nat → Option Nat), k ≤ 6 ∧ vk = .int .i64 (k : Int) ∧ vq = .int .i64 ((2 ^ k : Nat) : Int) ∧ Mid w w3 wr gn gt T T' (offsN T s pn cst m ++ goesO m pn cst x k)) (fun _ vk _ => 6 - (intOf vk).toNat)
                        case atStart => exact ⟨0, T', by omega, rfl, rfl, HM1.out⟩
                        case round =>
                          clear HM1 HM
                          obtain ⟨t, T', ht, rfl, rfl, hM⟩ := hrel
                          have HM : Hid (Mid w w3 wr gn gt T T' (offsN T s pn cst m ++ goesO m pn cst x t)) := hM
                          have hnow2 : wr.cell? ⟨gn, m, none⟩ = some (.int .i64 (x : Nat)) := (hM.below.cell (by rw [HS3.out]; exact HG3.out)).trans HN3.out
                          have hcc2 : wr.cell? ⟨bc, offc + pn, none⟩ = some (.int .i64 (cst : Nat)) := (hM.below.cell (p := ⟨bc, offc + pn, none⟩) (World.block_lt_of_cell? w3 _ HC3.out)).trans HC3.out
                          by_cases ht6 : t < 6
                          · have hQ := pow_six ht6
                            have HGT := HGO.out t
                            have hIX := HIX.out t ht6
                            have H2 : Hid (2 ^ (t+1) = 2 ^ t * 2) := Nat.pow_succ ..
                            generalize 2 ^ t = Q at *
                            obtain ⟨hQ1, hQ32⟩ := hQ
                            have hQne : ¬ (Q : Int) = 0 := by omega
                            have hQne3 : ((Q : Int) == 0) = false := beq_eq_false_iff_ne.2 (by omega)
                            have hdivQ : (m : Int) / (Q : Int) = ((m / Q : Nat) : Int) := by omega
                            have hqleQ : m / Q ≤ m := Nat.div_le_self _ _
                            by_cases hbt : m / Q % 2 = 1
                            · obtain ⟨hix, hQm⟩ := hIX hbt
                              rw [if_pos hbt] at HGT
                              have HG : Hid (goesO m pn cst x (t+1) = goesO m pn cst x t ++ [(m - Q + B, y)]) := HGT
                              have hwa : IntKind.i64.wrap ((m : Int) - (Q : Int)) = ((m - Q : Nat) : Int) := by rw [IntKind.wrap_i64]; omega
                              have hwb : IntKind.i64.wrap (((m - Q : Nat) : Int) + (B : Int)) = ((m - Q + B : Nat) : Int) := by rw [IntKind.wrap_i64]; omega
                              have hbt2 : (((m / Q : Nat) : Int)) % 2 = 1 := by omega
                              clear HGT hIX hbt
                              generalize m - Q + B = j at *
                              generalize m - Q = d at *
                              have hthen := hM.then_.cell hix
                              have hsoft := hM.then_.soft j
                              have HLS : Hid (∀ w, Calls Tryd.prog 18 #[.int .i64 (vN (T' j)), .int .i64 (y : Int)] w fun e w' => e = .returned (.int .i64 (vN (minO (T' j) y))) ∧ w' = w) := fun w => lesser_any (T' j) y w
                              have HN : Hid (Mid w w3 (wr.setCell ⟨gt, j, none⟩ (.int .i64 (vN (minO (T' j) y)))).drew gn gt T (offN T' j y) (offsN T s pn cst m ++ goesO m pn cst x (t+1))) := by unfold Hid; rw [HG.out, ← List.append_assoc]; exact (HM.out.off hxc).drew
                              generalize m / Q = qq at *
                              generalize vN (minO (T' j) y) = u2 at *
                              generalize vN (T' j) = u1 at *
                              clear hM
                              go_wp2_with fail
                              go_region_with (go_at_call 18; go_must (refine (HLS.out _).mono ?_; rintro e w' ⟨rfl, hw⟩; have hw := hw.symm; subst hw))
                              all_goals
                                go_wp2
                                go_roundw
                                case rel => exact ⟨t + 1, offN T' j y, by omega, by go_num, by rw [H2.out]; go_num, HN.out⟩
                                case measure => simp [intOf]; omega
                            · rw [if_neg hbt] at HGT
                              have HG : Hid (goesO m pn cst x (t+1) = goesO m pn cst x t) := HGT
                              have hbt2 : (((m / Q : Nat) : Int)) % 2 = 0 := by omega
                              clear HGT hIX hbt hM
                              generalize m / Q = qq at *
                              go_wp2
                              go_roundw
                              case rel => exact ⟨t + 1, T', by omega, by go_num, by rw [H2.out]; go_num, by rw [HG.out]; exact HM.out⟩
                              case measure => simp [intOf]; omega
                          · have ht6' : t = 6 := by omega
                            subst ht6'
                            clear hM
                            go_wp2
                            go_roundw
                            case rel => exact ⟨m + 1, T', by omega, by go_num, by rw [HOF2.out, HST.out]; exact HM.out⟩
                            case measure => simp [intOf]; omega
                · have hm64 : m = 64 := by omega
                  subst hm64
                  have hgt2 : gt < wr.heap.size := World.block_lt_of_cell? wr _ (hM.then_.cell (m := 0) (by omega))
                  have HR1 : Hid (LCRel w s c l (.slice (some ⟨gt, 0, none⟩) 64 64) (.int .i64 ((k + 1 : Nat) : Int)) wr) := ⟨k + 1, gt, T', by omega, rfl, rfl, ownI_mono hM.then_ HB3.out.size, hgt2, tab_made HIN.out hlt HPN.out HCST.out HTab.out hM.made, HB3.out.trans (hM.below.mono HB3.out.size)⟩
                  clear hM HM
                  rw [show ((64 : Nat) : Int) = 64 from rfl]
                  go_wp2
                  go_roundw
                  case rel =>
                    have hh := HR1.out
                    rw [show ((k + 1 : Nat) : Int) = (k : Int) + 1 by omega] at hh
                    (repeat apply Exists.intro)
                    exact ⟨hh, rfl⟩
                  case measure => simp [intOf]; omega
        · have hkl : k = l.length := by omega
          subst hkl
          obtain ⟨low, hlow, hleast⟩ := low_least hs1 HIN.out hTab
          have HLOW : Hid (lowN T 64 = some low) := hlow
          have HLEAST : Hid (IsLeast s (cf c) l low) := hleast
          have HRow : Hid (IsRow wr w.heap.size gn T) := hRow
          have HB : Hid (Below w.heap.size w wr) := hbel
          clear hlow hleast hRow hTab hbel
          go_wp2
          go_loopw [17, 18] (fun v i wr => ∃ j : Nat, j ≤ 64 ∧ i = .int .i64 (j : Int) ∧ v = .int .i64 (vN (lowN T j)) ∧ IsRow wr w.heap.size gn T ∧ Below w.heap.size w wr) (fun _ i _ => 64 - (intOf i).toNat)
          case atStart => exact ⟨0, by omega, rfl, rfl, HRow.out, HB.out⟩
          case round =>
            obtain ⟨j, hj, rfl, rfl, hR, hb⟩ := hrel
            have HR2 : Hid (IsRow wr w.heap.size gn T) := hR
            have HB2 : Hid (Below w.heap.size w wr) := hb
            by_cases hlt2 : j < 64
            · have hcl := hR.cell hlt2
              have HLN : Hid (lowN T (j+1) = match T j with | none => lowN T j | some x => minO (lowN T j) x) := rfl
              clear hR hb
              cases hTj : T j with
              | none =>
                rw [hTj] at hcl HLN
                have hcl2 : wr.cell? ⟨gn, j, none⟩ = some (.int .i64 (-1)) := hcl
                have HLN2 : Hid (lowN T (j+1) = lowN T j) := HLN
                clear hcl HLN hTj
                generalize hu : vN (lowN T j) = u at *
                have HU : Hid (vN (lowN T j) = u) := hu
                clear hu
                go_wp2
                go_roundw
                case rel => exact ⟨j + 1, by omega, by go_num, by rw [HLN2.out, HU.out], HR2.out, HB2.out⟩
                case measure => simp [intOf]; omega
              | some x =>
                rw [hTj] at hcl HLN
                have hcl2 : wr.cell? ⟨gn, j, none⟩ = some (.int .i64 (x : Nat)) := hcl
                have HLN2 : Hid (lowN T (j+1) = minO (lowN T j) x) := HLN
                have HLS : Hid (∀ w, Calls Tryd.prog 18 #[.int .i64 (vN (lowN T j)), .int .i64 (x : Nat)] w fun e w' => e = .returned (.int .i64 (vN (lowN T (j+1)))) ∧ w' = w) := fun w => by rw [HLN2.out]; exact lesser_any (lowN T j) x w
                clear hcl HLN hTj HLN2
                generalize hu2 : vN (lowN T (j+1)) = u2 at *
                have HU2 : Hid (vN (lowN T (j+1)) = u2) := hu2
                clear hu2
                generalize vN (lowN T j) = u1 at *
                go_wp2_with (go_at_call 18; go_must (refine (HLS.out _).mono ?_; rintro e w' ⟨rfl, hw⟩; have hw := hw.symm; subst hw))
                go_roundw
                case rel =>
                  (repeat apply Exists.intro)
                  refine ⟨?_, rfl⟩
                  exact ⟨j + 1, by omega, by go_num, by rw [HU2.out], HR2.out, HB2.out⟩
                case measure => simp [intOf]; omega
            · have hj64 : j = 64 := by omega
              subst hj64
              rw [HLOW.out]
              rw [show ((64 : Nat) : Int) = 64 from rfl]
              clear hR hb
              rw [show vN (some low) = (low : Int) from rfl]
              go_wp2
              go_ret
              exact ⟨low, rfl, HLEAST.out, HB2.out⟩
end Go.Proofs.YtedmfehjifknbaaDoor
