/- The walks of New and of Free. -/
import Derived.Test.YtmmeapaakdaemaaDoorBBack
import Derived.WideMake
namespace Go.Proofs.YtmmeapaakdaemaaDoor
open Go.RowKit Go.Maps Go.Sort

set_option maxHeartbeats 1000000 in
theorem new_any (H : Type) (w : World) :
    Calls Tryd.prog 17 #[] w fun e w' => ∃ a b, e = .returned (.pointer (some ⟨a, 0, none⟩)) ∧ Arena H w' w.heap.size a b [] ∧ Below w.heap.size w w' := by
  have hmk : ∀ w, (Instr.makeMap 54 none).run Tryd.prog w = .ok (.map (some w.heap.size)) (w.alloc (.map #[] 0)) := fun w => run_makeMap_plain (w := w) _
  go_enter Tryd.func17, Tryd.ntmps17
  go_wp2_with (go_at_call 28; fail)
  have hsz : (w.alloc (.map #[] 0)).heap.size = w.heap.size + 1 := by simp
  have HC : Hid (Cells ((w.alloc (.map #[] 0)).alloc (.cells #[.int .u64 0, .int .u64 0, .int .u64 0, .int .u64 0, .int .u64 0, .int .u64 0, .int .u64 0, .map (some w.heap.size)] 59)) (w.heap.size + 1) (fun _ => 0) w.heap.size) := by
    unfold Hid Cells
    have := heap_alloc_new (w.alloc (.map #[] 0)) (.cells #[.int .u64 0, .int .u64 0, .int .u64 0, .int .u64 0, .int .u64 0, .int .u64 0, .int .u64 0, .map (some w.heap.size)] 59)
    rw [hsz] at this
    exact this
  have HM : Hid (IsMapI H ((w.alloc (.map #[] 0)).alloc (.cells #[.int .u64 0, .int .u64 0, .int .u64 0, .int .u64 0, .int .u64 0, .int .u64 0, .int .u64 0, .map (some w.heap.size)] 59)) w.heap.size 64 (lookI [])) :=
    ((isMapI_new w).same (Below.heap_alloc _ _ _ (by simp))).mono (by omega)
  have HB : Hid (Below w.heap.size w ((w.alloc (.map #[] 0)).alloc (.cells #[.int .u64 0, .int .u64 0, .int .u64 0, .int .u64 0, .int .u64 0, .int .u64 0, .int .u64 0, .map (some w.heap.size)] 59))) := ((Below.refl _ w).alloc (Nat.le_refl _) _).alloc (by simp) _
  generalize ((w.alloc (.map #[] 0)).alloc (.cells #[.int .u64 0, .int .u64 0, .int .u64 0, .int .u64 0, .int .u64 0, .int .u64 0, .int .u64 0, .map (some w.heap.size)] 59)) = w1 at *
  have hput := put_any ⟨w.heap.size + 1, 6, none⟩ 0 0 (by omega) (by omega) w1 (HC.out.word (by omega)) (HC.out.frozen 6)
  refine hput.mono ?_
  rintro e w2 ⟨rfl, q, hw2⟩
  have HE : Hid (Arena H w2 w.heap.size (w.heap.size + 1) w.heap.size [] ∧ Below w.heap.size w w2) := by
    subst hw2
    refine ⟨⟨⟨_, Cells.set (w := w1.drewN q) (HC.out.same rfl) (by omega) _, ?_⟩, HM.out.same (Below.heap_setCell (w1.drewN q) _ _ _ (show w.heap.size ≠ w.heap.size + 1 by omega)), ⟨fun b hb => by simp at hb, List.Pairwise.nil⟩, List.Pairwise.nil, by omega, Nat.le_refl _⟩, ?_⟩
    · intro k hk
      exact words_none k hk
    · exact Below.setCell (w := w1.drewN q) ⟨HB.out.os, HB.out.tape, HB.out.output, HB.out.size, HB.out.block⟩ (show w.heap.size ≤ w.heap.size + 1 by omega) _
  clear hw2 hput
  go_wp2
  go_ret
  exact ⟨_, _, rfl, HE.out⟩

/-- The number behind a pointer. -/
def wordAt (v : Value) (w : World) : Nat := match v with
  | .pointer (some p) => (match w.cell? p with
    | some (.int _ x) => x.toNat
    | _ => 0)
  | _ => 0
theorem wordAt_is {w : World} {p : Addr} {x : Nat} (h : w.cell? p = some (.int .u64 (x : Nat))) : wordAt (.pointer (some p)) w = x := by
  unfold wordAt
  simp [h]
theorem own_ne {w : World} {base c : Nat} {v : Value} {l : List Int} {cur : Array Value} {t : TypeId} {fz : Nat × Nat} (h : OwnI w base v l) (hc : w.heap[c]? = some (.cells cur t fz)) (ht : t ≠ 3) : some c ≠ v.ownBlock := by
  intro e
  rcases h.2 with ⟨rfl, _⟩ | ⟨g, cap, cur2, rfl, _, hg, _⟩
  · cases e
  · have : c = g := by simpa [Value.ownBlock] using e
    subst this
    rw [hg] at hc
    simp at hc
    exact ht hc.2.1.symm
theorem cell_one {w : World} {c : Nat} {v : Value} {t : TypeId} (h : w.heap[c]? = some (.cells #[v] t (0, 0))) : w.cell? ⟨c, 0, none⟩ = some v ∧ w.frozen? ⟨c, 0, none⟩ = false := by
  constructor
  · simp [World.cell?, h]
  · simp [World.frozen?, h]
theorem set_one {w : World} {c : Nat} {v u : Value} {t : TypeId} (h : w.heap[c]? = some (.cells #[v] t (0, 0))) : (w.setCell ⟨c, 0, none⟩ u).heap[c]? = some (.cells #[u] t (0, 0)) := by
  simp only [World.setCell, Array.getElem?_modify]
  rw [if_pos trivial, h]
  rfl
set_option maxHeartbeats 1000000 in
theorem free_any (H : Type) (base a b : Nat) (L : List (Nat × Nat)) (k : Int) (w : World) (hA : Arena H w base a b L) (hT : Tabbed w) :
    Calls Tryd.prog 10 #[.pointer (some ⟨a, 0, none⟩), .int .i64 k] w fun e w' => ∃ v, e = .returned v ∧ OwnI w' w.heap.size v (freeI L k) ∧ Below w.heap.size w w' := by
  by_cases hk : k < 0 ∨ 6 < k
  · have hb : (decide (k < 0) || decide (6 < k)) = true := by simpa using hk
    have HI : Hid (freeI L k = []) := if_pos hk
    clear hA hT hk
    go_enter Tryd.func10, Tryd.ntmps10
    go_wp2_with (go_at_call 23; go_must (refine (none_any k _).mono ?_; rw [hb]; rintro e w1 ⟨rfl, rfl⟩))
    go_ret
    rw [HI.out]
    exact ⟨_, rfl, OwnI.nil _ _, Below.refl _ _⟩
  · have hb : (decide (k < 0) || decide (6 < k)) = false := by simpa using hk
    obtain ⟨o, rfl⟩ : ∃ o : Nat, k = o := ⟨k.toNat, by omega⟩
    have ho : o < 7 := by omega
    have HI : Hid (freeI L (o : Nat) = (freeL L o).map fun x : Nat => (x : Int)) := if_neg hk
    clear hk
    obtain ⟨F, hC, hW⟩ := hA.cells
    have hw0 := hC.word ho
    have HW : Hid (bitsUp (F o) = freeL L o) := freeL_is (by omega) (bitsUp_rising _) fun q => (hW o ho).mem
    have HX : Hid (F o < 18446744073709551616) := (hW o ho).1
    have HT : Hid (Tabbed w) := hT
    have HTL : Hid (0 < w.heap.size) := hT.lt
    obtain ⟨i0, hi, hz0, hz1, hz2⟩ := info_parts Tryd.info3
    have HI0 : Hid (Tryd.prog.info? 3 = some i0 ∧ i0.zero = some (.int .i64 0) ∧ i0.size = 1 ∧ i0.bytes = 8) := ⟨hi, hz0, hz1, hz2⟩
    clear hA hT hC hW hi hz0 hz1 hz2
    generalize F o = x0 at *
    go_enter Tryd.func10, Tryd.ntmps10
    go_wp2_with (go_at_call 23; go_must (refine (none_any (o : Nat) _).mono ?_; rw [hb]; rintro e w1 ⟨rfl, hw1⟩; have hw1 := hw1.symm; subst hw1))
    have HB0 : Hid (Below w.heap.size w (w.alloc (.cells #[.int .u64 (x0 : Nat)] 56))) := (Below.refl _ w).alloc (Nat.le_refl _) _
    have HC0 : Hid ((w.alloc (.cells #[.int .u64 (x0 : Nat)] 56)).heap[w.heap.size]? = some (.cells #[.int .u64 (x0 : Nat)] 56 (0, 0))) := heap_alloc_new w _
    clear hw0 hb
    go_loopw [5, 6] (fun v5 v6 wr => ∃ (c x : Nat) (S : Nat → Prop) (out : List Nat), v6 = .pointer (some ⟨c, 0, none⟩) ∧ w.heap.size ≤ c ∧ wr.heap[c]? = some (.cells #[.int .u64 (x : Nat)] 56 (0, 0)) ∧ Bits x S ∧ out ++ bitsUp x = freeL L o ∧ OwnI wr w.heap.size v5 (out.map fun y : Nat => (y : Int)) ∧ Below w.heap.size w wr) (fun _ v6 wr => wordAt v6 wr)
    case atStart => exact ⟨w.heap.size, x0, _, [], rfl, Nat.le_refl _, HC0.out, ⟨HX.out, fun q => Iff.rfl⟩, HW.out, OwnI.nil _ _, HB0.out⟩
    case round =>
      obtain ⟨c, x, S, out, rfl, hcw, hc, hS, hout, hown, hb⟩ := hrel
      obtain ⟨hcc, hcf⟩ := cell_one hc
      by_cases hx0 : x = 0
      · have HO : Hid (OwnI wr w.heap.size u5 ((freeL L o).map fun y : Nat => (y : Int))) := by
          rw [hx0, bitsUp_zero, List.append_nil] at hout
          rw [← hout]
          exact hown
        have HB : Hid (Below w.heap.size w wr) := hb
        subst hx0
        clear hS hout hown hb hc hcw
        go_wp2
        go_ret
        rw [HI.out]
        exact ⟨_, rfl, HO.out, HB.out⟩
      · have hxn : ((x : Int) == 0) = false := by simpa using hx0
        obtain ⟨hp1, hp2, hp3⟩ := hS.first hx0
        have HUP := hS.up hx0
        have HFI : Hid (∀ w0 : World, Below w.heap.size w w0 → Calls Tryd.prog 25 #[.int .u64 (x : Nat)] w0 fun e w' => e = .returned (.int .i64 (Lib.ctz 64 x : Nat)) ∧ w' = w0) := fun w0 h0 => first_any x hS.1 hx0 w0 (HT.out.below h0 HTL.out)
        have HDR : Hid (∀ (w0 : World) (d : Nat), w0.heap[d]? = some (.cells #[.int .u64 (x : Nat)] 56 (0, 0)) → Calls Tryd.prog 24 #[.pointer (some ⟨d, 0, none⟩), .int .i64 (Lib.ctz 64 x : Nat)] w0 fun e w' => e = .returned (.tuple #[]) ∧ ∃ q, w' = (w0.drewN q).setCell ⟨d, 0, none⟩ (.int .u64 ((x &&& (18446744073709551615 - 2 ^ Lib.ctz 64 x) : Nat)))) :=
          fun w0 d h0 => drop_any _ x _ hS.1 hp2 w0 (cell_one h0).1 (cell_one h0).2
        have HS2 : Hid (Bits (x &&& (18446744073709551615 - 2 ^ Lib.ctz 64 x)) fun q => S q ∧ q ≠ Lib.ctz 64 x) := hS.drop hp2
        have HLT : Hid (x &&& (18446744073709551615 - 2 ^ Lib.ctz 64 x) < x) := by
          refine Nat.lt_of_le_of_ne Nat.and_le_left fun e => ?_
          have h1 := (HS2.out.2 (Lib.ctz 64 x)).1 (by rw [e]; exact (hS.2 _).2 hp1)
          exact h1.2 rfl
        have HO2 : Hid ((out ++ [Lib.ctz 64 x]) ++ bitsUp (x &&& (18446744073709551615 - 2 ^ Lib.ctz 64 x)) = freeL L o) := by
          unfold Hid
          rw [List.append_assoc, List.singleton_append, ← HUP]
          exact hout
        have hlen : out.length < 64 := by
          have h1 := freeL_most L o
          have h2 := congrArg List.length HO2.out
          rw [List.length_append, List.length_append] at h2
          simp only [List.length_cons, List.length_nil] at h2
          omega
        have HOW : Hid (OwnI wr w.heap.size u5 (out.map fun y : Nat => (y : Int))) := hown
        have HB : Hid (Below w.heap.size w wr) := hb
        have HC : Hid (wr.heap[c]? = some (.cells #[.int .u64 (x : Nat)] 56 (0, 0))) := hc
        clear hS hout hown hb hc hp1 hp3 HUP
        generalize hy : (out.map fun y : Nat => (y : Int)) = lo at *
        have HLO : Hid (lo.length = out.length) := by unfold Hid; rw [← hy, List.length_map]
        have HY : Hid ((out.map fun y : Nat => (y : Int)) = lo) := hy
        clear hy
        generalize Lib.ctz 64 x = p at *
        generalize x &&& (18446744073709551615 - 2 ^ p) = x2 at *
        obtain ⟨ao, cap, rfl⟩ := HOW.out.form
        have hlo : lo.length < 64 := by have := HLO.out; omega
        go_wp2_with (first | (go_at_call 25; (refine (HFI.out _ HB.out).mono ?_; rintro e w6 ⟨rfl, hw6⟩; have hw6 := hw6.symm; subst hw6)) | (at_builtin; go_must (refine wpList_append_own _ rfl _ _ 22 rfl w.heap.size 3 i0 (.int .i64 0) 1 8 Tryd.underlying22 HI0.out.1 HI0.out.2.1 HI0.out.2.2.1 HI0.out.2.2.2 rfl (by decide) _ lo.length (lo.map (Value.int .i64)) rfl (World.ownsRow.alloc HOW.out _) ⟨wr.heap.size, 0, none⟩ 1 1 [.int .i64 (p : Nat)] rfl rfl (by exact new_one _ _ _) (one_cell _) (by unfold maxLen; omega) (by omega) (by have := HB.out.size; simp; omega) ?_; intro v2 w2 hown' hgrow _; have R := own_append HOW.out HB.out (Nat.le_refl _) hown' hgrow; have HR2 : Hid (OwnI w2 w.heap.size v2 (lo ++ [(p : Int)])) := R.1; have HB2 : Hid (Below w.heap.size w w2) := R.2; have HC2 : Hid (w2.heap[c]? = some (.cells #[.int .u64 (x : Nat)] 56 (0, 0))) := ((hgrow.block c (by have := (Array.getElem?_eq_some_iff.1 HC.out).1; simp; omega) (own_ne HOW.out HC.out (by decide))).trans (Below.heap_alloc _ _ _ (Array.getElem?_eq_some_iff.1 HC.out).1)).trans HC.out; have hcc2 := (cell_one HC2.out).1; have HB3 : Hid (Below w.heap.size w (w2.alloc (.cells #[.int .u64 (x : Nat)] 56))) := HB2.out.alloc (Nat.le_trans (Nat.le_refl _) HB2.out.size) _; have HC3 : Hid ((w2.alloc (.cells #[.int .u64 (x : Nat)] 56)).heap[w2.heap.size]? = some (.cells #[.int .u64 (x : Nat)] 56 (0, 0))) := heap_alloc_new w2 _; clear hown' hgrow R hcc hcf HB)) | (go_at_call 25; refine (HFI.out _ HB3.out).mono ?_; rintro e w6 ⟨rfl, hw6⟩; rw [hw6]; clear hw6 w6) | (go_at_call 24; refine (HDR.out _ _ HC3.out).mono ?_; rintro e w5 ⟨rfl, q5, hw5⟩; have hbw : Below w2.heap.size w2 w5 := by { rw [hw5]; exact (below_drewN ((Below.refl _ w2).alloc (Nat.le_refl _) _) q5).setCell (Nat.le_refl _) _ }; have HB5 : Hid (Below w.heap.size w w5) := HB2.out.trans (hbw.mono HB2.out.size); have HR5 : Hid (OwnI w5 w.heap.size v2 (lo ++ [(p : Int)])) := HR2.out.later hbw; have HC5 : Hid (w5.heap[w2.heap.size]? = some (.cells #[.int .u64 (x2 : Nat)] 56 (0, 0))) := by { unfold Hid; rw [hw5]; exact set_one (w := World.drewN _ q5) HC3.out }; clear hw5 hbw))
        have HWS : Hid (w.heap.size ≤ w2.heap.size) := HB2.out.size
        have HM1 : Hid (wordAt (.pointer (some ⟨c, 0, none⟩)) wr = x) := wordAt_is (cell_one HC.out).1
        have HM2 : Hid (wordAt (.pointer (some ⟨w2.heap.size, 0, none⟩)) w5 = x2) := wordAt_is (cell_one HC5.out).1
        go_roundw
        case rel => exact ⟨w2.heap.size, x2, _, out ++ [p], rfl, HWS.out, HC5.out, HS2.out, HO2.out, by rw [List.map_append, HY.out]; exact HR5.out, HB5.out⟩
        case measure => show wordAt _ _ < wordAt _ _; rw [HM1.out]; exact Nat.lt_of_le_of_lt (Nat.le_of_eq HM2.out) HLT.out
end Go.Proofs.YtmmeapaakdaemaaDoor
