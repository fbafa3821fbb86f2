/- The arena of chapter 16 in the world: a cell that holds a row of blocks; the walk of holes. -/
import Derived.Test.YtjcikoaoemingaaDoorFTold
import Derived.Test.YtjcikoaoemingaaDoorFFind
import Derived.Test.YtjcikoaoemingaaDoorFitM
namespace Go.Proofs.YtjcikoaoemingaaDoor
open Go.RowKit Go.Sort

structure FAr (w : World) (base a : Nat) (L : List (Nat × Nat)) : Prop where
  row : ∃ v, w.heap[a]? = some (.cells #[v] 61 (0, 0)) ∧ OwnF w base v L
  laid : LaidF 0 L
  fromA : base ≤ a
theorem one_box {W : World} {g : Nat} {t : TypeId} {a0 : Value} (h : W.heap[g]? = some (.cells #[a0] t (0, 0))) : W.cell? ⟨g, 0, none⟩ = some a0 ∧ W.frozen? ⟨g, 0, none⟩ = false := by
  refine ⟨?_, ?_⟩
  · unfold World.cell?; rw [show W.heap[(⟨g, 0, none⟩ : Addr).block]? = _ from h]; rfl
  · unfold World.frozen?; rw [show W.heap[(⟨g, 0, none⟩ : Addr).block]? = _ from h]; simp
theorem one_set {W : World} {g : Nat} {t : TypeId} {a0 : Value} (u : Value) (h : W.heap[g]? = some (.cells #[a0] t (0, 0))) : (W.setCell ⟨g, 0, none⟩ u).heap[g]? = some (.cells #[u] t (0, 0)) := by
  simp only [World.setCell, Array.getElem?_modify]
  rw [if_pos trivial, h]; rfl
theorem FAr.lt {w : World} {base a : Nat} {L : List (Nat × Nat)} (h : FAr w base a L) : a < w.heap.size := by
  obtain ⟨v, h1, _⟩ := h.row
  exact (Array.getElem?_eq_some_iff.1 h1).1
theorem FAr.later {w w1 : World} {base a : Nat} {L : List (Nat × Nat)} (h : FAr w base a L) (hb : Below w.heap.size w w1) : FAr w1 base a L := by
  obtain ⟨v, h1, h2⟩ := h.row
  exact ⟨⟨v, (hb.block a h.lt).trans h1, h2.later hb⟩, h.laid, h.fromA⟩
theorem FAr.most {w : World} {base a : Nat} {L : List (Nat × Nat)} (h : FAr w base a L) : L.length ≤ 64 := by
  have := laid_len h.laid
  omega

/-- The holes ahead of blocks, and where the last one ends. -/
def gapsF : Nat → List (Nat × Nat) → List (Nat × Nat)
  | _, [] => []
  | p, b :: r => if p < b.1 then (p, b.1 - p) :: gapsF (b.1 + b.2) r else gapsF (b.1 + b.2) r
def endF : Nat → List (Nat × Nat) → Nat
  | p, [] => p
  | _, b :: r => endF (b.1 + b.2) r
theorem gapsF_add : ∀ (p : Nat) (F : List (Nat × Nat)) (b : Nat × Nat), gapsF p (F ++ [b]) = gapsF p F ++ if endF p F < b.1 then [(endF p F, b.1 - endF p F)] else []
  | p, [], b => by
    unfold endF
    rw [List.nil_append]
    unfold gapsF gapsF
    split <;> rfl
  | p, c :: r, b => by
    rw [List.cons_append]
    unfold gapsF endF
    rw [gapsF_add]
    split <;> rfl
theorem endF_add : ∀ (p : Nat) (F : List (Nat × Nat)) (b : Nat × Nat), endF p (F ++ [b]) = b.1 + b.2
  | _, [], _ => rfl
  | _, c :: r, b => by rw [List.cons_append, endF, endF_add]
theorem holes_end : ∀ (p : Nat) (F : List (Nat × Nat)), holes p F = gapsF p F ++ if endF p F < 64 then [(endF p F, 64 - endF p F)] else []
  | p, [] => by unfold holes gapsF endF; rw [List.nil_append]
  | p, b :: r => by
    unfold holes gapsF endF
    rw [holes_end]
    split <;> rfl
theorem gapsF_len : ∀ (p : Nat) (F : List (Nat × Nat)), (gapsF p F).length ≤ F.length
  | _, [] => Nat.le_refl _
  | p, b :: r => by
    have := gapsF_len (b.1 + b.2) r
    unfold gapsF
    split
    · rw [List.length_cons, List.length_cons]; omega
    · rw [List.length_cons]; omega
theorem endF_le : ∀ {p : Nat} {F : List (Nat × Nat)}, LaidF p F → endF p F ≤ 64
  | p, [], h => h
  | p, b :: r, h => by unfold endF; exact endF_le (p := b.1 + b.2) (F := r) h.2.2
theorem laid_take : ∀ {p : Nat} {F : List (Nat × Nat)} (k : Nat), LaidF p F → LaidF p (F.take k)
  | _, [], k, h => by simpa using h
  | p, b :: r, 0, h => by
    have := h.le
    exact this
  | p, b :: r, k + 1, h => ⟨h.1, h.2.1, laid_take k h.2.2⟩

set_option maxRecDepth 100000 in
set_option maxHeartbeats 2000000 in
theorem holesP_any (base a : Nat) (L : List (Nat × Nat)) (w : World) (hA : FAr w base a L) :
    Calls Tryd.prog 27 #[.pointer (some ⟨a, 0, none⟩)] w fun e w' => ∃ v, e = .returned v ∧ OwnF w' w.heap.size v (holes 0 L) ∧ Below w.heap.size w w' := by
  obtain ⟨i0, hi, hz0, hz1, hz2⟩ := info_parts Tryd.infoF
  have HI0 : Hid (Tryd.prog.info? 56 = some i0 ∧ i0.zero = some (.agg #[.int .i64 0, .int .i64 0]) ∧ i0.size = 2 ∧ i0.bytes = 16) := ⟨hi, hz0, hz1, hz2⟩
  clear hi hz0 hz1 hz2
  obtain ⟨v, hbx, hO⟩ := hA.row
  have hl := hA.most
  have HLD : Hid (LaidF 0 L) := hA.laid
  obtain ⟨hc, _⟩ := one_box hbx
  obtain ⟨ao, cap, rfl⟩ := hO.form
  have HO : Hid (OwnF w base (.slice ao L.length cap) L) := hO
  clear hO hbx hA
  go_enter Tryd.func27, Tryd.ntmps27
  go_wp2
  go_loopw [3, 4, 12] (fun v3 v4 v12 wr => ∃ k : Nat, k ≤ L.length ∧ v12 = .int .i64 (k : Nat) ∧ v4 = .int .i64 (endF 0 (L.take k) : Nat) ∧ OwnF wr w.heap.size v3 (gapsF 0 (L.take k)) ∧ Below w.heap.size w wr) (fun _ _ v12 _ => L.length - (intOf v12).toNat)
  case atStart => exact ⟨0, Nat.zero_le _, rfl, rfl, OwnF.nil _ _, Below.refl _ _⟩
  case round =>
    obtain ⟨k, hk, rfl, rfl, hG, hb⟩ := hrel
    have HG : Hid (OwnF wr w.heap.size u3 (gapsF 0 (L.take k))) := hG
    have HB : Hid (Below w.heap.size w wr) := hb
    have hsz := hb.size
    have hgl : (gapsF 0 (L.take k)).length ≤ 64 := by have := gapsF_len 0 (L.take k); rw [List.length_take] at this; omega
    by_cases hkl : k = L.length
    · have hh := holes_end 0 L
      have he := endF_le HLD.out
      have hqe : endF 0 (L.take k) = endF 0 L := by rw [hkl, List.take_length]
      rw [← hqe] at hh he
      have HG : Hid (OwnF wr w.heap.size u3 (gapsF 0 L)) := by rw [hkl, List.take_length] at hG; exact hG
      have hgl : (gapsF 0 L).length ≤ 64 := by rw [hkl, List.take_length] at hgl; exact hgl
      have hlt : ¬ (k : Int) < (L.length : Int) := by omega
      clear hG hb hkl hqe
      generalize endF 0 (L.take k) = q at *
      by_cases hq : q < 64
      · have hq' : (q : Int) < 64 := by omega
        rw [if_pos hq] at hh
        have HH : Hid (holes 0 L = gapsF 0 L ++ [(q, 64 - q)]) := hh
        clear hh
        have hw : IntKind.i64.wrap (64 - (q : Int)) = ((64 - q : Nat) : Int) := by rw [IntKind.wrap_i64]; omega
        generalize gapsF 0 L = l at *
        generalize hn : l.length = n at *
        have HN : Hid (l.length = n) := hn
        clear hn
        go_wp2_with (at_builtin; go_must (refine wpList_append_own _ rfl _ _ 52 rfl w.heap.size 56 i0 (.agg #[.int .i64 0, .int .i64 0]) 2 16 Tryd.underlying52 HI0.out.1 HI0.out.2.1 HI0.out.2.2.1 HI0.out.2.2.2 rfl (by decide) _ n (rowF l) rfl (World.ownsRow.alloc (HG.out.rows HN.out rfl) _) ⟨wr.heap.size, 0, none⟩ 1 1 [.int .i64 (q : Nat), .int .i64 (64 - q : Nat)] rfl rfl (by exact new_pair _ _ _ _) (pair_cell _ _) (by unfold maxLen; omega) (by omega) (by simp; omega) ?_; intro v4 w4 hown' hgrow _; have HR := own_appendF HG.out HN.out HB.out (Nat.le_refl _) hown' hgrow; have HR : Hid _ := HR; clear hown' hgrow))
        go_ret
        exact ⟨_, rfl, by rw [HH.out]; exact HR.out.1, HR.out.2⟩
      · have hq' : ¬ (q : Int) < 64 := by omega
        rw [if_neg hq, List.append_nil] at hh
        have HH : Hid (holes 0 L = gapsF 0 L) := hh
        clear hh
        go_wp2
        go_ret
        exact ⟨u3, rfl, by rw [HH.out]; exact HG.out, HB.out⟩
    · have hk' : k < L.length := by omega
      have hlt : (k : Int) < (L.length : Int) := by omega
      obtain ⟨g, cap', hv, _, hgw, hlc, hcm⟩ := HO.out.block (by omega)
      simp only [Value.slice.injEq, true_and] at hv
      obtain ⟨rfl, rfl⟩ := hv
      unfold maxLen at hcm
      have hc1 : wr.cell? ⟨g, k * 2, none⟩ = some (.int .i64 ((blkAt L k).1 : Nat)) := (hb.cell (by exact hgw)).trans (HO.out.at_ rfl hk')
      have hc2 : wr.cell? ⟨g, k * 2 + 1, none⟩ = some (.int .i64 ((blkAt L k).2 : Nat)) := (hb.cell (by exact hgw)).trans (HO.out.size rfl hk')
      have HE : Hid (endF 0 (L.take (k+1)) = (blkAt L k).1 + (blkAt L k).2) := by unfold Hid; rw [List.take_succ_eq_append_getElem hk', endF_add, blkAt_lt hk']
      have HS : Hid (gapsF 0 (L.take (k+1)) = gapsF 0 (L.take k) ++ if endF 0 (L.take k) < (blkAt L k).1 then [(endF 0 (L.take k), (blkAt L k).1 - endF 0 (L.take k))] else []) := by unfold Hid; rw [List.take_succ_eq_append_getElem hk', gapsF_add, blkAt_lt hk']
      have hbk : (blkAt L k).1 + (blkAt L k).2 ≤ 64 := by rw [blkAt_lt hk']; exact (HLD.out.mem _ (List.getElem_mem hk')).2.2
      have hel := endF_le (laid_take k HLD.out)
      clear hG hb hkl
      generalize (blkAt L k).1 = x at *
      generalize (blkAt L k).2 = y at *
      generalize endF 0 (L.take k) = q at *
      have HGB : Hid (OwnF (wr.alloc (.cells #[.int .i64 (x : Nat), .int .i64 (y : Nat)] 56)) w.heap.size u3 (gapsF 0 (L.take k))) := HG.out.later ((Below.refl _ wr).alloc (Nat.le_refl _) _)
      have HBX : Hid ((wr.alloc (.cells #[.int .i64 (x : Nat), .int .i64 (y : Nat)] 56)).heap[wr.heap.size]? = some (.cells #[.int .i64 (x : Nat), .int .i64 (y : Nat)] 56 (0, 0))) := heap_alloc_new wr _
      have HBB : Hid (Below w.heap.size w (wr.alloc (.cells #[.int .i64 (x : Nat), .int .i64 (y : Nat)] 56))) := HB.out.alloc hsz _
      have hsb : (wr.alloc (.cells #[.int .i64 (x : Nat), .int .i64 (y : Nat)] 56)).heap.size = wr.heap.size + 1 := by simp
      have HNE : Hid (¬ some wr.heap.size = u3.ownBlock) := fun e => by have := (World.ownsRow.lt HG.out _ e.symm).2; omega
      generalize gapsF 0 (L.take k) = l at *
      by_cases hq : q < x
      · have hq' : (q : Int) < (x : Int) := by omega
        have hw : IntKind.i64.wrap ((x : Int) - (q : Int)) = ((x - q : Nat) : Int) := by rw [IntKind.wrap_i64]; omega
        have HSS : Hid (gapsF 0 (L.take (k+1)) = l ++ [(q, x - q)]) := by unfold Hid; rw [HS.out, if_pos hq]
        generalize hn : l.length = n at *
        have HN : Hid (l.length = n) := hn
        clear hn HS
        go_wp2_with (at_builtin; go_must (refine wpList_append_own _ rfl _ _ 52 rfl w.heap.size 56 i0 (.agg #[.int .i64 0, .int .i64 0]) 2 16 Tryd.underlying52 HI0.out.1 HI0.out.2.1 HI0.out.2.2.1 HI0.out.2.2.2 rfl (by decide) _ n (rowF l) rfl (World.ownsRow.alloc (HGB.out.rows HN.out rfl) _) ⟨wr.heap.size + 1, 0, none⟩ 1 1 [.int .i64 (q : Nat), .int .i64 (x - q : Nat)] rfl rfl (by rw [← hsb]; exact new_pair _ _ _ _) (pair_cell _ _) (by unfold maxLen; omega) (by omega) (by simp; omega) ?_; intro v4 w4 hown' hgrow _; have HR := own_appendF HGB.out HN.out HBB.out (Nat.le_refl _) hown' hgrow; have HR : Hid _ := HR; obtain ⟨hy0, hy1, _, _⟩ := box_cells (((hgrow.block wr.heap.size (by simp; omega) HNE.out).trans (Below.heap_alloc _ _ _ (by simp))).trans HBX.out); clear hown' hgrow))
        go_roundw
        case rel => exact ⟨k + 1, by omega, by go_num, by rw [HE.out]; go_num, by rw [HSS.out]; exact HR.out.1, HR.out.2⟩
        case measure => simp [intOf]; omega
      · have hq' : ¬ (q : Int) < (x : Int) := by omega
        have HSS : Hid (gapsF 0 (L.take (k+1)) = l) := by unfold Hid; rw [HS.out, if_neg hq, List.append_nil]
        clear HS
        go_wp2
        go_roundw
        case rel => exact ⟨k + 1, by omega, by go_num, by rw [HE.out]; go_num, by rw [HSS.out]; exact HGB.out, HBB.out⟩
        case measure => simp [intOf]; omega
end Go.Proofs.YtjcikoaoemingaaDoor
