/- The walk of sweep.Sweep. -/
import Derived.Test.YtelmfccpcejdnaaDoorSHeap
import Derived.Test.YtelmfccpcejdnaaDoorGReach
namespace Go.Proofs.YtelmfccpcejdnaaDoor
set_option maxRecDepth 100000
open Go.RowKit Go.Sort

/-- What is left: what is come to, rising. -/
structure Left (L : List (List Int)) (R N : List Int) : Prop where
  up : N.Pairwise (· < ·)
  mem : ∀ x, x ∈ N ↔ Come (gOf L) R x
theorem Left.nodup {L : List (List Int)} {R N : List Int} (h : Left L R N) : N.Nodup := h.up.imp fun h => by omega
theorem Left.inn {L : List (List Int)} {R N : List Int} (h : Left L R N) (hf : FineH L R) : Inn L N := ⟨h.nodup, fun x hx => hf.come hf.root ((h.mem x).1 hx)⟩
theorem Left.shut {L : List (List Int)} {R N : List Int} (h : Left L R N) : Shut L R N :=
  ⟨h.nodup, fun x hx => (h.mem x).2 (.root hx), fun x hx y hy => (h.mem y).2 (.step ((h.mem x).1 hx) hy)⟩
/-- Two rising rows of the same numbers are one. -/
theorem up_unique : ∀ {A B : List Int}, A.Pairwise (· < ·) → B.Pairwise (· < ·) → (∀ x, x ∈ A ↔ x ∈ B) → A = B
  | [], [], _, _, _ => rfl
  | [], b :: B, _, _, h => absurd ((h b).2 (by simp)) (by simp)
  | a :: A, [], _, _, h => absurd ((h a).1 (by simp)) (by simp)
  | a :: A, b :: B, h1, h2, h => by
    obtain ⟨a1, a2⟩ := List.pairwise_cons.1 h1
    obtain ⟨b1, b2⟩ := List.pairwise_cons.1 h2
    have hab : a = b := by
      have h3 := (h a).1 (by simp)
      have h4 := (h b).2 (by simp)
      rcases List.mem_cons.1 h3 with e | h3
      · exact e
      · rcases List.mem_cons.1 h4 with e | h4
        · exact e.symm
        · have := b1 a h3
          have := a1 b h4
          omega
    subst hab
    congr 1
    refine up_unique a2 b2 fun x => ?_
    have hx := h x
    simp only [List.mem_cons] at hx
    constructor
    · intro hm
      have := a1 x hm
      rcases hx.1 (.inr hm) with e | h
      · omega
      · exact h
    · intro hm
      have := b1 x hm
      rcases hx.2 (.inr hm) with e | h
      · omega
      · exact h
def bitsOfM (m n : Nat) : List Int := (upTo n).filter fun x => m.testBit x.toNat
theorem upTo_next' (n : Nat) : upTo (n+1) = upTo n ++ [(n : Int)] := by unfold upTo; rw [List.range_succ, List.map_append]; rfl
theorem bitsOfM_succ (m n : Nat) : bitsOfM m (n+1) = bitsOfM m n ++ (if m.testBit n then [(n : Int)] else []) := by
  unfold bitsOfM
  rw [upTo_next', List.filter_append, List.filter_cons, List.filter_nil, Int.toNat_natCast]
theorem bitsOfM_short (m n : Nat) : (bitsOfM m n).length ≤ n := by
  have := List.length_filter_le (fun x : Int => m.testBit x.toNat) (upTo n)
  rw [upTo_length] at this
  exact this
theorem upTo_up (n : Nat) : (upTo n).Pairwise (· < ·) := by
  unfold upTo
  rw [List.pairwise_map]
  exact List.Pairwise.imp (fun h => by omega) List.pairwise_lt_range
theorem bitsOfM_left {L : List (List Int)} {R : List Int} {m : Nat} (hf : FineH L R) (hm : Comes L R m) : Left L R (bitsOfM m L.length) := by
  refine ⟨(upTo_up _).filter _, fun x => ?_⟩
  have hl := hf.few
  unfold bitsOfM
  rw [List.mem_filter, upTo_mem]
  constructor
  · rintro ⟨⟨h1, h2⟩, h3⟩
    have := (hm.2 x.toNat (by omega)).1 h3
    rwa [Int.toNat_of_nonneg h1] at this
  · intro hc
    have hx := hf.come hf.root hc
    refine ⟨hx, (hm.2 x.toNat (by omega)).2 (by rwa [Int.toNat_of_nonneg hx.1])⟩
/-- What Sweep tells. -/
def SweepIs (L : List (List Int)) (R N : List Int) (X : List (List Int)) (Y : List Int) : Prop := if chkH L R = 0 then Left L R N ∧ X = anewO L N ∧ Y = R.map (plc N) else N = [] ∧ X = [] ∧ Y = []
set_option maxHeartbeats 4000000 in
theorem ssweep_any (v : Value) (L : List (List Int)) (R : List Int) (w : World) (hv : IsHeap w v L R) :
    Calls Tryd.prog 13 #[v] w fun e w' => (∃ vl vx, e = .returned (.tuple #[vl, vx, errV (chkH L R)]) ∧ ∃ N X Y, IsInts w' vl N ∧ IsHeap w' vx X Y ∧ SweepIs L R N X Y) ∧ Below w.heap.size w w' := by
  obtain ⟨ao, co, ar, cr, rfl, h1, h2⟩ := hv.form
  have HBX : Hid (Boxed w (w.alloc (.cells #[.slice ao L.length co, .slice ar R.length cr] 25)) w.heap.size ao co ar cr L R) := boxed h1 h2 _
  clear hv h1 h2
  have HB1 : Hid (Boxed w ((w.alloc (.cells #[.slice ao L.length co, .slice ar R.length cr] 25)).alloc (.cells #[.slice none 0 0, .slice none 0 0] 25)) w.heap.size ao co ar cr L R) := HBX.out.later ((Below.refl _ _).alloc (Nat.le_refl _) _)
  have HX1 : Hid (((w.alloc (.cells #[.slice ao L.length co, .slice ar R.length cr] 25)).alloc (.cells #[.slice none 0 0, .slice none 0 0] 25)).heap[w.heap.size + 1]? = some (.cells #[.slice none 0 0, .slice none 0 0] 25 (0, 0))) := by
    have h := heap_alloc_new (w.alloc (.cells #[.slice ao L.length co, .slice ar R.length cr] 25)) (.cells #[.slice none 0 0, .slice none 0 0] 25)
    rw [show (w.alloc (.cells #[.slice ao L.length co, .slice ar R.length cr] 25)).heap.size = w.heap.size + 1 by simp] at h
    exact h
  have HS1 : Hid (((w.alloc (.cells #[.slice ao L.length co, .slice ar R.length cr] 25)).alloc (.cells #[.slice none 0 0, .slice none 0 0] 25)).heap.size = w.heap.size + 1 + 1) := by unfold Hid; simp
  have hd0 : ((w.alloc (.cells #[.slice ao L.length co, .slice ar R.length cr] 25)).alloc (.cells #[.slice none 0 0, .slice none 0 0] 25)).cell? ⟨w.heap.size, 0, none⟩ = some (.slice ao L.length co) := HB1.out.outs
  have hd1 : ((w.alloc (.cells #[.slice ao L.length co, .slice ar R.length cr] 25)).alloc (.cells #[.slice none 0 0, .slice none 0 0] 25)).cell? ⟨w.heap.size, 1, none⟩ = some (.slice ar R.length cr) := HB1.out.roots
  clear HBX
  go_enter Tryd.func13, Tryd.ntmps13
  go_wp2_with (go_at_call 25; fail)
  generalize (w.alloc (.cells #[.slice ao L.length co, .slice ar R.length cr] 25)).alloc (.cells #[.slice none 0 0, .slice none 0 0] 25) = w1 at *
  refine (reach_any _ L R _ HB1.out.isHeap).mono ?_
  rintro e w2 ⟨⟨m, rfl, hm⟩, hb2⟩
  have HB2 : Hid (Boxed w w2 w.heap.size ao co ar cr L R) := HB1.out.later hb2
  have HX2 : Hid (w2.heap[w.heap.size + 1]? = some (.cells #[.slice none 0 0, .slice none 0 0] 25 (0, 0))) := (hb2.block _ (by have := HS1.out; omega)).trans HX1.out
  have HS2 : Hid (w.heap.size + 1 + 1 ≤ w2.heap.size) := by have := hb2.size; have := HS1.out; unfold Hid; omega
  clear hb2 hd0 hd1 HB1 HX1 HS1
  by_cases h0 : chkH L R = 0
  · unfold ReachIs at hm
    rw [if_pos h0] at hm
    have HF : Hid (FineH L R) := chkH_zero.1 h0
    have HM : Hid (Comes L R m) := hm
    have H0 : Hid (chkH L R = 0) := h0
    have hl12 := HF.out.few
    obtain ⟨i0, hi, hz0, hz1, hz2⟩ := info_parts Tryd.info3
    have HI : Hid (Tryd.prog.info? 3 = some i0 ∧ i0.zero = some (.int .i64 0) ∧ i0.size = 1 ∧ i0.bytes = 8) := ⟨hi, hz0, hz1, hz2⟩
    rw [h0, show errV 0 = .nilIface from rfl]
    clear h0 hm hi hz0 hz1 hz2
    have hd0 : w2.cell? ⟨w.heap.size, 0, none⟩ = some (.slice ao L.length co) := HB2.out.outs
    go_wp2
    go_loopw [7, 21] (fun rv i wr => ∃ (k : Nat), k ≤ L.length ∧ i = .int .i64 (k : Nat) ∧ Hid (OwnI wr w2.heap.size rv (bitsOfM m k)) ∧ Hid (Below w2.heap.size w2 wr)) (fun _ i _ => L.length - (intOf i).toNat)
    case atStart => exact ⟨0, Nat.zero_le _, rfl, OwnI.nil _ _, Below.refl _ _⟩
    case round =>
      obtain ⟨k, hk, rfl, HO, HB⟩ := hrel
      by_cases hlt : k < L.length
      · have hlt' : (k : Int) < (L.length : Int) := by omega
        have HBIT : Hid ((bits .and .i64 ((m : Int) / 2 ^ k) 1 == 1) = m.testBit k) := bit64 HM.out.1
        have hsh := bitsOfM_short m k
        cases hb : m.testBit k with
        | true =>
          have HN : Hid (bitsOfM m (k+1) = bitsOfM m k ++ [(k : Int)]) := by unfold Hid; rw [bitsOfM_succ, hb]; rfl
          have hbit : (bits .and .i64 ((m : Int) / 2 ^ k) 1 == 1) = true := by rw [HBIT.out, hb]
          clear hb HBIT
          go_wp2_with (at_builtin; go_must (refine wpList_append_own _ rfl _ _ 23 rfl w2.heap.size 3 i0 (.int .i64 0) 1 8 Tryd.underlying23 HI.out.1 HI.out.2.1 HI.out.2.2.1 HI.out.2.2.2 rfl (by decide) _ (bitsOfM m k).length ((bitsOfM m k).map (Value.int .i64)) rfl (World.ownsRow.alloc (HO.out.rows rfl rfl) _) ⟨wr.heap.size, 0, none⟩ 1 1 [.int .i64 (k : Int)] rfl rfl (by exact new_one _ _ _) (one_cell _) (by unfold maxLen; omega) (by omega) (by have := HB.out.size; simp; omega) ?_; intro vo' w5 hown' hgrow _))
          have R := own_append HO.out HB.out (Nat.le_refl _) hown' hgrow
          have R1 : Hid (OwnI w5 w2.heap.size vo' (bitsOfM m (k+1))) := by unfold Hid; rw [HN.out]; exact R.1
          have R2 : Hid (Below w2.heap.size w2 w5) := R.2
          clear R hown' hgrow
          go_roundw
          case rel => exact ⟨k + 1, by omega, by go_num, R1, R2⟩
          case measure => simp [intOf]; omega
        | false =>
          have HN : Hid (bitsOfM m (k+1) = bitsOfM m k) := by unfold Hid; rw [bitsOfM_succ, hb]; simp
          have hbit : (bits .and .i64 ((m : Int) / 2 ^ k) 1 == 1) = false := by rw [HBIT.out, hb]
          clear hb HBIT
          go_wp2
          go_roundw
          case rel => exact ⟨k + 1, by omega, by go_num, by rw [HN.out]; exact HO, HB⟩
          case measure => simp [intOf]; omega
      · have hlt' : ¬ (k : Int) < (L.length : Int) := by omega
        have HOL : Hid (OwnI wr w2.heap.size u7 (bitsOfM m L.length)) := by have := HO.out; rwa [show k = L.length by omega] at this
        have HLE : Hid (Left L R (bitsOfM m L.length)) := bitsOfM_left HF.out HM.out
        have HBR : Hid (Boxed w wr w.heap.size ao co ar cr L R) := HB2.out.later HB.out
        have hr0 := HBR.out.outs
        have hr1 := HBR.out.roots
        clear HO hd0
        generalize bitsOfM m L.length = N at *
        go_wp2_with (go_at_call 26; fail)
        refine (heapof_any _ _ L R N _ HBR.out.isHeap HOL.out.isInts HF.out HLE.out.shut (HLE.out.inn HF.out)).mono ?_
        rintro e w3 ⟨aO, cO, aR, cR, rfl, hO, hR, hb3⟩
        have hsr := HB.out.size
        have hs2 := HS2.out
        have HX3 : Hid (w3.heap[w.heap.size + 1]? = some (.cells #[.slice none 0 0, .slice none 0 0] 25 (0, 0))) := ((HB.out.trans (hb3.mono hsr)).block _ (by omega)).trans HX2.out
        have HEND : Hid _ := heap_end (w0 := w) HX3.out (hO.mono hsr) (ownI_mono hR hsr) (by omega) (by omega) (HB2.out.below.trans ((HB.out.trans (hb3.mono hsr)).mono HB2.out.below.size))
        have HNE : Hid (IsInts ((w3.setCell ⟨w.heap.size + 1, 0, none⟩ (.slice aO N.length cO)).setCell ⟨w.heap.size + 1, 1, none⟩ (.slice aR R.length cR)) u7 N) := OwnI.isInts (own_box (own_box (HOL.out.later hb3) _ (by omega)) _ (by omega))
        obtain ⟨hx0, hx1, hf0, hf1⟩ := box_cells HX3.out
        clear hO hR hb3 hr0 hr1
        go_wp2
        refine bodyPost_ret_by (results_tmp_cell_tmp Tryd.results13 _ _ (w.heap.size + 1) 25 #[.slice aO N.length cO, .slice aR R.length cR] (0, 0) _ rfl HEND.out.1 Tryd.underlying25 rfl (by kernel_rfl)) rfl ?_
        exact ⟨⟨_, _, by first | rfl | (rw [H0.out]; rfl), N, _, _, HNE.out, ⟨_, _, rfl, HEND.out.2.1.1.isRows, HEND.out.2.1.2.isInts⟩, by unfold SweepIs; rw [if_pos H0.out]; exact ⟨HLE.out, rfl, rfl⟩⟩, HEND.out.2.2⟩
  · unfold ReachIs at hm
    rw [if_neg h0] at hm
    have HE : Hid (errV (chkH L R) = .iface 52 (.int .i64 (chkH L R))) := errV_pos h0
    have H0 : Hid (chkH L R ≠ 0) := h0
    rw [HE.out]
    clear h0 hm
    have HEND : Hid _ := heap_end (w0 := w) HX2.out (OwnR.nil w2 (w.heap.size + 1 + 1)) (OwnI.nil w2 (w.heap.size + 1 + 1)) (by omega) (by omega) HB2.out.below
    obtain ⟨hx0, hx1, hf0, hf1⟩ := box_cells HX2.out
    go_wp2
    refine bodyPost_ret_by (results_tmp_cell_tmp Tryd.results13 _ _ (w.heap.size + 1) 25 #[.slice none 0 0, .slice none 0 0] (0, 0) _ rfl HEND.out.1 Tryd.underlying25 rfl (by kernel_rfl)) rfl ?_
    exact ⟨⟨_, _, by rw [HE.out]; rfl, [], [], [], .inl ⟨rfl, none, 0, rfl, by simp⟩, ⟨_, _, rfl, HEND.out.2.1.1.isRows, HEND.out.2.1.2.isInts⟩, by unfold SweepIs; rw [if_neg H0.out]; exact ⟨rfl, rfl, rfl⟩⟩, HEND.out.2.2⟩
end Go.Proofs.YtelmfccpcejdnaaDoor
