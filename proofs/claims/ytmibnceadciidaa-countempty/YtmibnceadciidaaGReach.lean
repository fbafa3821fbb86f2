/- The walk of graph.Reach. -/
import Derived.Test.YtmibnceadciidaaGSpread
import Derived.Test.YtmibnceadciidaaSince
import Derived.Laws.AppendOwn
namespace Go.Proofs.Ytmibnceadciidaa
set_option maxRecDepth 100000
open Go.RowKit Go.Sort

theorem spread_from {v : Value} {L : List (List Int)} {R S : List Int} {w0 W : World} (hv : IsHeap w0 v L R) (hf : FineH L R) (hS : ∀ x, x ∈ S → 0 ≤ x ∧ x < L.length) (hb : Hid (Below w0.heap.size w0 W)) :
    Calls Try.prog 29 #[v, .int .i64 (setM S : Nat)] W fun e w' => ∃ m' : Nat, e = .returned (.int .i64 (m' : Nat)) ∧ Hid (Comes L S m') ∧ Hid (Below w0.heap.size w0 w') := by
  refine (spread_comes v L R S W (hv.below hb.out) hf hS).mono ?_
  rintro e w' ⟨⟨m', rfl, hm⟩, hb2⟩
  exact ⟨m', rfl, hm, hb.out.trans (hb2.mono hb.out.size)⟩
theorem setof_from {v : Value} {l : List Int} {w0 W : World} (hv : IsInts w0 v l) (hl : allIn l) (hb : Hid (Below w0.heap.size w0 W)) :
    Calls Try.prog 30 #[v] W fun e w' => e = .returned (.int .i64 (setM l)) ∧ w' = W := setof_any v l W (hv.below hb.out) hl
/-- What Reach says. -/
def ReachIs (L : List (List Int)) (R : List Int) (m : Nat) : Prop := if chkH L R = 0 then Comes L R m else m = 0
set_option maxHeartbeats 1000000 in
theorem reach_any (v : Value) (L : List (List Int)) (R : List Int) (w : World) (hv : IsHeap w v L R) :
    Calls Try.prog 14 #[v] w fun e w' => (∃ m : Nat, e = .returned (.tuple #[.int .i64 (m : Nat), errV (chkH L R)]) ∧ ReachIs L R m) ∧ Below w.heap.size w w' := by
  obtain ⟨ao, co, ar, cr, rfl, h1, h2⟩ := hv.form
  have HBX : Hid (Boxed w (w.alloc (.cells #[.slice ao L.length co, .slice ar R.length cr] 28)) w.heap.size ao co ar cr L R) := boxed h1 h2 _
  have hd0 : (w.alloc (.cells #[.slice ao L.length co, .slice ar R.length cr] 28)).cell? ⟨w.heap.size, 0, none⟩ = some (.slice ao L.length co) := HBX.out.outs
  have hd1 : (w.alloc (.cells #[.slice ao L.length co, .slice ar R.length cr] 28)).cell? ⟨w.heap.size, 1, none⟩ = some (.slice ar R.length cr) := HBX.out.roots
  clear hv h1 h2
  by_cases h0 : chkH L R = 0
  · have HF : Hid (FineH L R) := chkH_zero.1 h0
    have H0 : Hid (chkH L R = 0) := h0
    clear h0
    go_enter Try.func14, Try.ntmps14
    go_wp2_with (go_at_call 28; fail)
    generalize w.alloc (.cells #[.slice ao L.length co, .slice ar R.length cr] 28) = W at *
    refine (gcheck_any _ L R _ HBX.out.isHeap).mono ?_
    rintro e w2 ⟨rfl, hb2⟩
    rw [H0.out, show errV 0 = .nilIface from rfl]
    have HB2 : Hid (Boxed w w2 w.heap.size ao co ar cr L R) := HBX.out.later hb2
    have hd0 : w2.cell? ⟨w.heap.size, 0, none⟩ = some (.slice ao L.length co) := HB2.out.outs
    have hd1 : w2.cell? ⟨w.heap.size, 1, none⟩ = some (.slice ar R.length cr) := HB2.out.roots
    clear hb2 HBX
    go_wp2_with fail
    go_region_held3 (fun w' => w'.cell? ⟨w.heap.size, 0, none⟩ = some (.slice ao L.length co) ∧ w'.cell? ⟨w.heap.size, 1, none⟩ = some (.slice ar R.length cr) ∧ Hid (Below w2.heap.size w2 w'))
      ((go_split_ands; refine ⟨kept_cell hd0 ?_, kept_cell hd1 ?_, ?_⟩ <;> first | assumption | (apply kept_drew; first | assumption | exact kept_start _) | exact kept_start _))
      (first | (go_at_call 30; go_split_ands; refine (setof_from HB2.out.ints HF.out.root16 (by assumption)).mono ?_; rintro e w3 ⟨rfl, rfl⟩) | (go_at_call 29; go_split_ands; refine (spread_from HB2.out.isHeap HF.out HF.out.root (by assumption)).mono ?_; rintro e w3 ⟨m', rfl, HM, HB3⟩))
    all_goals go_wp2
    all_goals go_ret2
    all_goals exact ⟨⟨_, by rw [H0.out]; rfl, by unfold ReachIs; rw [if_pos H0.out]; exact HM.out⟩, HB2.out.below.trans (HB3.out.mono HB2.out.below.size)⟩
  · have HE : Hid (errV (chkH L R) = .iface 54 (.int .i64 (chkH L R))) := errV_pos h0
    have H0 : Hid (chkH L R ≠ 0) := h0
    clear h0
    go_enter Try.func14, Try.ntmps14
    go_wp2_with (go_at_call 28; go_must (refine (gcheck_any _ L R _ HBX.out.isHeap).mono ?_; rintro e w2 ⟨rfl, hb2⟩; rw [HE.out]))
    go_ret2
    exact ⟨⟨0, by rw [HE.out]; rfl, by unfold ReachIs; rw [if_neg H0.out]⟩, HBX.out.below.trans (hb2.mono HBX.out.below.size)⟩
end Go.Proofs.Ytmibnceadciidaa
