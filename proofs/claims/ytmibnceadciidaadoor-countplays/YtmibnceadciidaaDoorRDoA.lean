/- The document's Do (larderwickref2), whatever it is. -/
import Derived.Test.YtmibnceadciidaaDoorRDo1
import Derived.Test.YtmibnceadciidaaDoorRDo2
import Derived.Test.YtmibnceadciidaaDoorRDo3
namespace Go.Proofs.YtmibnceadciidaaDoor
set_option maxRecDepth 100000
open Go.ChangeShapes Go.WideShapes Go.ChangeAt Go.RowKit Go.Sort Go.Maps

set_option maxHeartbeats 4000000 in
theorem rdo_nolink {S : Nat → Prop} (c : KS) (i j : Int) (vo vr vh : Value) (B : Nat) (w : World) (h : OwnK S w B vo vr vh c) (hc : KGood c) (hB : B ≤ w.heap.size) (hS : ∀ k, S k → k < w.heap.size) (hi : c.is i = false) :
    Calls Tryd.prog 6 #[.agg #[vo, vr, vh], .int .i64 3, .int .i64 i, .int .i64 j] w (DoIs S w B c 3 i j) := by
  obtain ⟨ao, co, ar, cr, ah, ch, rfl, rfl, rfl, hco, hcr, hch⟩ := h.isK.forms
  have HB : Hid (KB2 S w ((w.alloc (.cells #[.slice ao c.outs.length co, .slice ar c.roots.length cr, .slice ah c.here.length ch] 28)).alloc (.cells #[.slice none 0 0, .slice none 0 0, .slice none 0 0] 28)) B w.heap.size (.slice ao c.outs.length co) (.slice ar c.roots.length cr) (.slice ah c.here.length ch) c) := KB2.new h hB hS
  have HC : Hid (KGood c) := hc
  have HR12 : Hid (c.roots.length ≤ 12) := hc.roots
  clear h hc hS
  have HI : Hid (c.is i = false) := hi
  have HD : Hid (c.doK 3 i j = (c, 0, 1)) := by
    unfold Hid KS.doK
    rw [if_neg (show ¬ (3 : Int) = 0 by decide), if_pos (.inl hi)]
  clear hi
  go_enter Tryd.func6, Tryd.ntmps6
  go_wp2_with (go_at_call_of 20 (Value.int .i64 i); go_must (refine (ris_any c i _ _ _ _ HB.out.kb.own.isK).mono ?_; rintro e w1 ⟨rfl, hb⟩; have HK1 : Hid _ := HB.out.later hb; clear hb; obtain ⟨hx0, hx1, hx2, hf0, hf1, hf2⟩ := HK1.out.cells; rw [HI.out]; obtain ⟨hX0, hX1, hX2, hY0, hY1, hY2⟩ := tri_cells HK1.out.res; have HEND : Hid _ := HK1.out.end_))
  refine bodyPost_ret_by (results_cell2_row Tryd.results6 _ _ (w.heap.size + 1) 28 _ (0, 0) _ rfl HEND.out.1 Tryd.underlying28 rfl (by kernel_rfl)) rfl ?_
  unfold DoIs
  rw [HD.out]
  exact ⟨_, _, _, rfl, HEND.out.2.1, HEND.out.2.2⟩
set_option maxHeartbeats 4000000 in
theorem rdo_nocut {S : Nat → Prop} (c : KS) (i j : Int) (vo vr vh : Value) (B : Nat) (w : World) (h : OwnK S w B vo vr vh c) (hc : KGood c) (hB : B ≤ w.heap.size) (hS : ∀ k, S k → k < w.heap.size) (hi : c.is i = false) :
    Calls Tryd.prog 6 #[.agg #[vo, vr, vh], .int .i64 4, .int .i64 i, .int .i64 j] w (DoIs S w B c 4 i j) := by
  obtain ⟨ao, co, ar, cr, ah, ch, rfl, rfl, rfl, hco, hcr, hch⟩ := h.isK.forms
  have HB : Hid (KB2 S w ((w.alloc (.cells #[.slice ao c.outs.length co, .slice ar c.roots.length cr, .slice ah c.here.length ch] 28)).alloc (.cells #[.slice none 0 0, .slice none 0 0, .slice none 0 0] 28)) B w.heap.size (.slice ao c.outs.length co) (.slice ar c.roots.length cr) (.slice ah c.here.length ch) c) := KB2.new h hB hS
  have HC : Hid (KGood c) := hc
  have HR12 : Hid (c.roots.length ≤ 12) := hc.roots
  clear h hc hS
  have HI : Hid (c.is i = false) := hi
  have HD : Hid (c.doK 4 i j = (c, 0, 1)) := by
    unfold Hid KS.doK
    rw [if_neg (show ¬ (4 : Int) = 0 by decide), if_pos (.inl hi)]
  clear hi
  go_enter Tryd.func6, Tryd.ntmps6
  go_wp2_with (go_at_call_of 20 (Value.int .i64 i); go_must (refine (ris_any c i _ _ _ _ HB.out.kb.own.isK).mono ?_; rintro e w1 ⟨rfl, hb⟩; have HK1 : Hid _ := HB.out.later hb; clear hb; obtain ⟨hx0, hx1, hx2, hf0, hf1, hf2⟩ := HK1.out.cells; rw [HI.out]; obtain ⟨hX0, hX1, hX2, hY0, hY1, hY2⟩ := tri_cells HK1.out.res; have HEND : Hid _ := HK1.out.end_))
  refine bodyPost_ret_by (results_cell2_row Tryd.results6 _ _ (w.heap.size + 1) 28 _ (0, 0) _ rfl HEND.out.1 Tryd.underlying28 rfl (by kernel_rfl)) rfl ?_
  unfold DoIs
  rw [HD.out]
  exact ⟨_, _, _, rfl, HEND.out.2.1, HEND.out.2.2⟩
theorem rdo_any {S : Nat → Prop} (c : KS) (kind i j : Int) (vo vr vh : Value) (B : Nat) (w : World) (h : OwnK S w B vo vr vh c) (hc : KGood c) (hB : B ≤ w.heap.size) (hS : ∀ k, S k → k < w.heap.size) (hk : kind = 0 ∨ kind = 1 ∨ kind = 2 ∨ kind = 3 ∨ kind = 4) :
    Calls Tryd.prog 6 #[.agg #[vo, vr, vh], .int .i64 kind, .int .i64 i, .int .i64 j] w (DoIs S w B c kind i j) := by
  rcases hk with rfl | rfl | rfl | rfl | rfl
  · exact rdo_make c i j vo vr vh B w h hc hB hS
  · exact rdo_root c i j vo vr vh B w h hc hB hS
  · exact rdo_drop c i j vo vr vh B w h hc hB hS
  · by_cases hi : c.is i = true
    · have hl := is_lt hi
      obtain ⟨n, rfl⟩ : ∃ n : Nat, i = (n : Int) := ⟨i.toNat, by omega⟩
      exact rdo_link c n j vo vr vh B w h hc hB hS hi
    · exact rdo_nolink c i j vo vr vh B w h hc hB hS (by simpa using hi)
  · by_cases hi : c.is i = true
    · have hl := is_lt hi
      obtain ⟨n, rfl⟩ : ∃ n : Nat, i = (n : Int) := ⟨i.toNat, by omega⟩
      exact rdo_cut c n j vo vr vh B w h hc hB hS hi
    · exact rdo_nocut c i j vo vr vh B w h hc hB hS (by simpa using hi)
end Go.Proofs.YtmibnceadciidaaDoor
