/- The walk of least.Start: a table of one state. -/
import Derived.Test.YtnjfmlojbaigjaaDoorPMade
import Derived.Deep.RegionLaw
import Derived.WideMake
import Derived.Deep.AppendLies
namespace Go.Proofs.YtnjfmlojbaigjaaDoor
namespace Pl
set_option maxRecDepth 100000
open Go.RowKit Go.Maps

theorem wpList_insert_own {H : Type} {P : Program} (w : World) {ops : Array Oper} {rest : List Oper} {o : Oper} {a : Act} {Q : Exit → Act → World → Prop}
    (hg : o.guard = none) (m x v : Operand) (t : TypeId) (hop : o.op = Op.insert t m x v)
    (k e : TypeId) (K : Keyed P k) (ht : P.underlying t = some (.map k e)) (R : Value → Option (DataW H × List MemPlace)) (b n : Nat) (D : DataW H)
    (hm : a.eval m = .map (some b)) (hown : w.ownsMap P k R b n D) (hn : n < maxLen) (key val : Value) (kl : Lit) (hx : a.eval x = key) (hv : a.eval v = val) (hkey : keyOf P k key = some kl)
    (d : DataW H) (ps : List MemPlace) (hval : R val = some (d, ps))
    (hK : ∀ w', w'.ownsMap P k R b (n + 1) (D.put kl d) → w.grownBy w' (some b) → wpList P ops Q rest (a.put o.dst undef) w') :
    wpList P ops Q (o :: rest) a w := by
  refine wpList_plain hg fun K' hK' => ?_
  obtain ⟨w', hrun, r1, r2⟩ := hown.update K ht hn hkey hval
  unfold Oper.wp
  simp [execOp, hop, hm, hx, hv, hrun, Result.andThen]
  exact hK' _ _ (hK w' r1 r2)

def oneT (s0 : P3) : P3 → Option Nat := fun s => if s = s0 then some 0 else none
theorem tell_nothing {H : Type} (s : P3) : Tell (.map [] : DataW H) s none := rfl
theorem tab_new (H : Type) (w : World) : IsTab H (w.alloc (.map #[] 0)) w.heap.size (fun _ => none) :=
  ⟨_, (World.ownsMap_made w Tryd.prog 47 (plainElem Tryd.prog 3)).mono (by omega), fun s => tell_nothing s, fun _ h => (by cases h)⟩
theorem ins_box {w w1 : World} {A : Array Value} {ta tb : TypeId} (hg : (((w.alloc (.cells A ta)).alloc (.cells #[.map none] tb)).alloc (.map #[] 0)).grownBy w1 (some (w.heap.size + 1 + 1))) : Boxed w1 (w.heap.size + 1) tb (.map none) := by
  have h := (Boxed.new (w.alloc (.cells A ta)) tb (.map none)).alloc (.map #[] 0)
  rw [World.size_alloc] at h
  exact h.kept hg (by simp)
theorem IsTab.setCell {H : Type} {W : World} {b : Nat} {T : P3 → Option Nat} (h : IsTab H W b T) {a : Addr} (ha : b ≠ a.block) (u : Value) : IsTab H (W.setCell a u) b T := by
  obtain ⟨D, h1, h2⟩ := h; exact ⟨D, h1.setCell ha u, h2⟩
set_option maxHeartbeats 1000000 in
theorem tstart_any (H : Type) (s : P3) (w : World) :
    Calls Tryd.prog 26 #[s.v] w fun e w' => (∃ b, e = .returned (.agg #[.map (some b)]) ∧ IsTab H w' b (oneT s)) ∧ Below w.heap.size w w' := by
  have HK : Hid (keyOf Tryd.prog 47 s.v = some s.key) := key_of s
  have hmk : ∀ w, (Instr.makeMap 48 none).run Tryd.prog w = .ok (.map (some w.heap.size)) (w.alloc (.map #[] 0)) := fun w => run_makeMap_plain (w := w) _
  have HOW : Hid ((((w.alloc (.cells s.cells 47)).alloc (.cells #[.map none] 50)).alloc (.map #[] 0)).ownsMap Tryd.prog 47 (plainElem (H := H) Tryd.prog 3) (w.heap.size + 1 + 1) 0 (.map [])) := by
    have := World.ownsMap_made (H := H) ((w.alloc (.cells s.cells 47)).alloc (.cells #[.map none] 50)) Tryd.prog 47 (plainElem Tryd.prog 3)
    simp at this
    exact this
  go_enter Tryd.func26, Tryd.ntmps26
  go_wp2_with (first | (refine wpList_insert_own (H := H) _ rfl _ _ _ 48 rfl 47 3 places_keyed Tryd.underlying48 (plainElem Tryd.prog 3) (w.heap.size + 1 + 1) 0 (.map []) rfl HOW.out (by unfold maxLen; omega) _ _ _ rfl rfl HK.out _ [] (plainElem_int Tryd.underlying3 (wf_small (x := 0) (by omega))) ?_; intro w1 hown1 hgrow1; have hB1 := ins_box hgrow1; have hc1 := hB1.cell; have hf1 := hB1.frozen))
  have hB2 := hB1.set (.map (some (w.heap.size + 1 + 1)))
  have hc2 := hB2.cell
  refine bodyPost_ret (v := .agg #[.map (some (w.heap.size + 1 + 1))]) (by simp [results, Tryd.results26, go_sem, hc2, Result.andThen]) rfl ⟨⟨_, rfl, ?_⟩, ?_⟩
  · exact (put_tab (T := fun _ => none) (T' := oneT s) HOW.out.isMap (fun _ h => (by cases h)) hown1 (fun t => tell_nothing t) (by simp [oneT]) (fun t e => by simp [oneT, e])).setCell (by simp) _
  · refine Below.setCell (p := ⟨w.heap.size + 1, 0, none⟩) (Below.grown ((((Below.refl _ w).alloc (Nat.le_refl _) _).alloc (by simp) _).alloc (by simp; omega) _) hgrow1 (by simp; omega) ?_) (by simp) _
    intro k hk
    cases hk
    omega
end Pl
end Go.Proofs.YtnjfmlojbaigjaaDoor
