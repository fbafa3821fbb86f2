/- A slice of ints that came in, whole: appended to a slice of one's own; and how great it may be. -/
import Derived.Test.YtmibnceadciidaaBools
import Derived.Test.YtmibnceadciidaaLawkit
import Derived.Laws.AppendOwnNone
namespace Go.Proofs.Ytmibnceadciidaa
set_option maxRecDepth 100000
open Go.ChangeShapes Go.WideShapes Go.ChangeAt Go.RowKit Go.Sort

/-- v came in and holds l: nil, or at an address. -/
def Came (w : World) (v : Value) (l : List Int) : Prop :=
  (v = .slice none 0 0 ∧ l = []) ∨ ∃ a cap, v = .slice (some a) l.length cap ∧ ∀ j u, (l.map (Value.int .i64))[j]? = some u → w.cell? (a.add j) = some u

theorem Came.below {w w' : World} {v : Value} {l : List Int} (h : Came w v l) (hb : Below w.heap.size w w') : Came w' v l := by
  rcases h with h | ⟨a, cap, hv, hc⟩
  · exact .inl h
  · refine .inr ⟨a, cap, hv, fun j u hj => ?_⟩
    have := hc j u hj
    rw [hb.cell (World.block_lt_of_cell? w _ this)]
    exact this

theorem Came.form {w : World} {v : Value} {l : List Int} (h : Came w v l) : ∃ ao cap, v = .slice ao l.length cap := by
  rcases h with ⟨rfl, rfl⟩ | ⟨a, cap, rfl, _⟩
  · exact ⟨none, 0, rfl⟩
  · exact ⟨some a, cap, rfl⟩

theorem append_came {w : World} {ops : Array Oper} {rest : List Oper} {o : Oper} {a : Act} {Q : Exit → Act → World → Prop} (hgd : o.guard = none) (s x : Operand)
    (ho : o.op = .call { callee := .builtin .append, args := #[s, x], argTypes := #[26, 26] }) (base : Nat) (v vx : Value) (xs l : List Int) (hs : a.eval s = v) (hx : a.eval x = vx) (hown : OwnI w base v xs) (hc : Came w vx l) (hB : base ≤ w.heap.size)
    (hlen : (xs.length + l.length) * 8 ≤ 140737488355328) (h : ∀ v' w', OwnI w' base v' (xs ++ l) → w.grownBy w' v.ownBlock → wpList Try.prog ops Q rest (a.put o.dst v') w') : wpList Try.prog ops Q (o :: rest) a w := by
  obtain ⟨i0, hi, hz0, hz1, hz2⟩ := info_parts Try.info3
  rcases hc with ⟨rfl, rfl⟩ | ⟨ad, cap, rfl, hcell⟩
  · refine wpList_append_own_none hgd s x 26 ho base 3 i0 1 Try.underlying26 hi v xs.length (xs.map (Value.int .i64)) hs hown hx ?_
    have := h v w (by simpa using hown) (World.grownBy.refl _ _)
    exact this
  · refine wpList_append_own w hgd s x 26 ho base 3 i0 (.int .i64 0) 1 8 Try.underlying26 hi hz0 hz1 hz2 rfl (by decide) v xs.length (xs.map (Value.int .i64)) hs hown ad l.length cap (l.map (Value.int .i64)) hx (by simp) hcell ?_ (by unfold maxLen; omega) hlen hB ?_
    · intro u hu
      obtain ⟨y, _, rfl⟩ := List.mem_map.1 hu
      rfl
    · intro v' w' h1 h2 _
      refine h v' w' ?_ h2
      unfold OwnI
      rw [List.length_append, List.map_append]
      exact h1

/-- A []int argument: what it holds, how it lies, how great it is. -/
theorem arg_came {H : Type} {enc : TypeId × Value → H} {W : World} {base : Nat} {ts : List TypeId} {ds : List (DataW H)} {j : Nat} {v : Value} {d : DataW H} {ps : List MemPlace}
    (hsz : (DataW.weightsEach Try.prog ts ds).all (· ≤ reachBytes) = true) (htj : ts[j]? = some 26) (hdj : ds[j]? = some d)
    (hok : Value.okWide Try.prog W .any base 26 v) (h : DataW.Trod enc Try.prog W 0 (fun _ => true) true 26 v d ps) :
    ∃ l, IsInts W v l ∧ Came W v l ∧ l.length * 8 ≤ 140737488351232 := by
  obtain ⟨a0, len, cap, rfl⟩ := okWide_slice Try.underlying26 hok
  obtain ⟨fuel, hf⟩ := h
  rcases open_ints Try.underlying26 Try.underlying3 (by kernel_rfl) hf with ⟨h0, _⟩ | ⟨a, len', cap', zs, h1, _, hlc, hcap, hzl, hdd, hcell, hw⟩
  · have hv : Value.slice a0 len cap = .slice none 0 0 := by simpa [Value.cells] using h0
    exact ⟨[], .inl ⟨rfl, none, 0, hv, by simp⟩, .inl ⟨hv, rfl⟩, by simp⟩
  · have hv : Value.slice a0 len cap = .slice (some a) len' cap' := by simpa [Value.cells] using h1
    rw [hv]
    have hzl' : zs.length = cap' := by simpa using hzl
    have hlen : (zs.take len').length = len' := by simp; omega
    have hreach : len' * 8 ≤ 140737488351232 := by
      simp only [Prod.mk.injEq] at hdd
      obtain ⟨rfl, _⟩ := hdd
      have := sized_slice hsz (j := j) (t := 26) (e := 3) htj hdj Try.underlying26
      rw [show Try.prog.bytesOf 3 = 8 by kernel_rfl] at this
      simp only [lits, List.length_map, List.length_take, List.length_drop, reachBytes] at this
      omega
    refine ⟨zs.take len', ?_, .inr ⟨a, cap', by rw [hlen], ?_⟩, by rw [hlen]; exact hreach⟩
    · by_cases h0 : len' = 0
      · subst h0
        exact .inl ⟨by simp, _, _, rfl, hcap⟩
      · obtain ⟨b, off, rfl, hc⟩ := ints_at hcell (by omega)
        refine .inr ⟨b, off, cap', by rw [hlen], by omega, by omega, hcap, fun j hj => ?_⟩
        have hj' : j < len' := by omega
        rw [List.getElem?_take_of_lt hj', ← List.getD_eq_getElem?_getD]
        exact hc j (by omega)
    · intro j u hj
      have hjl : j < len' := by have := (List.getElem?_eq_some_iff.1 hj).1; simp at this; omega
      rw [List.getElem?_map, List.getElem?_take_of_lt hjl, List.getElem?_eq_getElem (by omega : j < zs.length)] at hj
      have := hcell j (by omega)
      rw [List.getD_eq_getElem?_getD, List.getElem?_eq_getElem (by omega : j < zs.length)] at this
      rw [this]
      simpa using hj
end Go.Proofs.Ytmibnceadciidaa
