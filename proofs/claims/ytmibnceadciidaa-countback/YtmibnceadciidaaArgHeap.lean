/- A heap that is handed in, and rows of numbers: from the reading to plain words. -/
import Derived.Test.YtmibnceadciidaaHeapI
import Derived.Test.YtmibnceadciidaaCame
import Derived.Lib.SmallJoins
import Derived.Deep.Matrix
namespace Go.Proofs.Ytmibnceadciidaa
set_option maxRecDepth 100000
open Go.ChangeShapes Go.WideShapes Go.ChangeAt Go.RowKit Go.Sort Go.Deep

theorem plain_addr {w : World} {a : Addr} {u : Value} (h : w.cell? (a.add 0) = some u) : ∃ b off, a = ⟨b, off, none⟩ := by
  obtain ⟨b, off, sp⟩ := a
  have hsp : sp = none := by
    unfold World.cell? at h
    split at h
    · split at h
      · cases h
      · rename_i hq
        simpa [Addr.add] using hq
    · cases h
  subst hsp
  exact ⟨b, off, rfl⟩
/-- A row of numbers by its cells. -/
theorem isInts_of {w : World} {ao : Option Addr} {n cap : Nat} {zs : List Int} (hz : zs.length = cap) (hn : n ≤ cap) (hcap : cap ≤ maxLen) (h0 : ao = none → cap = 0) (hc : ∀ a, ao = some a → ∀ c, c < cap → w.cell? (a.add c) = some (.int .i64 (zs.getD c 0))) : IsInts w (.slice ao n cap) (zs.take n) := by
  have hl : (zs.take n).length = n := by simp; omega
  by_cases h : n = 0
  · subst h
    exact .inl ⟨by simp, _, _, rfl, hcap⟩
  · cases ao with
    | none => have := h0 rfl; omega
    | some a =>
      have hc := hc a rfl
      obtain ⟨b, off, rfl⟩ := plain_addr (hc 0 (by omega))
      refine .inr ⟨b, off, cap, by rw [hl], by omega, by omega, hcap, fun j hj => ?_⟩
      have hj' : j < n := by omega
      have h2 := hc j (by omega)
      rw [add_plain] at h2
      rw [List.getElem?_take_of_lt hj', ← List.getD_eq_getElem?_getD]
      exact h2
theorem came_of {w : World} {ao : Option Addr} {n cap : Nat} {zs : List Int} (hz : zs.length = cap) (hn : n ≤ cap) (h0 : ao = none → cap = 0) (hc : ∀ a, ao = some a → ∀ c, c < cap → w.cell? (a.add c) = some (.int .i64 (zs.getD c 0))) : Came w (.slice ao n cap) (zs.take n) := by
  have hl : (zs.take n).length = n := by simp; omega
  cases ao with
  | none =>
    have h1 := h0 rfl
    have h2 : n = 0 := by omega
    subst h1; subst h2
    exact .inl ⟨rfl, by simp⟩
  | some a =>
    refine .inr ⟨a, cap, by rw [hl], fun j u hj => ?_⟩
    have hjl : j < n := by have := (List.getElem?_eq_some_iff.1 hj).1; simp at this; omega
    rw [List.getElem?_map, List.getElem?_take_of_lt hjl, List.getElem?_eq_getElem (by omega : j < zs.length)] at hj
    have := hc a rfl j (by omega)
    rw [List.getD_eq_getElem?_getD, List.getElem?_eq_getElem (by omega : j < zs.length)] at this
    rw [this]
    simpa using hj
theorem trod_ints {H : Type} {enc : TypeId × Value → H} {W : World} {n : Nat} {v : Value} {y : DataW H × List MemPlace} (h : DataW.trod enc Try.prog W 0 (fun _ => true) true n 26 [v] = some y) : ∃ l, IsInts W v l ∧ Came W v l := by
  rcases open_ints Try.underlying26 Try.underlying3 (by kernel_rfl) h with ⟨h0, _⟩ | ⟨a, len', cap', zs, h1, _, hlc, hcap, hzl, _, hcell, hw⟩
  · have hv : v = .slice none 0 0 := by simpa using h0
    exact ⟨[], .inl ⟨rfl, none, 0, hv, by simp⟩, .inl ⟨hv, rfl⟩⟩
  · have hv : v = .slice (some a) len' cap' := by simpa using h1
    have hzl' : zs.length = cap' := by simpa using hzl
    subst hv
    have hc : ∀ a', some a = some a' → ∀ c, c < cap' → W.cell? (a'.add c) = some (.int .i64 (zs.getD c 0)) := fun a' e c hc => by cases e; exact hcell c (by omega)
    exact ⟨zs.take len', isInts_of hzl' hlc hcap (fun e => by cases e) hc, came_of hzl' hlc (fun e => by cases e) hc⟩
theorem trod_rows {H : Type} {enc : TypeId × Value → H} {W : World} {n : Nat} {v : Value} {y : DataW H × List MemPlace} (h : DataW.trod enc Try.prog W 0 (fun _ => true) true n 22 [v] = some y) : ∃ L, IsRows W v L := by
  rcases open_int_rows Try.underlying22 Try.underlying26 Try.underlying3 (by kernel_rfl) (by kernel_rfl) h with ⟨h0, _⟩ | ⟨a, len, cap, A, L, C, Z, h1, _, hlc, hcap, _, hr⟩
  · have hv : v = .slice none 0 0 := by simpa using h0
    exact ⟨[], none, 0, hv, by simp, fun k hk => by simp at hk⟩
  · have hv : v = .slice (some a) len cap := by simpa using h1
    subst hv
    have hl : ((List.range len).map fun r => (Z r).take (L r)).length = len := by simp
    refine ⟨(List.range len).map fun r => (Z r).take (L r), some a, cap, by rw [hl], hcap, fun k hk => ?_⟩
    rw [hl] at hk ⊢
    obtain ⟨e1, r1, r2, r3, _, r5, r6⟩ := hr k (by omega)
    obtain ⟨b, off, rfl⟩ := plain_addr (hr 0 (by omega)).1
    have hcl := e1
    rw [add_plain] at hcl
    refine ⟨b, off, rfl, hlc, World.block_lt_of_cell? W _ hcl, _, hcl, ?_⟩
    have e : rowAt ((List.range len).map fun r => (Z r).take (L r)) k = (Z k).take (L k) := by
      unfold rowAt
      rw [List.getElem?_map, List.getElem?_range hk]; rfl
    rw [e]
    exact isInts_of r3 r1 r2 r5 fun a' ha' => (r6 a' ha').2
/-- The roots as they came in. -/
def CameH (w : World) (v : Value) (R : List Int) : Prop := ∃ vo vr, v = .agg #[vo, vr] ∧ Came w vr R
theorem arg_heap {H : Type} {enc : TypeId × Value → H} {W : World} {base : Nat} {v : Value} {d : DataW H} {ps : List MemPlace}
    (hok : Value.okWide Try.prog W .any base 28 v) (h : DataW.Trod enc Try.prog W 0 (fun _ => true) true 28 v d ps) : ∃ L R, IsHeap W v L R ∧ CameH W v R := by
  obtain ⟨vo, vr, y0, y1, n, rfl, _, _, t0, t1⟩ := Go.Joins.open_agg2 Try.underlying28 (by kernel_rfl) (by kernel_rfl) hok h
  obtain ⟨L, hL⟩ := trod_rows t0
  obtain ⟨R, hR, hC⟩ := trod_ints t1
  exact ⟨L, R, ⟨vo, vr, rfl, hL, hR⟩, ⟨vo, vr, rfl, hC⟩⟩
theorem arg_rows {H : Type} {enc : TypeId × Value → H} {W : World} {base : Nat} {v : Value} {d : DataW H} {ps : List MemPlace}
    (hok : Value.okWide Try.prog W .any base 22 v) (h : DataW.Trod enc Try.prog W 0 (fun _ => true) true 22 v d ps) : ∃ L, IsRows W v L := by
  obtain ⟨a0, len, cap, rfl⟩ := okWide_slice Try.underlying22 hok
  obtain ⟨fuel, hf⟩ := h
  exact trod_rows (v := .slice a0 len cap) (by simpa [Value.cells] using hf)
end Go.Proofs.Ytmibnceadciidaa
