/- Maps of one's own from ints to ints: what they tell; what a store and a delete do. -/
import Derived.Test.YtjcikoaoemingaaDoorBase
import Derived.Maps.Own
import Derived.Maps.OwnOps
import Derived.Maps.OwnSet
import Derived.Maps.Keyed
import Derived.Lib.SlKeysI
namespace Go.Proofs.YtjcikoaoemingaaDoor
open Go.RowKit Go.Maps

theorem int_keys : Keyed Tryd.prog 3 := int_keyed Tryd.underlying3
theorem wf64 {z : Int} (h1 : -9223372036854775808 ≤ z) (h2 : z < 9223372036854775808) : (Lit.int .i64 z).wf = true := WalkArith.wf_i64 (by omega)
theorem keyOf_int {z : Int} (h : (Lit.int .i64 z).wf = true) : keyOf Tryd.prog 3 (.int .i64 z) = some (.int .i64 z) := by
  unfold keyOf
  rw [Tryd.underlying3]
  simp [mapKey, h]
theorem keyLitI (z : Int) : WideAt.IsKeyLit (Lit.int .i64 z) := trivial

/-- What a map tells of a number. -/
def TellI {H : Type} (D : DataW H) (z : Int) : Option Int → Prop
  | none => has D (.int .i64 z) = false
  | some x => has D (.int .i64 z) = true ∧ ∀ y, D.atKey (.int .i64 z) y = .lit (.int .i64 x)
/-- Block b is a map of no more than n entries, which tells T. -/
def IsMapI (H : Type) (W : World) (b n : Nat) (T : Int → Option Int) : Prop :=
  ∃ D : DataW H, W.ownsMap Tryd.prog 3 (plainElem Tryd.prog 3) b n D ∧ ∀ z, TellI D z (T z)
section
variable {H : Type} {W W' : World} {b n : Nat} {T : Int → Option Int}
theorem IsMapI.lt (h : IsMapI H W b n T) : b < W.heap.size := by obtain ⟨D, h, _⟩ := h; exact h.lt
theorem IsMapI.obj (h : IsMapI H W b n T) : ∃ es ck, W.heap[b]? = some (.map es ck) := by obtain ⟨D, ⟨es, ck, hh, _⟩, _⟩ := h; exact ⟨es, ck, hh⟩
theorem IsMapI.same (h : IsMapI H W b n T) (he : W'.heap[b]? = W.heap[b]?) : IsMapI H W' b n T := by
  obtain ⟨D, ⟨es, ck, hh, r⟩, h2⟩ := h; exact ⟨D, ⟨es, ck, he.trans hh, r⟩, h2⟩
theorem IsMapI.mono (h : IsMapI H W b n T) {m : Nat} (hm : n ≤ m) : IsMapI H W b m T := by
  obtain ⟨D, h1, h2⟩ := h; exact ⟨D, h1.mono hm, h2⟩
theorem isMapI_new (W : World) : IsMapI H (W.alloc (.map #[] 0)) W.heap.size 0 fun _ => none :=
  ⟨.map [], World.ownsMap_made W _ _ _, fun _ => rfl⟩
theorem tell_put {D : DataW H} (hD : IsMap D) (ht : ∀ z, TellI D z (T z)) (k x : Int) : ∀ z, TellI (D.put (.int .i64 k) (.lit (.int .i64 x))) z (if z = k then some x else T z) := by
  intro z
  by_cases e : z = k
  · subst e
    rw [if_pos rfl]
    exact ⟨has_put_same hD (keyLitI _) _, fun y => atKey_put_same hD (keyLitI _) _ y⟩
  · rw [if_neg e]
    have hne : (Lit.int .i64 z) ≠ .int .i64 k := fun h => e (by simpa using h)
    have := ht z
    cases hT : T z with
    | none => rw [hT] at this; exact (has_put_other hne _).trans this
    | some y => rw [hT] at this; exact ⟨(has_put_other hne _).trans this.1, fun y' => (atKey_put_other hne _ y').trans (this.2 y')⟩
theorem tell_del {D : DataW H} (ht : ∀ z, TellI D z (T z)) (k : Int) : ∀ z, TellI (D.del (.int .i64 k)) z (if z = k then none else T z) := by
  intro z
  by_cases e : z = k
  · subst e
    rw [if_pos rfl]
    exact has_del_same
  · rw [if_neg e]
    have hne : (Lit.int .i64 z) ≠ .int .i64 k := fun h => e (by simpa using h)
    have := ht z
    cases hT : T z with
    | none => rw [hT] at this; exact (has_del_other hne).trans this
    | some y => rw [hT] at this; exact ⟨(has_del_other hne).trans this.1, fun y' => (atKey_del_other hne y').trans (this.2 y')⟩
theorem tell_has {D : DataW H} {z : Int} {o : Option Int} (h : TellI D z o) : has D (.int .i64 z) = o.isSome := by
  cases o with
  | none => exact h
  | some x => exact h.1
theorem tell_at {D : DataW H} {z : Int} {o : Option Int} (h : TellI D z o) : D.atKey (.int .i64 z) (.lit (.int .i64 0)) = .lit (.int .i64 (o.getD 0)) := by
  cases o with
  | none => exact atKey_of_not_has h _
  | some x => exact h.2 _
end

theorem nd_below : ∀ (n : Nat) (l : List Nat), l.Nodup → (∀ x, x ∈ l → x < n) → l.length ≤ n
  | 0, l, _, h => by cases l with | nil => simp | cons x r => exact absurd (h x List.mem_cons_self) (Nat.not_lt_zero _)
  | n + 1, l, hn, h => by
    have h1 : (l.erase n).length ≤ n := nd_below n _ (hn.erase _) fun x hx => by
      have := h x (List.mem_of_mem_erase hx)
      have hne : x ≠ n := fun e => by subst e; exact (List.Nodup.not_mem_erase hn) hx
      omega
    by_cases hm : n ∈ l
    · have := List.length_erase_of_mem hm; omega
    · rw [List.erase_of_not_mem hm] at h1; omega
/-- All keys lie from 0 to N - 1: so there are no more than N entries. -/
theorem IsMapI.tight {H : Type} {W : World} {b n N : Nat} {T : Int → Option Int} (h : IsMapI H W b n T) (hT : ∀ z, T z ≠ none → 0 ≤ z ∧ z < N) : IsMapI H W b N T := by
  obtain ⟨D, h, ht⟩ := h
  refine ⟨D, ?_, ht⟩
  have hcan := h
  obtain ⟨es, ck, hh, F, _, hD⟩ := h
  refine ⟨es, ck, hh, F, ?_, hD⟩
  have hk : ∀ x, x ∈ es.toList → ∃ z : Int, x.key = .int .i64 z ∧ 0 ≤ z ∧ z < N := fun x hx => by
    obtain ⟨y, hy⟩ := F.reads x hx
    obtain ⟨z, hz, hl, _⟩ := keyOf_i64 Tryd.underlying3 (WideElems.rd_key hy)
    refine ⟨z, hz, hT z fun hn => ?_⟩
    have h1 := ht z
    rw [hn] at h1
    have h2 : has D (.int .i64 z) = true := by
      rw [hD, has_eq, List.any_eq_true]
      refine ⟨WideElems.rg Tryd.prog 3 (plainElem Tryd.prog 3) x, (WideShapes.sorted_perm _).mem_iff.2 (List.mem_map.2 ⟨x, hx, rfl⟩), ?_⟩
      rw [WideElems.rg_of hy, hl]
      simp [Lit.sameKey]
    rw [show has D (.int .i64 z) = false from h1] at h2
    cases h2
  have hp : es.toList.Pairwise (fun x y => x.key ≠ y.key) := ((MapKept.stamped_iff es ck).1 F.stamped).2.2
  classical
  let f : MapEntry → Nat := fun x => (RowKit.intOf x.key).toNat
  have hn : (es.toList.map f).Nodup := by
    unfold List.Nodup
    rw [List.pairwise_map]
    refine List.Pairwise.imp_of_mem ?_ hp
    intro x y hx hy hne e
    obtain ⟨z, h1, h2, h3⟩ := hk x hx
    obtain ⟨z', h1', h2', h3'⟩ := hk y hy
    simp only [f, h1, h1', RowKit.intOf] at e
    have : z = z' := by omega
    exact hne (by rw [h1, h1', this])
  have := nd_below N _ hn (fun i hi => by
    obtain ⟨x, hx, rfl⟩ := List.mem_map.1 hi
    obtain ⟨z, h1, h2, h3⟩ := hk x hx
    simp only [f, h1, RowKit.intOf]
    omega)
  simpa using this
end Go.Proofs.YtjcikoaoemingaaDoor
