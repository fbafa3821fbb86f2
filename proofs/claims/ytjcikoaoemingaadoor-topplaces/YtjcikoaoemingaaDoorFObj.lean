/- The walks of New, find, Lent and Holes; what a call may turn. -/
import Derived.Test.YtjcikoaoemingaaDoorFArena
namespace Go.Proofs.YtjcikoaoemingaaDoor
open Go.RowKit Go.Sort

/-- Of all blocks that lay, the arena's and rows of places from base on may be turned. -/
structure Alt (base a : Nat) (w w' : World) : Prop where
  os : w'.os = w.os
  tape : w'.tape = w.tape
  output : w'.output = w.output
  size : w.heap.size ≤ w'.heap.size
  block : ∀ k, k < w.heap.size → k ≠ a → (k < base ∨ ∀ cur, w.heap[k]? ≠ some (.cells cur 56 (0, 0))) → w'.heap[k]? = w.heap[k]?
section
variable {base a : Nat} {w w1 w2 : World}
theorem Alt.refl (base a : Nat) (w : World) : Alt base a w w := ⟨rfl, rfl, rfl, Nat.le_refl _, fun _ _ _ _ => rfl⟩
theorem Alt.trans (h : Alt base a w w1) (k : Alt base a w1 w2) : Alt base a w w2 :=
  ⟨k.os.trans h.os, k.tape.trans h.tape, k.output.trans h.output, Nat.le_trans h.size k.size, fun i hi h1 h2 => by
    have e := h.block i hi h1 h2
    refine (k.block i (Nat.lt_of_lt_of_le hi h.size) h1 ?_).trans e
    rcases h2 with h2 | h2
    · exact .inl h2
    · refine .inr fun cur => ?_
      rw [e]
      exact h2 cur⟩
theorem Alt.later (h : Below w.heap.size w w1) : Alt base a w w1 := ⟨h.os, h.tape, h.output, h.size, fun k hk _ _ => h.block k hk⟩
theorem Alt.turn {b : Nat} (h : Turn a b w w1) (hb : b = a ∨ (base ≤ b ∧ ∃ cur, w.heap[b]? = some (.cells cur 56 (0, 0)))) : Alt base a w w1 :=
  ⟨h.os, h.tape, h.output, h.size, fun k hk h1 h2 => h.block k hk h1 fun e => by
    subst e
    rcases hb with hb | ⟨hb, cur, hc⟩
    · exact h1 hb
    · rcases h2 with h2 | h2
      · omega
      · exact h2 cur hc⟩
theorem Alt.below {B : Nat} {w0 : World} (h : Alt base a w w1) (h0 : Below B w0 w) (hB : B ≤ w.heap.size) (hb : B ≤ base) (ha : B ≤ a) : Below B w0 w1 :=
  ⟨h.os.trans h0.os, h.tape.trans h0.tape, h.output.trans h0.output, Nat.le_trans h0.size h.size, fun k hk => (h.block k (by omega) (by omega) (.inl (by omega))).trans (h0.block k hk)⟩
theorem Alt.own {B : Nat} {v : Value} {l : List Int} (h : Alt base a w w1) (ho : OwnI w B v l) {cur : Array Value} {t : TypeId} {fz : Nat × Nat} (ha : w.heap[a]? = some (.cells cur t fz)) (ht : t ≠ 3) : OwnI w1 B v l := by
  refine ⟨ho.1, ?_⟩
  rcases ho.2 with h2 | ⟨g, cap, cur', rfl, hb, hg, r⟩
  · exact .inl h2
  · have hne : g ≠ a := by
      rintro rfl
      rw [hg] at ha
      simp at ha
      exact ht ha.2.1.symm
    refine .inr ⟨g, cap, cur', rfl, hb, (h.block g (Array.getElem?_eq_some_iff.1 hg).1 hne (.inr fun c e => ?_)).trans hg, r⟩
    rw [hg] at e
    simp at e
theorem Alt.box {X : Nat} {cur : Array Value} {t : TypeId} {fz : Nat × Nat} (h : Alt base a w w1) (hX : w.heap[X]? = some (.cells cur t fz)) (ht : t ≠ 56) (hne : X ≠ a) : w1.heap[X]? = some (.cells cur t fz) :=
  (h.block X (Array.getElem?_eq_some_iff.1 hX).1 hne (.inr fun c e => by
    rw [hX] at e
    simp at e
    exact ht e.2.1)).trans hX
end
/-- The row's block is not the arena's. -/
theorem FAr.apart {w : World} {base a : Nat} {v : Value} {cs : Array Value} {L : List (Nat × Nat)} (h1 : w.heap[a]? = some (.cells cs 61 (0, 0))) (h2 : OwnF w base v L) : v.ownBlock ≠ some a := by
  intro e
  obtain ⟨_, _, cur, hc⟩ := h2.kind e
  rw [h1] at hc
  simp at hc

set_option maxHeartbeats 1000000 in
theorem newF_any (w : World) : Calls Tryd.prog 12 #[] w fun e w' => ∃ a, e = .returned (.pointer (some ⟨a, 0, none⟩)) ∧ FAr w' w.heap.size a [] ∧ Below w.heap.size w w' := by
  go_enter Tryd.func12, Tryd.ntmps12
  go_wp2
  go_ret
  exact ⟨_, rfl, ⟨⟨_, heap_alloc_new w _, OwnF.nil _ _⟩, Nat.zero_le _, Nat.le_refl _⟩, (Below.refl _ w).alloc (Nat.le_refl _) _⟩

set_option maxHeartbeats 1000000 in
theorem find_any (base a : Nat) (L : List (Nat × Nat)) (z : Int) (w : World) (hA : FAr w base a L) :
    Calls Tryd.prog 28 #[.pointer (some ⟨a, 0, none⟩), .int .i64 z] w fun e w' => e = .returned (.tuple #[.int .i64 (posF L z : Nat), .bool (isF L z)]) ∧ Below w.heap.size w w' := by
  obtain ⟨v, hbx, hO⟩ := hA.row
  obtain ⟨hc, _⟩ := one_box hbx
  obtain ⟨ao, cap, rfl⟩ := hO.form
  have HO : Hid (OwnF w base (.slice ao L.length cap) L) := hO
  have HL : Hid (LaidF 0 L) := hA.laid
  clear hO hbx hA
  go_enter Tryd.func28, Tryd.ntmps28
  go_wp2_with (go_at_call 42; go_must (refine (search_any base _ L HL.out z _ HO.out).mono ?_; rintro e w1 ⟨rfl, hb⟩))
  go_ret2
  exact ⟨rfl, hb⟩

set_option maxHeartbeats 1000000 in
theorem lentF_any (base a : Nat) (L : List (Nat × Nat)) (w : World) (hA : FAr w base a L) :
    Calls Tryd.prog 19 #[.pointer (some ⟨a, 0, none⟩)] w fun e w' => ∃ v1 v2, e = .returned (.tuple #[v1, v2]) ∧ OwnI w' w.heap.size v1 (atsI L) ∧ OwnI w' w.heap.size v2 (ordsI L) ∧ Below w.heap.size w w' := by
  obtain ⟨v, hbx, hO⟩ := hA.row
  obtain ⟨hc, _⟩ := one_box hbx
  have hl := hA.most
  obtain ⟨ao, cap, rfl⟩ := hO.form
  have HO : Hid (OwnF w base (.slice ao L.length cap) L) := hO
  clear hO hbx hA
  go_enter Tryd.func19, Tryd.ntmps19
  go_wp2_with (go_at_call 26; go_must (refine (toldF_any base _ L (by omega) _ HO.out).mono ?_; rintro e w1 ⟨v1, v2, rfl, h1, h2, hb⟩))
  go_ret2
  exact ⟨_, _, rfl, h1, h2, hb⟩

set_option maxHeartbeats 1000000 in
theorem holesF_any (base a : Nat) (L : List (Nat × Nat)) (w : World) (hA : FAr w base a L) :
    Calls Tryd.prog 8 #[.pointer (some ⟨a, 0, none⟩)] w fun e w' => ∃ v1 v2, e = .returned (.tuple #[v1, v2]) ∧ OwnI w' w.heap.size v1 (atsI (holes 0 L)) ∧ OwnI w' w.heap.size v2 (ordsI (holes 0 L)) ∧ Below w.heap.size w w' := by
  have HA : Hid (FAr w base a L) := hA
  have hl : (holes 0 L).length ≤ 100 := by have := holes_len 0 L; have := hA.most; omega
  clear hA
  go_enter Tryd.func8, Tryd.ntmps8
  go_wp2_with (first | (go_at_call 27; go_must (refine (holesP_any base a L _ HA.out).mono ?_; rintro e w1 ⟨v, rfl, ho, hb⟩; have HO : Hid (OwnF w1 w.heap.size v (holes 0 L)) := ho; have HB : Hid (Below w.heap.size w w1) := hb; clear ho hb)) | (go_at_call 26; go_must (refine (toldF_any w.heap.size _ (holes 0 L) hl _ HO.out).mono ?_; rintro e w2 ⟨v1, v2, rfl, h1, h2, hb⟩)))
  go_ret2
  exact ⟨_, _, rfl, ownI_mono h1 HB.out.size, ownI_mono h2 HB.out.size, HB.out.trans (hb.mono HB.out.size)⟩
end Go.Proofs.YtjcikoaoemingaaDoor
