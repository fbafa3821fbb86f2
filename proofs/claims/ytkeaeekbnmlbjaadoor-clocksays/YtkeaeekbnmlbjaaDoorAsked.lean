/- The pages that have marks as a list of their own; and three rows of one's own beside each other. -/
import Derived.Test.YtkeaeekbnmlbjaaDoorHands
import Derived.Test.YtkeaeekbnmlbjaaDoorWithout
import Derived.Maps.AppendAt
namespace Go.Proofs.YtkeaeekbnmlbjaaDoor
open Go.RowKit Go.Sort

/-- A lists the pages that have marks. -/
def AInv (t : List Slot) (A : List Int) : Prop := A.Nodup ∧ ∀ q, q ∈ A ↔ (q, true) ∈ t

theorem mem_at {t : List Slot} {y : Slot} : y ∈ t ↔ ∃ j, j < t.length ∧ slotAt t j = y := by
  rw [List.mem_iff_getElem]
  constructor
  · rintro ⟨j, hj, h⟩; exact ⟨j, hj, by rw [slotAt_lt hj]; exact h⟩
  · rintro ⟨j, hj, h⟩; exact ⟨j, hj, by rw [slotAt_lt hj] at h; exact h⟩
theorem mem_set {t : List Slot} {h : Nat} (hh : h < t.length) {x y : Slot} : y ∈ t.set h x ↔ y = x ∨ ∃ j, j < t.length ∧ j ≠ h ∧ slotAt t j = y := by
  rw [mem_at]
  simp only [List.length_set, slotAt_set hh]
  constructor
  · rintro ⟨j, hj, e⟩
    by_cases hjh : j = h
    · rw [if_pos hjh] at e; exact .inl e.symm
    · rw [if_neg hjh] at e; exact .inr ⟨j, hj, hjh, e⟩
  · rintro (rfl | ⟨j, hj, hjh, e⟩)
    · exact ⟨h, hh, if_pos rfl⟩
    · exact ⟨j, hj, by rw [if_neg hjh]; exact e⟩
theorem nodup_at {t : List Slot} (hn : (pagesOf t).Nodup) {i j : Nat} (hi : i < t.length) (hj : j < t.length) (h : (slotAt t i).1 = (slotAt t j).1) : i = j := by
  have hi2 : i < (pagesOf t).length := by rw [pagesOf_length]; exact hi
  have hj2 : j < (pagesOf t).length := by rw [pagesOf_length]; exact hj
  have e : (pagesOf t)[i] = (pagesOf t)[j] := by
    simp only [pagesOf, List.getElem_map]
    rw [slotAt_lt hi, slotAt_lt hj] at h
    exact h
  exact (List.getElem_inj hn).1 e
theorem page_mem {t : List Slot} {j : Nat} (hj : j < t.length) : (slotAt t j).1 ∈ pagesOf t := List.mem_map.2 ⟨_, slotAt_mem hj, rfl⟩

theorem ainv_at {t : List Slot} {A : List Int} (h : AInv t A) (hn : (pagesOf t).Nodup) {j : Nat} (hj : j < t.length) : A.contains (slotAt t j).1 = (slotAt t j).2 := by
  cases hm : (slotAt t j).2
  · rw [← Bool.not_eq_true, List.contains_iff_mem, h.2, mem_at]
    rintro ⟨i, hi, e⟩
    have := nodup_at hn hi hj (by rw [e])
    subst this
    rw [e] at hm; cases hm
  · rw [List.contains_iff_mem, h.2, mem_at]
    exact ⟨j, hj, by rw [← hm]⟩
theorem ainv_off {t : List Slot} {A : List Int} (h : AInv t A) (hn : (pagesOf t).Nodup) {j : Nat} (hj : j < t.length) : AInv (t.set j ((slotAt t j).1, false)) (A.erase (slotAt t j).1) := by
  refine ⟨h.1.erase _, fun q => ?_⟩
  rw [h.1.mem_erase_iff, h.2, mem_set hj, mem_at]
  constructor
  · rintro ⟨hq, i, hi, e⟩
    exact .inr ⟨i, hi, fun hij => hq (by subst hij; rw [e]), e⟩
  · rintro (e | ⟨i, hi, hij, e⟩)
    · cases e
    · exact ⟨fun hq => hij (nodup_at hn hi hj (by rw [e]; exact hq)), i, hi, e⟩
theorem ainv_fresh {t : List Slot} {A : List Int} (h : AInv t A) {p : Int} (hp : (pagesOf t).contains p = false) : p ∉ A := by
  rw [h.2]
  intro hm
  have : p ∈ pagesOf t := List.mem_map.2 ⟨_, hm, rfl⟩
  rw [List.contains_iff_mem.2 this] at hp; cases hp
theorem nodup_snoc {A : List Int} {p : Int} (h : A.Nodup) (hp : p ∉ A) : (A ++ [p]).Nodup := by
  rw [List.nodup_append]
  refine ⟨h, by simp, fun a ha b hb => ?_⟩
  rw [List.mem_singleton] at hb; subst hb
  intro e; subst e; exact hp ha
theorem ainv_room {t : List Slot} {A : List Int} (h : AInv t A) {p : Int} (hp : (pagesOf t).contains p = false) : AInv (t ++ [(p, true)]) (A ++ [p]) := by
  refine ⟨nodup_snoc h.1 (ainv_fresh h hp), fun q => ?_⟩
  rw [List.mem_append, List.mem_append, h.2, List.mem_singleton, List.mem_singleton]
  constructor
  · rintro (h | rfl)
    · exact .inl h
    · exact .inr rfl
  · rintro (h | h)
    · exact .inl h
    · cases h; exact .inr rfl
theorem ainv_letin {t : List Slot} {A : List Int} (h : AInv t A) {p : Int} (hp : (pagesOf t).contains p = false) {j : Nat} (hj : j < t.length) (hm : (slotAt t j).2 = false) : AInv (letIn t j p).1 (A ++ [p]) := by
  refine ⟨nodup_snoc h.1 (ainv_fresh h hp), fun q => ?_⟩
  show _ ↔ (q, true) ∈ t.set j (p, true)
  rw [List.mem_append, h.2, List.mem_singleton, mem_set hj, mem_at]
  constructor
  · rintro (⟨i, hi, e⟩ | rfl)
    · exact .inr ⟨i, hi, (fun hij => by subst hij; rw [e] at hm; cases hm), e⟩
    · exact .inl rfl
  · rintro (e | ⟨i, hi, _, e⟩)
    · cases e; exact .inr rfl
    · exact .inl ⟨i, hi, e⟩
theorem mark_mem {t : List Slot} {p : Int} (hp : (pagesOf t).contains p = true) (q : Int) : (q, true) ∈ markPage t p ↔ q = p ∨ (q, true) ∈ t := by
  obtain ⟨h1, h2⟩ := find_lt hp
  unfold markPage
  rw [mem_set h1, mem_at]
  constructor
  · rintro (e | ⟨i, hi, _, e⟩)
    · cases e; exact .inl rfl
    · exact .inr ⟨i, hi, e⟩
  · rintro (rfl | ⟨i, hi, e⟩)
    · exact .inl rfl
    · by_cases hi2 : i = t.findIdx fun x => x.1 == p
      · refine .inl ?_
        have : q = p := by rw [← h2, ← hi2, e]
        rw [this]
      · exact .inr ⟨i, hi, hi2, e⟩
theorem ainv_mark_old {t : List Slot} {A : List Int} (h : AInv t A) {p : Int} (hp : (pagesOf t).contains p = true) (ha : A.contains p = true) : AInv (markPage t p) A := by
  refine ⟨h.1, fun q => ?_⟩
  rw [mark_mem hp, h.2]
  constructor
  · exact .inr
  · rintro (rfl | e)
    · exact (h.2 _).1 (List.contains_iff_mem.1 ha)
    · exact e
theorem ainv_mark_new {t : List Slot} {A : List Int} (h : AInv t A) {p : Int} (hp : (pagesOf t).contains p = true) (ha : A.contains p = false) : AInv (markPage t p) (A ++ [p]) := by
  refine ⟨nodup_snoc h.1 (fun hm => by rw [List.contains_iff_mem.2 hm] at ha; cases ha), fun q => ?_⟩
  rw [mark_mem hp, List.mem_append, List.mem_singleton, h.2]
  exact Or.comm

theorem ne_swap {x y : Option Nat} (h : x = none ∨ x ≠ y) : y = none ∨ y ≠ x := by
  cases y with
  | none => exact .inl rfl
  | some j =>
    refine .inr fun e => ?_
    rcases h with h | h
    · rw [h] at e; cases e
    · exact h e.symm

/-- Three rows of one's own: of bools, and two of ints that lie apart. -/
structure Tri (w0 w : World) (vb vp va : Value) (lb : List Bool) (lp la : List Int) : Prop where
  b : OwnB w w0.heap.size vb lb
  p : OwnI w w0.heap.size vp lp
  a : OwnI w w0.heap.size va la
  ne : vp.ownBlock = none ∨ vp.ownBlock ≠ va.ownBlock
  below : Below w0.heap.size w0 w
theorem Tri.start (w : World) : Tri w w (.slice none 0 0) (.slice none 0 0) (.slice none 0 0) [] [] [] := ⟨OwnB.nil _ _, OwnI.nil _ _, OwnI.nil _ _, .inl rfl, Below.refl _ _⟩
theorem Tri.later {w0 w w1 : World} {vb vp va : Value} {lb : List Bool} {lp la : List Int} (h : Tri w0 w vb vp va lb lp la) (hb : Below w.heap.size w w1) : Tri w0 w1 vb vp va lb lp la :=
  ⟨h.b.later hb, h.p.later hb, h.a.later hb, h.ne, h.below.trans (hb.mono h.below.size)⟩
theorem Tri.alloc {w0 w : World} {vb vp va : Value} {lb : List Bool} {lp la : List Int} (h : Tri w0 w vb vp va lb lp la) (o : Obj) : Tri w0 (w.alloc o) vb vp va lb lp la :=
  h.later ((Below.refl _ _).alloc (Nat.le_refl _) o)
theorem Tri.bools {w0 w w1 : World} {vb vb' vp va : Value} {lb : List Bool} {lp la : List Int} {n : Nat} {x : Bool} {o : Obj} (h : Tri w0 w vb vp va lb lp la) (hn : lb.length = n)
    (h1 : w1.ownsRow w0.heap.size 4 1 vb' (n + 1) (lb.map Value.bool ++ [.bool x])) (h2 : (w.alloc o).grownBy w1 vb.ownBlock) : Tri w0 w1 vb' vp va (lb ++ [x]) lp la := by
  subst hn
  have ha := h.alloc o
  have hs := ha.below.size
  refine ⟨?_, ha.p.kept h2 (apart_rows' ha.p ha.b), ha.a.kept h2 (apart_rows' ha.a ha.b), h.ne, ha.below.grown h2 (by omega) fun k hk => (World.ownsRow.lt ha.b k hk).1⟩
  unfold OwnB
  rw [List.length_append, List.map_append]
  exact h1
theorem Tri.asked {w0 w w1 : World} {vb vp va va' : Value} {lb : List Bool} {lp la : List Int} {n : Nat} {x : Int} {o : Obj} (h : Tri w0 w vb vp va lb lp la) (hn : la.length = n)
    (h1 : w1.ownsRow w0.heap.size 3 1 va' (n + 1) (la.map (Value.int .i64) ++ [.int .i64 x])) (h2 : (w.alloc o).grownBy w1 va.ownBlock) (hat : va'.ownBlock = va.ownBlock ∨ va'.ownBlock = some (w.alloc o).heap.size) : Tri w0 w1 vb vp va' lb lp (la ++ [x]) := by
  subst hn
  have ha := h.alloc o
  have hs := ha.below.size
  refine ⟨ha.b.kept h2 (apart_rows ha.a ha.b), ha.p.kept h2 ha.ne, ?_, ?_, ha.below.grown h2 (by omega) fun k hk => (World.ownsRow.lt ha.a k hk).1⟩
  · unfold OwnI
    rw [List.length_append, List.map_append]
    exact h1
  · rcases hat with e | e
    · rw [e]; exact h.ne
    · rw [e]
      refine .inr fun e2 => ?_
      have := (World.ownsRow.lt ha.p _ e2).2
      omega
theorem Tri.pages {w0 w w1 : World} {vb vp vp' va : Value} {lb : List Bool} {lp la : List Int} {n : Nat} {x : Int} {o : Obj} (h : Tri w0 w vb vp va lb lp la) (hn : lp.length = n)
    (h1 : w1.ownsRow w0.heap.size 3 1 vp' (n + 1) (lp.map (Value.int .i64) ++ [.int .i64 x])) (h2 : (w.alloc o).grownBy w1 vp.ownBlock) (hat : vp'.ownBlock = vp.ownBlock ∨ vp'.ownBlock = some (w.alloc o).heap.size) : Tri w0 w1 vb vp' va lb (lp ++ [x]) la := by
  subst hn
  have ha := h.alloc o
  have hs := ha.below.size
  refine ⟨ha.b.kept h2 (apart_rows ha.p ha.b), ?_, ha.a.kept h2 (ne_swap ha.ne), ?_, ha.below.grown h2 (by omega) fun k hk => (World.ownsRow.lt ha.p k hk).1⟩
  · unfold OwnI
    rw [List.length_append, List.map_append]
    exact h1
  · rcases hat with e | e
    · rw [e]; exact h.ne
    · refine ne_swap (.inr ?_)
      rw [e]
      intro e2
      have := (World.ownsRow.lt ha.a _ e2).2
      omega
theorem Tri.without {w0 w w1 : World} {vb vp va va' : Value} {lb : List Bool} {lp la la' : List Int} (h : Tri w0 w vb vp va lb lp la) (hO : OwnI w1 w.heap.size va' la') (hb : Below w.heap.size w w1) : Tri w0 w1 vb vp va' lb lp la' := by
  have h1 := h.later hb
  refine ⟨h1.b, h1.p, ownI_mono hO h.below.size, ?_, h1.below⟩
  cases hv : vp.ownBlock with
  | none => exact .inl rfl
  | some k =>
    refine .inr fun e => ?_
    have h2 := (World.ownsRow.lt hO k e.symm).1
    have h3 := (World.ownsRow.lt h.p k hv).2
    omega
theorem Tri.copied {w0 w w1 : World} {vb vp vp' va : Value} {lb : List Bool} {lp la : List Int} {n : Nat} (h : Tri w0 w vb vp va lb lp la) (hn : lp.length = n)
    (h1 : w1.ownsRow w0.heap.size 3 1 vp' (0 + n) (lp.map (Value.int .i64))) (h2 : w.grownBy w1 none) (hat : vp'.ownBlock = none ∨ vp'.ownBlock = some w.heap.size) : Tri w0 w1 vb vp' va lb lp la := by
  subst hn
  rw [Nat.zero_add] at h1
  refine ⟨h.b.kept h2 (by cases vb.ownBlock <;> simp), h1, h.a.kept h2 (by cases va.ownBlock <;> simp), ?_, h.below.grown h2 h.below.size (by simp)⟩
  rcases hat with e | e
  · exact .inl e
  · refine ne_swap (.inr ?_)
    rw [e]
    intro e2
    have := (World.ownsRow.lt h.a _ e2).2
    omega
theorem Tri.stored {w0 w : World} {vb va : Value} {g n cap : Nat} {lb : List Bool} {lp la : List Int} (h : Tri w0 w vb (.slice (some ⟨g, 0, none⟩) n cap) va lb lp la) (hn : lp.length = n) (j : Nat) (x : Int) : Tri w0 (w.setCell ⟨g, j, none⟩ (.int .i64 x)) vb (.slice (some ⟨g, 0, none⟩) n cap) va lb (lp.set j x) la := by
  subst hn
  have P := World.ownsRow.stored h.p j (.int .i64 x)
  refine ⟨h.b.kept P.2 (apart_rows h.p h.b), ?_, h.a.kept P.2 (ne_swap h.ne), h.ne, h.below.grown P.2 h.below.size fun k hk => (World.ownsRow.lt h.p k hk).1⟩
  unfold OwnI
  rw [List.length_set, List.map_set]
  exact P.1
theorem has_eq {v : Value} {l : List Int} {x : Int} {r : Bool} {w : World} (hv : IsInts w v l) (hr : l.contains x = r) :
    Calls Tryd.prog 12 #[v, .int .i64 x] w fun e w' => e = .returned (.bool r) ∧ w' = w := by
  subst hr; exact has_any v l x w hv
end Go.Proofs.YtkeaeekbnmlbjaaDoor
