/- Lists alone, for chapter 20: nodes go one after another, depth first, and at last none is left that nothing points to. -/
import Derived.Test.YtmibnceadciidaaCountM
namespace Go.Proofs.Ytmibnceadciidaa

/-- What holds between the steps, too. -/
structure KMid (c : KS) : Prop where
  even : c.Even
  few : c.here.length ≤ 12
  roots : c.roots.length ≤ 12
  rows : ∀ r, r ∈ c.outs → r.length ≤ 4
  good : c.abs.Good
theorem KGood.mid {c : KS} (h : KGood c) : KMid c := ⟨h.even, h.few, h.roots, h.rows, h.good⟩
theorem KMid.outs12 {c : KS} (h : KMid c) : c.outs.length ≤ 12 := by rw [h.even]; exact h.few
def KS.heres (c : KS) : Nat := c.here.count true
/-- A node goes. -/
def KS.goes (c : KS) (k : Nat) : KS := ⟨c.outs.set k [], c.roots, c.here.set k false⟩
/-- From c on nodes have gone, and of those here that nothing points to none is new, and none in l. -/
structure Sets (c d : KS) (l : List Int) : Prop where
  mid : KMid d
  len : d.here.length = c.here.length
  roots : d.roots = c.roots
  rems : Rems c.abs d.abs
  heres : d.heres ≤ c.heres
  left : ∀ x, d.is x = true → d.abs.Unp x → c.abs.Unp x ∧ x ∉ l
theorem Sets.refl {c : KS} (h : KMid c) : Sets c c [] := ⟨h, rfl, rfl, .refl, Nat.le_refl _, fun _ _ hu => ⟨hu, by simp⟩⟩
theorem Sets.trans {c d e : KS} {l m : List Int} (h : Sets c d l) (k : Sets d e m) : Sets c e (l ++ m) :=
  ⟨k.mid, k.len.trans h.len, k.roots.trans h.roots, h.rems.trans k.rems, Nat.le_trans k.heres h.heres, fun x hx hu => by
    have h1 := k.left x hx hu
    have h2 := h.left x (k.rems.sub hx) h1.1
    exact ⟨h2.1, fun e => (List.mem_append.1 e).elim h2.2 h1.2⟩⟩
/-- Something points to the node: nothing is done. -/
theorem sets_held {c : KS} (h : KMid c) {x : Int} (hc : c.count x ≠ 0) : Sets c c [x] :=
  ⟨h, rfl, rfl, .refl, Nat.le_refl _, fun y _ hu => ⟨hu, fun e => by
    rw [List.mem_singleton] at e
    subst e
    exact hc (count_zero.2 hu)⟩⟩
theorem goes_visit {c : KS} {k : Nat} (h1 : c.isN k = true) (h2 : c.count (k : Int) = 0) : c.goes k = c.visit k := by
  unfold KS.goes KS.visit
  rw [if_pos (by rw [h1, h2]; rfl)]
theorem row_none {c : KS} (h : KMid c) {k : Nat} (h1 : c.isN k = false) : c.row (k : Int) = [] := by
  have := good_none h.good (x := (k : Int)) (fun e => by
    have e : c.is (k : Int) = true := e
    rw [isN_is, h1] at e; exact Bool.noConfusion e)
  have e : gOf c.outs (k : Int) = [] := this
  rw [← row_g (by omega)]; exact e
theorem set_same {α : Type} {l : List α} {k : Nat} {d : α} (hk : k < l.length) (h : l[k]?.getD d = d) : l.set k d = l := by
  refine List.ext_getElem (by simp) fun i h1 h2 => ?_
  rw [List.getElem_set]
  split
  · rename_i e
    subst e
    rw [List.getElem?_eq_getElem hk, Option.getD_some] at h
    exact h.symm
  · rfl
/-- A node that isn't here stays as it is. -/
theorem goes_none {c : KS} (h : KMid c) {k : Nat} (hk : k < c.here.length) (h1 : c.isN k = false) : c.goes k = c := by
  unfold KS.goes
  have e1 : c.outs.set k [] = c.outs := set_same (by rw [h.even]; exact hk) (by have := row_none h h1; unfold KS.row at this; rwa [Int.toNat_natCast] at this)
  have e2 : c.here.set k false = c.here := set_same hk h1
  rw [e1, e2]
theorem goes_mid {c : KS} (h : KMid c) {k : Nat} (h1 : c.isN k = true) (h2 : c.count (k : Int) = 0) : KMid (c.goes k) := by
  have hv := visit_even h.even k
  have ha := visit_abs h.even k
  have hl := visit_len c k
  rw [goes_visit h1 h2]
  exact ⟨hv.1, by have := h.few; omega, by rw [hl.1]; exact h.roots, hl.2 h.rows, by rw [ha]; exact (visit_rems c.abs (k : Int)).good h.good⟩
theorem goes_heres {c : KS} {k : Nat} (h1 : c.isN k = true) : (c.goes k).heres + 1 = c.heres := by
  unfold KS.goes KS.heres
  unfold KS.isN at h1
  show (c.here.set k false).count true + 1 = c.here.count true
  generalize c.here = l at h1
  clear c
  induction l generalizing k with
  | nil => simp at h1
  | cons a r ih =>
    cases k with
    | zero =>
      simp at h1
      subst h1
      simp
    | succ k =>
      have := ih (k := k) (by simpa using h1)
      rw [List.set_cons_succ, List.count_cons, List.count_cons]
      omega
/-- What is left to look at, when a node has gone: what it pointed to. -/
theorem goes_left {c : KS} (h : KMid c) {k : Nat} (h1 : c.isN k = true) {x : Int} (hx : (c.goes k).is x = true) (hu : (c.goes k).abs.Unp x) : (c.abs.Unp x ∧ x ≠ (k : Int)) ∨ x ∈ c.row (k : Int) := by
  have hkl : k < c.here.length := by
    refine Decidable.byContradiction fun hn => ?_
    unfold KS.isN at h1
    rw [List.getElem?_eq_none (by omega)] at h1
    exact Bool.noConfusion h1
  have hne : x ≠ (k : Int) := ((is_set hkl (c.outs.set k []) x).1 hx).2
  by_cases hr : x ∈ c.row (k : Int)
  · exact .inr hr
  · refine .inl ⟨⟨hu.1, fun y hy => ?_⟩, hne⟩
    have hy : x ∈ gOf c.outs y := hy
    by_cases e : y = (k : Int)
    · rw [e, row_g (by omega)] at hy
      exact hr hy
    · refine hu.2 y ?_
      show x ∈ gOf (c.outs.set k []) y
      rw [gOf_set (by rw [h.even]; exact hkl)]
      simp only [if_neg e]
      exact hy
/-- A node goes, and then what it pointed to is looked at. -/
theorem sets_goes {c d : KS} (h : KMid c) {k : Nat} (hk : k < c.here.length) (h2 : c.count (k : Int) = 0) (hd : Sets (c.goes k) d (c.row (k : Int))) : Sets c d [(k : Int)] := by
  by_cases h1 : c.isN k = true
  · have hg := goes_heres h1
    have hdh := hd.heres
    have hlen : (c.goes k).here.length = c.here.length := by unfold KS.goes; simp
    refine ⟨hd.mid, hd.len.trans hlen, hd.roots, ?_, by omega, fun x hx hu => ?_⟩
    · have hr : Rems c.abs (c.goes k).abs := by rw [goes_visit h1 h2, visit_abs h.even k]; exact visit_rems c.abs (k : Int)
      exact hr.trans hd.rems
    · have h3 := hd.left x hx hu
      rcases goes_left h h1 (hd.rems.sub hx) h3.1 with h4 | h4
      · exact ⟨h4.1, by rw [List.mem_singleton]; exact h4.2⟩
      · exact absurd h4 h3.2
  · have h1 : c.isN k = false := by simpa using h1
    rw [goes_none h hk h1, row_none h h1] at hd
    refine ⟨hd.mid, hd.len, hd.roots, hd.rems, hd.heres, fun x hx hu => ⟨(hd.left x hx hu).1, fun e => ?_⟩⟩
    rw [List.mem_singleton] at e
    have hc : c.is x = true := hd.rems.sub hx
    rw [e, isN_is, h1] at hc
    exact Bool.noConfusion hc
theorem goes_any_mid {c : KS} (h : KMid c) {k : Nat} (hk : k < c.here.length) (h2 : c.count (k : Int) = 0) : KMid (c.goes k) := by
  by_cases h1 : c.isN k = true
  · exact goes_mid h h1 h2
  · rw [goes_none h hk (by simpa using h1)]; exact h
/-- At last nothing is left that nothing points to. -/
theorem sets_swept {c d : KS} {l : List Int} (h : KMid c) (hu : ∀ x, c.is x = true → c.abs.Unp x → x ∈ l) (hd : Sets c d l) : d = c.swept :=
  swept_unique h.even h.few h.good hd.mid.even hd.len hd.rems fun x hx hux => by
    have := hd.left x hx hux
    exact this.2 (hu x (hd.rems.sub hx) this.1)
theorem unroot {c : KS} (h : KGood c) (i : Int) : KMid ⟨c.outs, c.roots.erase i, c.here⟩ ∧ ∀ x, (⟨c.outs, c.roots.erase i, c.here⟩ : KS).is x = true → (⟨c.outs, c.roots.erase i, c.here⟩ : KS).abs.Unp x → x ∈ [i] := by
  refine ⟨⟨h.even, h.few, Nat.le_trans (List.length_erase_le ..) h.roots, h.rows, erase_good h i⟩, fun x hx hu => ?_⟩
  rw [List.mem_singleton]
  refine Decidable.byContradiction fun hne => h.settled x hx ⟨fun hr => hu.1 ?_, hu.2⟩
  exact (List.mem_erase_of_ne hne).2 hr
theorem unlink {c : KS} (h : KGood c) {i : Int} (hi : c.is i = true) (j : Int) : KMid (c.putR i ((c.row i).erase j)) ∧ ∀ x, (c.putR i ((c.row i).erase j)).is x = true → (c.putR i ((c.row i).erase j)).abs.Unp x → x ∈ [j] := by
  refine ⟨⟨put_even h.even _ _, h.few, h.roots, put_rows h.rows (Nat.le_trans (List.length_erase_le ..) (row_len h.rows i)), put_good h.even h.good hi fun y hy => row_here h.good hi y (List.mem_of_mem_erase hy)⟩, fun x hx hu => ?_⟩
  rw [List.mem_singleton]
  refine Decidable.byContradiction fun hne => h.settled x hx ⟨hu.1, fun y hy => hu.2 y ?_⟩
  show x ∈ gOf (c.putR i ((c.row i).erase j)).outs y
  rw [put_outs h.even hi]
  have hy : x ∈ gOf c.outs y := hy
  simp only
  split
  · rename_i e
    rw [e, row_g (is_lt hi).1] at hy
    exact (List.mem_erase_of_ne hne).2 hy
  · exact hy
theorem count_le {c : KS} (h : KMid c) (x : Int) : c.count x ≤ 60 := by
  unfold KS.count
  have h1 : c.roots.count x ≤ 12 := Nat.le_trans List.count_le_length h.roots
  have key : ∀ (L : List (List Int)), (∀ r, r ∈ L → r.length ≤ 4) → (L.map fun r => r.count x).sum ≤ 4 * L.length := by
    intro L
    induction L with
    | nil => simp
    | cons a r ih =>
      intro hL
      have := ih fun q hq => hL q (List.mem_cons_of_mem _ hq)
      have h3 : a.count x ≤ 4 := Nat.le_trans List.count_le_length (hL a List.mem_cons_self)
      rw [List.map_cons, List.sum_cons, List.length_cons]
      omega
  have h2 := key c.outs h.rows
  have h3 := h.outs12
  omega
end Go.Proofs.Ytmibnceadciidaa
