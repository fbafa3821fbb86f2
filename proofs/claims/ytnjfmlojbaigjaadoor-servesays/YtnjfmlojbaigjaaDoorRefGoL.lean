/- Lists alone, for the document's answer in chapter 14: the nearest on each side, and the nearest of all; it is the same step. -/
import Derived.Test.YtnjfmlojbaigjaaDoorServers
namespace Go.Proofs.YtnjfmlojbaigjaaDoor

/-- The greatest of the first k that is no greater than r; -1 if there is none. -/
def lftTo (l : List Int) (r : Int) : Nat → Int
  | 0 => -1
  | k + 1 => if l[k]?.getD 0 ≤ r ∧ (lftTo l r k < 0 ∨ lftTo l r k < l[k]?.getD 0) then l[k]?.getD 0 else lftTo l r k
/-- The least of the first k that is no less than r; -1 if there is none. -/
def rgtTo (l : List Int) (r : Int) : Nat → Int
  | 0 => -1
  | k + 1 => if r ≤ l[k]?.getD 0 ∧ (rgtTo l r k < 0 ∨ l[k]?.getD 0 < rgtTo l r k) then l[k]?.getD 0 else rgtTo l r k
theorem lftTo_facts {l : List Int} (hl : onLine l) (r : Int) : ∀ k, k ≤ l.length → (lftTo l r k = -1 ∧ ∀ i, i < k → r < l[i]?.getD 0) ∨ (∃ i, i < k ∧ l[i]?.getD 0 = lftTo l r k ∧ lftTo l r k ≤ r ∧ 0 ≤ lftTo l r k ∧ ∀ j, j < k → l[j]?.getD 0 ≤ r → l[j]?.getD 0 ≤ lftTo l r k)
  | 0, _ => .inl ⟨rfl, fun i hi => absurd hi (Nat.not_lt_zero _)⟩
  | k + 1, hk => by
    have hk12 := hl _ (get_mem (show k < l.length by omega))
    rcases lftTo_facts hl r k (by omega) with ⟨e, h⟩ | ⟨i, hi, e, h1, h2, h3⟩
    · by_cases hc : l[k]?.getD 0 ≤ r
      · have : lftTo l r (k+1) = l[k]?.getD 0 := by unfold lftTo; rw [if_pos ⟨hc, .inl (by omega)⟩]
        refine .inr ⟨k, by omega, this.symm, by omega, by omega, fun j hj hjr => ?_⟩
        by_cases ej : j = k
        · subst ej; omega
        · have := h j (by omega); omega
      · have : lftTo l r (k+1) = lftTo l r k := by rw [lftTo, if_neg (fun h => hc h.1)]
        refine .inl ⟨by omega, fun j hj => ?_⟩
        by_cases ej : j = k
        · subst ej; omega
        · exact h j (by omega)
    · by_cases hc : l[k]?.getD 0 ≤ r ∧ lftTo l r k < l[k]?.getD 0
      · have : lftTo l r (k+1) = l[k]?.getD 0 := by rw [lftTo, if_pos ⟨hc.1, .inr hc.2⟩]
        refine .inr ⟨k, by omega, this.symm, by omega, by omega, fun j hj hjr => ?_⟩
        by_cases ej : j = k
        · subst ej; omega
        · have := h3 j (by omega) hjr; omega
      · have : lftTo l r (k+1) = lftTo l r k := by rw [lftTo, if_neg (fun h => hc ⟨h.1, by omega⟩)]
        refine .inr ⟨i, by omega, by omega, by omega, by omega, fun j hj hjr => ?_⟩
        by_cases ej : j = k
        · subst ej; omega
        · have := h3 j (by omega) hjr; omega
theorem rgtTo_facts {l : List Int} (hl : onLine l) {r : Int} (hr : 0 ≤ r) : ∀ k, k ≤ l.length → (rgtTo l r k = -1 ∧ ∀ i, i < k → l[i]?.getD 0 < r) ∨ (∃ i, i < k ∧ l[i]?.getD 0 = rgtTo l r k ∧ r ≤ rgtTo l r k ∧ ∀ j, j < k → r ≤ l[j]?.getD 0 → rgtTo l r k ≤ l[j]?.getD 0)
  | 0, _ => .inl ⟨rfl, fun i hi => absurd hi (Nat.not_lt_zero _)⟩
  | k + 1, hk => by
    have hk12 := hl _ (get_mem (show k < l.length by omega))
    rcases rgtTo_facts hl hr k (by omega) with ⟨e, h⟩ | ⟨i, hi, e, h1, h3⟩
    · by_cases hc : r ≤ l[k]?.getD 0
      · have : rgtTo l r (k+1) = l[k]?.getD 0 := by rw [rgtTo, if_pos ⟨hc, .inl (by omega)⟩]
        refine .inr ⟨k, by omega, this.symm, by omega, fun j hj hjr => ?_⟩
        by_cases ej : j = k
        · subst ej; omega
        · have := h j (by omega); omega
      · have : rgtTo l r (k+1) = rgtTo l r k := by rw [rgtTo, if_neg (fun h => hc h.1)]
        refine .inl ⟨by omega, fun j hj => ?_⟩
        by_cases ej : j = k
        · subst ej; omega
        · exact h j (by omega)
    · by_cases hc : r ≤ l[k]?.getD 0 ∧ l[k]?.getD 0 < rgtTo l r k
      · have : rgtTo l r (k+1) = l[k]?.getD 0 := by rw [rgtTo, if_pos ⟨hc.1, .inr hc.2⟩]
        refine .inr ⟨k, by omega, this.symm, by omega, fun j hj hjr => ?_⟩
        by_cases ej : j = k
        · subst ej; omega
        · have := h3 j (by omega) hjr; omega
      · have : rgtTo l r (k+1) = rgtTo l r k := by rw [rgtTo, if_neg (fun h => hc ⟨h.1, by omega⟩)]
        refine .inr ⟨i, by omega, by omega, by omega, fun j hj hjr => ?_⟩
        by_cases ej : j = k
        · subst ej; omega
        · have := h3 j (by omega) hjr; omega
/-- The step of the document's answer, from both sides. -/
inductive BStep (l : List Int) (r : Int) (L R : Int) : Prop
  | low : L = -1 → R ∈ l → (∀ z, z ∈ l → R ≤ z) → r < R → BStep l r L R
  | high : R = -1 → 0 ≤ L → L ∈ l → (∀ z, z ∈ l → z ≤ L) → L < r → BStep l r L R
  | there : L = r → R = r → r ∈ l → BStep l r L R
  | both : 0 ≤ L → L ∈ l → R ∈ l → L < r → r < R → (∀ z, z ∈ l → z ≤ L ∨ R ≤ z) → BStep l r L R
theorem bstep {l : List Int} (hl : onLine l) (h0 : l ≠ []) {r : Int} (hr : 0 ≤ r ∧ r ≤ 12) : BStep l r (lftTo l r l.length) (rgtTo l r l.length) := by
  have hpos : 0 < l.length := List.length_pos_iff.2 h0
  rcases lftTo_facts hl r l.length (Nat.le_refl _) with ⟨e1, h1⟩ | ⟨i, hi, e1, h1, h2, h3⟩
  · rcases rgtTo_facts hl hr.1 l.length (Nat.le_refl _) with ⟨e2, g1⟩ | ⟨j, hj, e2, g1, g3⟩
    · have := h1 0 hpos
      have := g1 0 hpos
      omega
    · have := h1 j hj
      refine .low e1 (e2 ▸ get_mem hj) (fun z hz => ?_) (by omega)
      obtain ⟨k, hk, rfl⟩ := mem_get hz
      exact g3 k hk (by have := h1 k hk; omega)
  · rcases rgtTo_facts hl hr.1 l.length (Nat.le_refl _) with ⟨e2, g1⟩ | ⟨j, hj, e2, g1, g3⟩
    · have := g1 i hi
      refine .high e2 h2 (e1 ▸ get_mem hi) (fun z hz => ?_) (by omega)
      obtain ⟨k, hk, rfl⟩ := mem_get hz
      exact h3 k hk (by have := g1 k hk; omega)
    · by_cases hL : lftTo l r l.length = r
      · have := g3 i hi (by omega)
        exact .there hL (by omega) (by rw [← hL, ← e1]; exact get_mem hi)
      · by_cases hR : rgtTo l r l.length = r
        · have := h3 j hj (by omega)
          omega
        · refine .both h2 (e1 ▸ get_mem hi) (e2 ▸ get_mem hj) (by omega) (by omega) fun z hz => ?_
          obtain ⟨k, hk, rfl⟩ := mem_get hz
          by_cases hz : l[k]?.getD 0 ≤ r
          · exact .inl (h3 k hk hz)
          · exact .inr (g3 k hk (by omega))
/-- One who goes alone. -/
theorem bstep_one {l : List Int} (hl : Ris l) (h0 : l ≠ []) (hx : onLine l) {r : Int} (hr : 0 ≤ r ∧ r ≤ 12) {a : Int} (h : (a ∈ l ∧ (∀ z, z ∈ l → a ≤ z) ∧ r < a) ∨ (a ∈ l ∧ (∀ z, z ∈ l → z ≤ a) ∧ a < r)) : (goStep true l r).1 = (l.erase a ++ [r]).mergeSort zle ∧ (goStep true l r).2 = zabs (a - r) := by
  have S := stepOk true hl h0 hx hr
  have hp : (l.erase a ++ [r]).Perm (r :: l.erase a) := List.perm_append_comm
  rcases h with ⟨h1, h2, h3⟩ | ⟨h1, h2, h3⟩
  · obtain ⟨p, c⟩ := dstep_unique (S.both rfl) (.low h1 h2 h3 hp)
    refine ⟨ris_unique S.ris (ris_sort _) (p.trans (sort_perm _).symm), by rw [c]; unfold zabs; omega⟩
  · obtain ⟨p, c⟩ := dstep_unique (S.both rfl) (.high h1 h2 h3 hp)
    refine ⟨ris_unique S.ris (ris_sort _) (p.trans (sort_perm _).symm), by rw [c]; unfold zabs; omega⟩
theorem bstep_two {l : List Int} (hl : Ris l) (h0 : l ≠ []) (hx : onLine l) {r : Int} (hr : 0 ≤ r ∧ r ≤ 12) {a b d : Int} (h1 : a ∈ l) (h2 : b ∈ l) (h3 : a < r) (h4 : r < b) (h5 : ∀ z, z ∈ l → z ≤ a ∨ b ≤ z) (hd : d = min (r - a) (b - r)) : (goStep true l r).1 = ((l.erase a).erase b ++ [a + d, b - d]).mergeSort zle ∧ (goStep true l r).2 = 2 * d := by
  have S := stepOk true hl h0 hx hr
  have hp : ((l.erase a).erase b ++ [a + d, b - d]).Perm ((a + d) :: (b - d) :: (l.erase a).erase b) := List.perm_append_comm
  obtain ⟨p, c⟩ := dstep_unique (S.both rfl) (.both h1 h2 h3 h4 h5 hd hp)
  exact ⟨ris_unique S.ris (ris_sort _) (p.trans (sort_perm _).symm), c⟩
theorem bstep_there {l : List Int} {r : Int} (h : r ∈ l) : goStep true l r = (l, 0) := by unfold goStep; rw [if_pos (by simpa using h)]

/-- The nearest of the first k, and of the first one. -/
def nearTo (l : List Int) (r : Int) : Nat → Int
  | 0 => l[0]?.getD 0
  | k + 1 => if zabs (l[k]?.getD 0 - r) < zabs (nearTo l r k - r) then l[k]?.getD 0 else nearTo l r k
theorem nearTo_facts {l : List Int} (h0 : 0 < l.length) (r : Int) : ∀ k, k ≤ l.length → ∃ i, i < l.length ∧ l[i]?.getD 0 = nearTo l r k ∧ (∀ j, j < k → zabs (nearTo l r k - r) ≤ zabs (l[j]?.getD 0 - r)) ∧ (∀ j, j < i → zabs (nearTo l r k - r) < zabs (l[j]?.getD 0 - r))
  | 0, _ => ⟨0, h0, rfl, fun j hj => absurd hj (Nat.not_lt_zero _), fun j hj => absurd hj (Nat.not_lt_zero _)⟩
  | k + 1, hk => by
    obtain ⟨i, hi, e, h1, h2⟩ := nearTo_facts h0 r k (by omega)
    by_cases hc : zabs (l[k]?.getD 0 - r) < zabs (nearTo l r k - r)
    · have e2 : nearTo l r (k+1) = l[k]?.getD 0 := by rw [nearTo, if_pos hc]
      refine ⟨k, by omega, e2.symm, fun j hj => ?_, fun j hj => ?_⟩
      · rw [e2]
        by_cases ej : j = k
        · subst ej; exact Int.le_refl _
        · have := h1 j (by omega); omega
      · rw [e2]
        have := h1 j hj; omega
    · have e2 : nearTo l r (k+1) = nearTo l r k := by rw [nearTo, if_neg hc]
      refine ⟨i, hi, by rw [e2]; exact e, fun j hj => ?_, fun j hj => by rw [e2]; exact h2 j hj⟩
      rw [e2]
      by_cases ej : j = k
      · subst ej; omega
      · exact h1 j (by omega)
theorem nstep {l : List Int} (hl : Ris l) (h0 : l ≠ []) (hx : onLine l) {r : Int} (hr : 0 ≤ r ∧ r ≤ 12) : (goStep false l r).1 = (l.erase (nearTo l r l.length) ++ [r]).mergeSort zle ∧ (goStep false l r).2 = zabs (nearTo l r l.length - r) ∧ nearTo l r l.length ∈ l := by
  have S := stepOk false hl h0 hx hr
  obtain ⟨q, hq, hp, hc, hm, ht⟩ := S.near rfl
  obtain ⟨i, hi, e, h1, h2⟩ := nearTo_facts (List.length_pos_iff.2 h0) r l.length (Nat.le_refl _)
  obtain ⟨j, hj, rfl⟩ := mem_get hq
  have a1 := hm _ (get_mem hi)
  have a2 := h1 j hj
  rw [e] at a1
  have eq1 : zabs (nearTo l r l.length - r) = zabs (l[j]?.getD 0 - r) := by omega
  have a3 := ht _ (get_mem hi) (by rw [e]; exact eq1)
  have a4 : nearTo l r l.length ≤ l[j]?.getD 0 := by
    by_cases hij : i ≤ j
    · rw [← e]; exact ris_get hl hij hj
    · have := h2 j (by omega); omega
  have eq2 : nearTo l r l.length = l[j]?.getD 0 := by rw [e] at a3; omega
  rw [eq2]
  have hp2 : (l.erase (l[j]?.getD 0) ++ [r]).Perm (r :: l.erase (l[j]?.getD 0)) := List.perm_append_comm
  exact ⟨ris_unique S.ris (ris_sort _) ((hp.trans hp2.symm).trans (sort_perm _).symm), hc, get_mem hj⟩
end Go.Proofs.YtnjfmlojbaigjaaDoor
