/- Lists alone: how deep pages lie, and the curve. -/
import Derived.Test.YtkoccdhonbnlhaaFull
import Derived.Test.YtkoccdhonbnlhaaAt
namespace Go.Proofs.Ytkoccdhonbnlhaa

/-- How deep the page of request k lies in the pile of all pages; 0: it is not there. -/
def deepIn (F : List Int) (p : Int) : Nat := if F.contains p then F.idxOf p + 1 else 0
def deep (l : List Int) (k : Nat) : Nat := deepIn (full (l.take k)) (l[k]?.getD 0)
theorem take_has {F : List Int} {p : Int} (s : Nat) : (F.take s).contains p = (decide (0 < deepIn F p) && decide (deepIn F p ≤ s)) := by
  unfold deepIn
  by_cases h : p ∈ F
  · rw [if_pos (List.contains_iff_mem.2 h), decide_eq_true (Nat.succ_pos _), Bool.true_and, Bool.eq_iff_iff, List.contains_iff_mem, decide_eq_true_iff]
    have hi : F.idxOf p < F.length := List.idxOf_lt_length_iff.2 h
    constructor
    · intro hm
      obtain ⟨j, hj, e⟩ := List.getElem_of_mem hm
      rw [List.length_take] at hj
      rw [List.getElem_take] at e
      have h1 : F.idxOf p ≤ j := by
        rcases Nat.lt_or_ge j (F.idxOf p) with hlt | hge
        · have := List.not_of_lt_findIdx (xs := F) (p := fun y => y == p) (i := j) hlt
          simp [e] at this
        · exact hge
      omega
    · intro hle
      have e : F[F.idxOf p] = p := by simp
      have hlt : F.idxOf p < (F.take s).length := by rw [List.length_take]; omega
      have e2 : (F.take s)[F.idxOf p] = p := by rw [List.getElem_take]; exact e
      rw [← e2]; exact List.getElem_mem hlt
  · have hc : F.contains p = false := by rw [← Bool.not_eq_true, List.contains_iff_mem]; exact h
    rw [hc, if_neg (by simp)]
    have hn : (F.take s).contains p = false := by
      rw [← Bool.not_eq_true, List.contains_iff_mem]
      exact fun hm => h (List.mem_of_mem_take hm)
    rw [hn]; rfl
theorem deep_hit (s : Nat) (l : List Int) (k : Nat) : hitAt s l k = (decide (0 < deep l k) && decide (deep l k ≤ s)) := take_has s
/-- A number that tells the same of every number of slots is that depth. -/
theorem deep_unique {F : List Int} {p : Int} {d : Nat} (h : ∀ s, (decide (0 < d) && decide (d ≤ s)) = (F.take s).contains p) : d = deepIn F p := by
  have h1 := (h d).trans (take_has d)
  have h2 := (h (deepIn F p)).trans (take_has (deepIn F p))
  rw [Bool.eq_iff_iff] at h1 h2
  simp only [Bool.and_eq_true, decide_eq_true_iff] at h1 h2
  omega
theorem deep_le (l : List Int) (k : Nat) : deep l k ≤ (full (l.take k)).length := by
  unfold deep deepIn
  split
  · rename_i h
    exact List.idxOf_lt_length_iff.2 (List.contains_iff_mem.1 h)
  · exact Nat.zero_le _

/-- How many of the first n depths are 0, or more than s. -/
def deeper (l : List Int) (s n : Nat) : Nat := ((List.range n).filter fun k => !(decide (0 < deep l k) && decide (deep l k ≤ s))).length
theorem deeper_succ (l : List Int) (s n : Nat) : deeper l s (n+1) = deeper l s n + (if deep l n = 0 ∨ s < deep l n then 1 else 0) := by
  unfold deeper
  rw [List.range_succ, List.filter_append, List.length_append]
  congr 1
  by_cases h : deep l n = 0 ∨ s < deep l n
  · rw [if_pos h]
    have : (decide (0 < deep l n) && decide (deep l n ≤ s)) = false := by
      rw [Bool.and_eq_false_iff, decide_eq_false_iff_not, decide_eq_false_iff_not]; omega
    rw [List.filter_cons_of_pos (by rw [this]; rfl)]; rfl
  · rw [if_neg h]
    have : (decide (0 < deep l n) && decide (deep l n ≤ s)) = true := by
      rw [Bool.and_eq_true, decide_eq_true_iff, decide_eq_true_iff]; omega
    rw [List.filter_cons_of_neg (by rw [this]; simp)]; rfl
theorem deeper_le (l : List Int) (s n : Nat) : deeper l s n ≤ n := by
  have := List.length_filter_le (fun k => !(decide (0 < deep l k) && decide (deep l k ≤ s))) (List.range n)
  simpa [deeper] using this

/-- The depths of the first k requests; the curve. -/
theorem deepIn_at (F : List Int) (p : Int) : at_ F p + 1 = (deepIn F p : Int) := by
  unfold deepIn
  by_cases h : p ∈ F
  · rw [if_pos (List.contains_iff_mem.2 h)]
    have hi : F.idxOf p < F.length := List.idxOf_lt_length_iff.2 h
    have : at_ F p = (F.idxOf p : Int) := by
      refine Lib.idxOf_hit F F.length _ p hi (Nat.le_refl _) ?_ ?_
      · rw [List.getD_eq_getElem?_getD, List.getElem?_eq_getElem hi]; simp
      · intro j hj e
        have hjl : j < F.length := by omega
        rw [List.getD_eq_getElem?_getD, List.getElem?_eq_getElem hjl] at e
        simp at e
        have := List.not_of_lt_findIdx (xs := F) (p := fun y => y == p) (i := j) hj
        simp [e] at this
    rw [this]; omega
  · rw [if_neg (by rw [List.contains_iff_mem]; exact h)]
    have : at_ F p = -1 := idx_miss h
    rw [this]; rfl
def depthsOf (l : List Int) (k : Nat) : List Int := (List.range k).map fun j => (deep l j : Int)
theorem depthsOf_succ (l : List Int) (k : Nat) : depthsOf l (k+1) = depthsOf l k ++ [(deep l k : Int)] := by
  simp [depthsOf, List.range_succ]
theorem depthsOf_length (l : List Int) (k : Nat) : (depthsOf l k).length = k := by simp [depthsOf]
theorem depthsOf_get {l : List Int} {k j : Nat} (h : j < k) : (depthsOf l k)[j]?.getD 0 = (deep l j : Int) := by
  simp [depthsOf, h]
def curveOf (l : List Int) (k : Nat) : List Int := (List.range k).map fun j => (deeper l (j+1) l.length : Int)
theorem curveOf_length (l : List Int) (k : Nat) : (curveOf l k).length = k := by simp [curveOf]
theorem curveOf_succ (l : List Int) (k : Nat) : curveOf l (k+1) = curveOf l k ++ [(deeper l (k+1) l.length : Int)] := by
  simp [curveOf, List.range_succ]
theorem curveOf_get {l : List Int} {k j : Nat} (h : j < k) : (curveOf l k)[j]?.getD 0 = (deeper l (j+1) l.length : Int) := by
  simp [curveOf, h]
/-- The curve as far as it is written; zeros behind it. -/
def curveTo (l : List Int) (k : Nat) : List Int := curveOf l k ++ List.replicate (8 - k) 0
theorem curveTo_length (l : List Int) {k : Nat} (h : k ≤ 8) : (curveTo l k).length = 8 := by
  unfold curveTo; rw [List.length_append, curveOf_length, List.length_replicate]; omega
theorem curveTo_set (l : List Int) {k : Nat} (h : k < 8) : (curveTo l k).set k (deeper l (k+1) l.length : Int) = curveTo l (k+1) := by
  unfold curveTo
  rw [List.set_append_right _ _ (by rw [curveOf_length]; exact Nat.le_refl _), curveOf_length, Nat.sub_self, curveOf_succ, show 8 - k = (8 - (k+1)) + 1 by omega, List.replicate_succ, List.set_cons_zero, List.append_assoc]; rfl
theorem curveTo_all (l : List Int) : curveTo l 8 = curveOf l 8 := by simp [curveTo]
def stkD (l : List Int) : List Int := if chk l 8 = 0 then depthsOf l l.length else []
def stkC (l : List Int) : List Int := if chk l 8 = 0 then curveOf l 8 else []
theorem stkD_ok {l : List Int} (h : chk l 8 = 0) : stkD l = depthsOf l l.length := if_pos h
theorem stkD_bad {l : List Int} (h : chk l 8 ≠ 0) : stkD l = [] := if_neg h
theorem stkC_ok {l : List Int} (h : chk l 8 = 0) : stkC l = curveOf l 8 := if_pos h
theorem stkC_bad {l : List Int} (h : chk l 8 ≠ 0) : stkC l = [] := if_neg h
theorem mru_short : ∀ (r : List Int), (mru r).length ≤ r.length
  | [] => Nat.le_refl _
  | p :: r => by
    rw [mru, List.length_cons, List.length_cons]
    have h1 := mru_short r
    have h2 : ((mru r).erase p).length ≤ (mru r).length := List.length_erase_le
    omega
theorem pile_short (l : List Int) (k : Nat) : (full (l.take k)).length ≤ k := by
  have h := mru_short (l.take k).reverse
  rw [List.length_reverse, List.length_take] at h
  unfold full
  omega
theorem at_bounds (F : List Int) (p : Int) : -1 ≤ at_ F p ∧ at_ F p < F.length := by
  by_cases h : p ∈ F
  · obtain ⟨i, h1, h2, _⟩ := idx_hit h
    unfold at_
    omega
  · have : at_ F p = -1 := idx_miss h
    omega
theorem deep_at (l : List Int) (k : Nat) : at_ (full (l.take k)) (l[k]?.getD 0) + 1 = (deep l k : Int) := deepIn_at _ _
end Go.Proofs.Ytkoccdhonbnlhaa
