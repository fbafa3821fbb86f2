/- Lists alone, for chapter 13: what is told at one time did not wait longer, together, than the price, and would have, one later; all is told. -/
import Derived.Test.YtbdkpgjbcjmoiaaAckTwice
namespace Go.Proofs.Ytbdkpgjbcjmoiaa

theorem past_past {a b : Int} (h : a ≤ b) (l : List Int) : past b (past a l) = past b l := by
  unfold past
  rw [List.filter_filter]
  refine List.filter_congr fun x _ => ?_
  by_cases hx : b < x
  · rw [decide_eq_true hx, decide_eq_true (show a < x by omega)]; rfl
  · rw [decide_eq_false hx]; rfl
theorem past_take {l : List Int} {k : Nat} (hk : k < l.length) (f : Int) : past f (l.take (k+1)) = past f (l.take k) ++ (if f < l[k]?.getD 0 then [l[k]?.getD 0] else []) := by
  unfold past
  rw [List.take_succ_eq_append_getElem hk, List.filter_append, List.getElem?_eq_getElem hk, Option.getD_some]
  congr 1
  by_cases h : f < l[k]
  · rw [List.filter_cons_of_pos (by simpa using h), if_pos h]; rfl
  · rw [List.filter_cons_of_neg (by simpa using h), if_neg h]; rfl
/-- How many wait, ahead of k, that came behind f, up to a. -/
def manyTo (f a : Int) (l : List Int) (k : Nat) : Nat := (upto a (past f (l.take k))).length
def lateTo (f a : Int) (l : List Int) (k : Nat) : Int := late (past f (l.take k)) a
theorem manyTo_zero (f a : Int) (l : List Int) : manyTo f a l 0 = 0 := rfl
theorem lateTo_zero (f a : Int) (l : List Int) : lateTo f a l 0 = 0 := rfl
theorem manyTo_in {f a : Int} {l : List Int} {k : Nat} (hk : k < l.length) (h1 : f < l[k]?.getD 0) (h2 : l[k]?.getD 0 ≤ a) : manyTo f a l (k+1) = manyTo f a l k + 1 := by
  unfold manyTo
  rw [past_take hk, if_pos h1]
  unfold upto
  rw [List.filter_append, List.length_append, List.filter_cons_of_pos (by simpa using h2)]; rfl
theorem manyTo_out {f a : Int} {l : List Int} {k : Nat} (hk : k < l.length) (h : ¬ (f < l[k]?.getD 0 ∧ l[k]?.getD 0 ≤ a)) : manyTo f a l (k+1) = manyTo f a l k := by
  unfold manyTo
  rw [past_take hk]
  by_cases h1 : f < l[k]?.getD 0
  · rw [if_pos h1]
    unfold upto
    rw [List.filter_append, List.length_append, List.filter_cons_of_neg (by simp; omega)]; rfl
  · rw [if_neg h1, List.append_nil]
theorem lateTo_in {f a : Int} {l : List Int} {k : Nat} (hk : k < l.length) (h1 : f < l[k]?.getD 0) (h2 : l[k]?.getD 0 ≤ a) : lateTo f a l (k+1) = lateTo f a l k + (a - l[k]?.getD 0) := by
  unfold lateTo
  rw [past_take hk, if_pos h1, late_append, late, late]
  split <;> omega
theorem lateTo_out {f a : Int} {l : List Int} {k : Nat} (hk : k < l.length) (h : ¬ (f < l[k]?.getD 0 ∧ l[k]?.getD 0 ≤ a)) : lateTo f a l (k+1) = lateTo f a l k := by
  unfold lateTo
  rw [past_take hk]
  by_cases h1 : f < l[k]?.getD 0
  · rw [if_pos h1, late_append, late, late, if_neg (by omega)]; omega
  · rw [if_neg h1, List.append_nil]
theorem lateTo_bound {f a : Int} {l : List Int} (hl : l.length ≤ 20) (h0 : ∀ x, x ∈ l → 0 ≤ x) (ha : 0 ≤ a ∧ a ≤ 4000) (k : Nat) : 0 ≤ lateTo f a l k ∧ lateTo f a l k ≤ 80000 := by
  refine ⟨late_nonneg _ _, ?_⟩
  have := late_le (l := past f (l.take k)) (a := a) (m := 4000) (by omega) fun x hx => by have := h0 x (List.mem_of_mem_take (List.mem_filter.1 hx).1); omega
  have h2 : (past f (l.take k)).length ≤ 20 := by
    have := past_le f (l.take k)
    rw [List.length_take] at this; omega
  unfold lateTo
  omega
theorem manyTo_le {f a : Int} {l : List Int} (k : Nat) : manyTo f a l k ≤ l.length := by
  unfold manyTo upto past
  have h1 := List.length_filter_le (fun t => decide (t ≤ a)) ((l.take k).filter fun t => decide (f < t))
  have h2 := List.length_filter_le (fun t => decide (f < t)) (l.take k)
  rw [List.length_take] at h2; omega
/-- How it stands when it was told i times: what came behind is told later. -/
structure Told (l : List Int) (p : Int) (i : Nat) (f : Int) (many : Nat) (sum : Int) : Prop where
  rest : (tl p l).drop i = tl p (past f l)
  many_ : many + (past f l).length = l.length
  sum_ : sum + tc p (past f l) = tc p l
  from_ : -1 ≤ f ∧ f ≤ 1020
  pos : 0 ≤ sum
theorem past_all {l : List Int} (h : ∀ x, x ∈ l → 0 ≤ x) : past (-1) l = l := List.filter_eq_self.2 fun x hx => by have := h x hx; simp; omega
theorem Told.start {l : List Int} {p : Int} (hf : FineA l p) : Told l p 0 (-1) 0 0 := by
  have e := past_all fun x hx => (hf.times x hx).1
  exact ⟨by rw [e, List.drop_zero], by rw [e]; omega, by rw [e]; omega, by omega, by omega⟩
theorem FineA.past {l : List Int} {p : Int} (h : FineA l p) (f : Int) : FineA (past f l) p :=
  ⟨by have := past_le f l; have := h.many; omega, fun x hx => h.times x (List.mem_filter.1 hx).1, h.price, past_rising h.rise⟩
theorem Told.some {l : List Int} {p : Int} (hf : FineA l p) {i : Nat} {f : Int} {many : Nat} {sum : Int} (h : Told l p i f many sum) (hi : i < (tl p l).length) :
    past f l ≠ [] ∧ (tl p l)[i]?.getD 0 = firstAt p (past f l) := by
  have h0 : past f l ≠ [] := fun e => by
    have := congrArg List.length h.rest
    rw [e, List.length_drop] at this
    have e2 : (tl p []).length = 0 := rfl
    omega
  refine ⟨h0, ?_⟩
  have e := tl_cons (show 0 ≤ p by have := hf.price; omega) (hf.past f).rise h0
  have h1 := h.rest
  rw [e] at h1
  have h2 := congrArg (fun L => L[0]?.getD 0) h1
  simpa [List.getElem?_drop] using h2
theorem Told.step {l : List Int} {p : Int} (hf : FineA l p) {i : Nat} {f : Int} {many : Nat} {sum : Int} (h : Told l p i f many sum) (hi : i < (tl p l).length) {a : Int} (ha : (tl p l)[i]?.getD 0 = a) :
    f < a ∧ 0 ≤ a ∧ a ≤ 1020 ∧ 0 < manyTo f a l l.length ∧ lateTo f a l l.length ≤ p ∧ p < lateTo f (a+1) l l.length ∧ Told l p (i+1) a (many + manyTo f a l l.length) (sum + lateTo f a l l.length + p) := by
  obtain ⟨h0, e⟩ := h.some hf hi
  rw [e] at ha
  have F := hf.past f
  have hp := hf.price
  have hle := first_le F h0
  obtain ⟨t, r, hc⟩ : ∃ t r, past f l = t :: r := by cases hh : past f l with | nil => exact absurd hh h0 | cons t r => exact ⟨t, r, rfl⟩
  have hs := firstAt_spec (show 0 ≤ p by omega) (hc ▸ F.rise : rising (t :: r))
  rw [← hc, ha] at hs
  rw [ha] at hle
  have hft : f < t := by
    have : t ∈ past f l := by rw [hc]; exact List.mem_cons_self
    have := (List.mem_filter.1 this).2
    simpa using this
  have hfa : f < a := by have := hs.from_; omega
  have hpp := past_past (show f ≤ a by omega) l
  have em : manyTo f a l l.length = (upto a (past f l)).length := by unfold manyTo; rw [List.take_length]
  have el : ∀ b, lateTo f b l l.length = late (past f l) b := fun b => by unfold lateTo; rw [List.take_length]
  have hparts := congrArg List.length (parts (a := a) F.rise)
  rw [List.length_append, hpp] at hparts
  have hpos : 0 < (upto a (past f l)).length := by
    rw [hc]
    unfold upto
    rw [List.filter_cons_of_pos (by have := hs.from_; simpa using this), List.length_cons]; omega
  have e1 := tl_cons (show 0 ≤ p by omega) F.rise h0
  have e2 := tc_more (show 0 ≤ p by omega) F.rise h0
  rw [ha, hpp] at e1 e2
  have hn := late_nonneg (past f l) a
  have hq := h.many_
  have hr := h.sum_
  have ht := h.pos
  refine ⟨hfa, hle.1, hle.2, by omega, by rw [el]; exact hs.now, by rw [el]; exact hs.next, ?_, by omega, by rw [el]; omega, by omega, by rw [el]; omega⟩
  rw [← List.drop_drop, h.rest, e1, List.drop_succ_cons, List.drop_zero]
theorem tcost_nonneg {p : Int} (hp : 0 ≤ p) : ∀ (f : Nat) (ts : List Int), 0 ≤ tcost p f ts
  | 0, _ => Int.le_refl _
  | f + 1, [] => Int.le_refl _
  | f + 1, t :: r => by
    have h1 := tcost_nonneg hp f (past (firstAt p (t :: r)) (t :: r))
    have h2 := late_nonneg (upto (firstAt p (t :: r)) (t :: r)) (firstAt p (t :: r))
    rw [tcost]; omega
theorem Told.most {l : List Int} {p : Int} (hf : FineA l p) {i : Nat} {f : Int} {many : Nat} {sum : Int} (h : Told l p i f many sum) : sum ≤ 800 ∧ many ≤ 20 := by
  have h1 := tc_most hf
  have h2 : 0 ≤ tc p (past f l) := tcost_nonneg (by have := hf.price; omega) _ _
  have h3 := h.sum_
  have h4 := h.many_
  have h5 := hf.many
  omega
theorem Told.atEnd {l : List Int} {p : Int} (hf : FineA l p) {i : Nat} {f : Int} {many : Nat} {sum : Int} (h : Told l p i f many sum) (hi : (tl p l).length ≤ i) : many = l.length ∧ sum = tc p l := by
  have h0 : past f l = [] := Classical.byContradiction fun h0 => by
    have e := tl_cons (show 0 ≤ p by have := hf.price; omega) (hf.past f).rise h0
    have := congrArg List.length h.rest
    rw [e, List.length_drop, List.length_cons] at this
    omega
  have h1 := h.many_
  have h2 := h.sum_
  rw [h0] at h1 h2
  have e2 : tc p [] = 0 := rfl
  exact ⟨by simpa using h1, by omega⟩
end Go.Proofs.Ytbdkpgjbcjmoiaa
