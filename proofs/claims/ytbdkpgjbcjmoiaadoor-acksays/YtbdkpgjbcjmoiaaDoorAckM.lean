/- Lists alone, for chapter 13: the least that telling costs; at whatever times; so much later. -/
import Derived.Test.YtbdkpgjbcjmoiaaDoorAckL
namespace Go.Proofs.YtbdkpgjbcjmoiaaDoor

/-- x is the least that telling costs. -/
structure LeastTell (p : Int) (ts : List Int) (x : Int) : Prop where
  some : Tells p ts x
  all : ∀ y, Tells p ts y → x ≤ y
theorem leastTell_unique {p : Int} {ts : List Int} {x y : Int} (hx : LeastTell p ts x) (hy : LeastTell p ts y) : x = y := by
  have := hx.all y hy.some
  have := hy.all x hx.some
  omega
theorem tells_nil {p y : Int} (h : Tells p [] y) : y = 0 := by
  generalize hts : ([] : List Int) = ts at h
  cases h with
  | done => rfl
  | tell hA _ _ _ => exact absurd (List.append_eq_nil_iff.1 hts.symm).1 hA
theorem leastTell_nil (p : Int) : LeastTell p [] 0 := ⟨.done, fun y h => by rw [tells_nil h]; exact Int.le_refl _⟩
/-- Of the first messages told together, and of the rest. -/
theorem leastTell_step {p : Int} {ts : List Int} (hr : rising ts) (h0 : ts ≠ []) {b : Nat → Int} (hb : ∀ k, k < ts.length → LeastTell p (ts.drop (k+1)) (b k)) {x : Int}
    (h1 : ∃ k, k < ts.length ∧ x = p + late (ts.take (k+1)) (ts[k]?.getD 0) + b k) (h2 : ∀ k, k < ts.length → x ≤ p + late (ts.take (k+1)) (ts[k]?.getD 0) + b k) : LeastTell p ts x := by
  have hsort : ∀ {i j : Nat}, i ≤ j → j < ts.length → ts[i]?.getD 0 ≤ ts[j]?.getD 0 := fun {i j} hij hj => by
    rw [List.getElem?_eq_getElem (by omega : i < ts.length), List.getElem?_eq_getElem hj]
    by_cases e : i = j
    · subst e; exact Int.le_refl _
    · exact List.pairwise_iff_getElem.1 hr i j (by omega) hj (by omega)
  refine ⟨?_, fun y hy => ?_⟩
  · obtain ⟨k, hk, e⟩ := h1
    have := Tells.tell (p := p) (A := ts.take (k+1)) (B := ts.drop (k+1)) (e := ts[k]?.getD 0) (y := b k) (fun h => by
      have := congrArg List.length h
      rw [List.length_take, List.length_nil] at this
      omega)
      (fun z hz => by
        obtain ⟨i, hi, e⟩ := List.mem_iff_getElem.1 hz
        rw [List.length_take] at hi
        rw [List.getElem_take] at e
        have := hsort (i := i) (j := k) (by omega) hk
        rw [List.getElem?_eq_getElem (by omega : i < ts.length), Option.getD_some, e] at this
        exact this)
      (fun z hz => by
        obtain ⟨i, hi, e⟩ := List.mem_iff_getElem.1 hz
        rw [List.length_drop] at hi
        rw [List.getElem_drop] at e
        have := hsort (i := k) (j := k + 1 + i) (by omega) (by omega)
        rw [List.getElem?_eq_getElem (by omega : k + 1 + i < ts.length), Option.getD_some, e] at this
        exact this) (hb k hk).some
    rw [List.take_append_drop] at this
    rw [e]; exact this
  · generalize hts : ts = us at hy
    cases hy with
    | done => exact absurd hts h0
    | @tell A B e y hA hAe hBe hB =>
      have hl : 0 < A.length := List.length_pos_iff.2 hA
      have hlen : ts.length = A.length + B.length := by rw [hts, List.length_append]
      have hk : A.length - 1 < ts.length := by omega
      have et : ts.take (A.length - 1 + 1) = A := by rw [hts, show A.length - 1 + 1 = A.length by omega]; exact List.take_left
      have ed : ts.drop (A.length - 1 + 1) = B := by rw [hts, show A.length - 1 + 1 = A.length by omega]; exact List.drop_left
      have h3 := h2 _ hk
      have h4 := (hb _ hk).all y (by rw [ed]; exact hB)
      rw [et] at h3
      have h5 : ts[A.length - 1]?.getD 0 ≤ e := by
        refine hAe _ ?_
        rw [hts, List.getElem?_append_left (by omega), List.getElem?_eq_getElem (by omega), Option.getD_some]
        exact List.getElem_mem _
      have h6 := late_mono h5 A
      omega

/-- At whatever times it is told. -/
def anyCost (p : Int) : List Int → List Int → Int
  | [], _ => 0
  | a :: T, left => late (upto a left) a + p + anyCost p T (past a left)
def anyLeft : List Int → List Int → List Int
  | [], left => left
  | a :: T, left => anyLeft T (past a left)
theorem any_tells {p : Int} (hp : 0 ≤ p) : ∀ (T left : List Int), rising left → anyLeft T left = [] → ∃ y, Tells p left y ∧ y ≤ anyCost p T left
  | [], left, _, h => by
    rw [anyLeft] at h
    subst h
    exact ⟨0, .done, Int.le_refl _⟩
  | a :: T, left, hr, h => by
    rw [anyLeft] at h
    obtain ⟨y, h1, h2⟩ := any_tells hp T _ (past_rising (a := a) hr) h
    rw [anyCost]
    by_cases hn : upto a left = []
    · have e : past a left = left := by
        have := parts (a := a) hr
        rw [hn, List.nil_append] at this
        exact this.symm
      rw [e] at h1 h2
      refine ⟨y, h1, ?_⟩
      rw [e]
      have := late_nonneg (upto a left) a
      omega
    · have := Tells.tell (p := p) (e := a) hn (fun x hx => by have := (List.mem_filter.1 hx).2; simpa using this) (fun x hx => by have := (List.mem_filter.1 hx).2; simp at this; omega) h1
      rw [← parts hr] at this
      exact ⟨_, this, by omega⟩
theorem any_least {p : Int} (hp : 0 ≤ p) {T ts : List Int} (hr : rising ts) (h : anyLeft T ts = []) {x : Int} (hx : LeastTell p ts x) : x ≤ anyCost p T ts := by
  obtain ⟨y, h1, h2⟩ := any_tells hp T ts hr h
  have := hx.all y h1
  omega
theorem least_run {p : Int} (hp : 0 ≤ p) {ts : List Int} (hr : rising ts) {x : Int} (hx : LeastTell p ts x) : x ≤ tc p ts ∧ tc p ts ≤ 2 * x :=
  ⟨hx.all _ (tells_run hp ts.length ts hr (Nat.le_refl _)), tells_twice hp hr hx.some⟩

/-- So much later. -/
def later (b : Int) (ts : List Int) : List Int := ts.map (· + b)
theorem late_later (b : Int) (ts : List Int) (a : Int) : late (later b ts) (a + b) = late ts a := by
  induction ts with
  | nil => rfl
  | cons t r ih =>
    have e : later b (t :: r) = (t + b) :: later b r := rfl
    rw [e, late, late, ih]
    by_cases h : t < a
    · rw [if_pos h, if_pos (by omega)]; omega
    · rw [if_neg h, if_neg (by omega)]
theorem tellAt_later (p b : Int) (ts : List Int) : ∀ (f : Nat) (a : Int), tellAt p (later b ts) f (a + b) = tellAt p ts f a + b
  | 0, _ => rfl
  | f + 1, a => by
    rw [tellAt, tellAt, show a + b + 1 = (a + 1) + b by omega, late_later]
    split
    · exact tellAt_later p b ts f (a + 1)
    · rfl
theorem firstAt_later (p b : Int) {t : Int} {r : List Int} : firstAt p (later b (t :: r)) = firstAt p (t :: r) + b := tellAt_later p b (t :: r) _ t
theorem upto_later (a b : Int) (ts : List Int) : upto (a + b) (later b ts) = later b (upto a ts) := by
  unfold upto later
  rw [List.filter_map]
  congr 1
  refine List.filter_congr fun x _ => ?_
  simp only [Function.comp]
  rw [decide_eq_decide]; omega
theorem past_later (a b : Int) (ts : List Int) : past (a + b) (later b ts) = later b (past a ts) := by
  unfold past later
  rw [List.filter_map]
  congr 1
  refine List.filter_congr fun x _ => ?_
  simp only [Function.comp]
  rw [decide_eq_decide]; omega
theorem told_later (p b : Int) : ∀ (f : Nat) (ts : List Int), told p f (later b ts) = later b (told p f ts) ∧ tcost p f (later b ts) = tcost p f ts
  | 0, _ => ⟨rfl, rfl⟩
  | f + 1, [] => ⟨rfl, rfl⟩
  | f + 1, t :: r => by
    have ih := told_later p b f (past (firstAt p (t :: r)) (t :: r))
    have e0 : later b (t :: r) = (t + b) :: later b r := rfl
    have e1 := firstAt_later p b (t := t) (r := r)
    have e2 := past_later (firstAt p (t :: r)) b (t :: r)
    have e3 := upto_later (firstAt p (t :: r)) b (t :: r)
    rw [e0] at e1 e2 e3 ⊢
    rw [told, tcost, told, tcost, e1, e2, e3, ih.1, ih.2, late_later]
    exact ⟨rfl, rfl⟩
theorem later_length (b : Int) (ts : List Int) : (later b ts).length = ts.length := by unfold later; rw [List.length_map]
theorem later_append (b : Int) (A B : List Int) : later b (A ++ B) = later b A ++ later b B := by unfold later; rw [List.map_append]
theorem tells_later {p : Int} (b : Int) {ts : List Int} {y : Int} (h : Tells p ts y) : Tells p (later b ts) y := by
  induction h with
  | done => exact .done
  | @tell A B e y hA hAe hBe _ ih =>
    have := Tells.tell (p := p) (A := later b A) (B := later b B) (e := e + b) (by
      intro h
      exact hA (List.map_eq_nil_iff.1 h)) (fun x hx => by
        obtain ⟨z, hz, rfl⟩ := List.mem_map.1 hx
        have := hAe z hz
        omega) (fun x hx => by
        obtain ⟨z, hz, rfl⟩ := List.mem_map.1 hx
        have := hBe z hz
        omega) ih
    rw [late_later, ← later_append] at this
    exact this
theorem later_back (b : Int) (ts : List Int) : later (-b) (later b ts) = ts := by
  unfold later
  rw [List.map_map]
  conv => rhs; rw [← List.map_id ts]
  refine List.map_congr_left fun x _ => ?_
  simp only [Function.comp, id]; omega
theorem leastTell_later {p b : Int} {ts : List Int} {x : Int} (hx : LeastTell p ts x) : LeastTell p (later b ts) x :=
  ⟨tells_later b hx.some, fun y hy => hx.all y (by have := tells_later (-b) hy; rwa [later_back] at this)⟩
end Go.Proofs.YtbdkpgjbcjmoiaaDoor
