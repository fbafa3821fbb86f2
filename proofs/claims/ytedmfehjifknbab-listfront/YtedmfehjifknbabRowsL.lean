/- Lists alone, for chapter 11: rows of things, how many pairs stand the other way round, what looking costs. -/
import Derived.Test.YtedmfehjifknbabLandL
namespace Go.Proofs.Ytedmfehjifknbab

def pos (l : List Int) (x : Int) : Nat := l.idxOf x
def ahd (A : List Int) (x y : Int) : Bool := decide (pos A x < pos A y)
/-- A row of the things U: each once. -/
structure Row (U A : List Int) : Prop where
  nd : A.Nodup
  mem : ∀ x, x ∈ A ↔ x ∈ U
theorem pos_lt {A : List Int} {x : Int} (h : x ∈ A) : pos A x < A.length := List.idxOf_lt_length_iff.2 h
theorem get_pos {A : List Int} {x : Int} (h : x ∈ A) : A[pos A x]? = some x := by
  have h1 : A.idxOf x < A.length := pos_lt h
  have h2 : A[A.idxOf x]? = some A[A.idxOf x] := List.getElem?_eq_getElem h1
  rw [List.getElem_idxOf] at h2
  exact h2
theorem pos_inj {A : List Int} {x y : Int} (hx : x ∈ A) (hy : y ∈ A) (h : pos A x = pos A y) : x = y := by
  have a := get_pos hx
  have b := get_pos hy
  rw [h, b] at a
  exact (Option.some.inj a).symm
theorem many_or {q r t : Int → Bool} : ∀ {A : List Int}, (∀ x, x ∈ A → q x = true → r x = true ∨ t x = true) → many q A ≤ many r A + many t A
  | [], _ => Nat.zero_le _
  | x :: A, h => by
    have ih := many_or (q := q) (r := r) (t := t) (A := A) fun y hy => h y (by simp [hy])
    have hx := h x (by simp)
    rw [many_cons, many_cons, many_cons]
    cases hq : q x <;> cases hr : r x <;> cases ht : t x <;> simp [hq, hr, ht] at hx ⊢ <;> omega
theorem many_split {q r : Int → Bool} (A : List Int) : many q A = many (fun x => q x && r x) A + many (fun x => q x && !r x) A := by
  induction A with
  | nil => rfl
  | cons x A ih =>
    rw [many_cons, many_cons, many_cons, ih]
    cases q x <;> cases r x <;> simp <;> omega
theorem many_mono_of {q r : Int → Bool} {A : List Int} (h : ∀ x, x ∈ A → q x = true → r x = true) : many q A ≤ many r A := by
  have := many_or (q := q) (r := r) (t := fun _ => false) (A := A) fun x hx hq => .inl (h x hx hq)
  rwa [many_none (q := fun _ => false) (fun _ _ => rfl), Nat.add_zero] at this
theorem many_same {q : Int → Bool} {A B : List Int} (hA : A.Nodup) (hB : B.Nodup) (h : ∀ x, x ∈ A ↔ x ∈ B) : many q A = many q B := by
  unfold many
  exact same_length (hA.filter q) (hB.filter q) fun x => by rw [List.mem_filter, List.mem_filter, h]
/-- How many stand ahead of a thing: its place. -/
theorem many_ahead {U A : List Int} (hU : U.Nodup) (hA : Row U A) {x : Int} (hx : x ∈ A) : many (fun y => ahd A y x) U = pos A x := by
  rw [many_same hU hA.nd fun y => (hA.mem y).symm]
  have hl : (A.take (pos A x)).length = pos A x := by
    have := pos_lt hx
    rw [List.length_take]; omega
  rw [← hl]
  unfold many
  refine same_length (hA.nd.filter _) (hA.nd.sublist (List.take_sublist _ _)) fun y => ?_
  rw [List.mem_filter]
  unfold ahd
  rw [decide_eq_true_iff]
  constructor
  · rintro ⟨hy, hlt⟩
    have := get_pos hy
    rw [← List.getElem?_take_of_lt hlt] at this
    exact List.mem_of_getElem? this
  · intro hy
    obtain ⟨n, hn, e⟩ := List.mem_iff_getElem.1 hy
    rw [List.length_take] at hn
    rw [List.getElem_take] at e
    have hyA : y ∈ A := List.mem_of_mem_take hy
    refine ⟨hyA, ?_⟩
    have h1 : A[pos A y]? = A[n]? := by rw [get_pos hyA, ← e, List.getElem?_eq_getElem (by omega)]
    have h2 : pos A y = n := (List.getElem?_inj (pos_lt hyA) hA.nd).1 h1
    omega

/-- How many pairs stand the other way round. -/
def turn2 (U A B : List Int) : Nat := sumOn (fun x => many (fun y => ahd A x y && ahd B y x) U) U
theorem ahd_not {A : List Int} {x y : Int} (h : ahd A x y = true) : ahd A y x = false := by
  unfold ahd at *
  rw [decide_eq_true_iff] at h
  exact decide_eq_false (by omega)
theorem ahd_or {A : List Int} {x y : Int} (hx : x ∈ A) (hy : y ∈ A) (hne : x ≠ y) (h : ahd A x y = false) : ahd A y x = true := by
  unfold ahd at *
  rw [decide_eq_false_iff_not] at h
  rw [decide_eq_true_iff]
  have : pos A x ≠ pos A y := fun e => hne (pos_inj hx hy e)
  omega
theorem turn2_self (U A : List Int) : turn2 U A A = 0 := by
  unfold turn2
  have : sumOn (fun x => many (fun y => ahd A x y && ahd A y x) U) U = sumOn (fun _ => 0) U := sumOn_congr fun x _ => many_none fun y _ => by
    cases h : ahd A x y
    · rfl
    · rw [ahd_not h]; rfl
  rw [this]
  have := sumOn_mul (fun _ => 0) 0 U
  simpa using this
/-- By way of another row it is no fewer. -/
theorem turn2_tri {U A B C : List Int} (hB : Row U B) : turn2 U A C ≤ turn2 U A B + turn2 U B C := by
  unfold turn2
  rw [← sumOn_add]
  refine sumOn_le fun x hx => many_or fun y hy h => ?_
  rw [Bool.and_eq_true] at h
  have hne : x ≠ y := fun e => by
    rw [e] at h
    have := ahd_not h.1
    rw [h.1] at this; cases this
  cases hb : ahd B y x
  · right
    rw [ahd_or ((hB.mem y).2 hy) ((hB.mem x).2 hx) (Ne.symm hne) hb, h.2]; rfl
  · left
    rw [h.1]; rfl
/-- A thing comes no further forward than there are pairs that change. -/
theorem pos_turn {U A B : List Int} (hU : U.Nodup) (hA : Row U A) (hB : Row U B) {x : Int} (hx : x ∈ U) : pos A x ≤ pos B x + turn2 U A B := by
  rw [← many_ahead hU hA ((hA.mem x).2 hx), ← many_ahead hU hB ((hB.mem x).2 hx)]
  have h1 : many (fun y => ahd A y x) U ≤ many (fun y => ahd B y x) U + many (fun y => ahd A y x && ahd B x y) U := many_or fun y hy h => by
    have hne : y ≠ x := fun e => by
      rw [e] at h
      have := ahd_not h
      rw [h] at this; cases this
    cases hb : ahd B y x
    · right; rw [h, ahd_or ((hB.mem y).2 hy) ((hB.mem x).2 hx) hne hb]; rfl
    · left; rfl
  have h2 : many (fun y => ahd A y x && ahd B x y) U ≤ turn2 U A B := by
    unfold turn2
    have : many (fun y => ahd A y x && ahd B x y) U = sumOn (fun y => if ahd A y x && ahd B x y then 1 else 0) U := by rw [sumOn_some, Nat.one_mul]
    rw [this]
    refine sumOn_le fun y _ => ?_
    cases hq : (ahd A y x && ahd B x y)
    · exact Nat.zero_le _
    · have : many (fun z => ahd A y z && ahd B z y) U ≥ 1 := by
        unfold many
        exact List.length_pos_of_mem (List.mem_filter.2 ⟨hx, hq⟩)
      simpa using this
  omega

/-- Where things stand when one is taken out. -/
theorem pos_erase {A : List Int} {x v : Int} (hn : A.Nodup) (hx : x ∈ A) (hv : v ∈ A) (hne : v ≠ x) : pos (A.erase x) v = if pos A v < pos A x then pos A v else pos A v - 1 := by
  induction A with
  | nil => cases hx
  | cons y A ih =>
    rw [List.nodup_cons] at hn
    unfold pos at ih ⊢
    by_cases hy : y = x
    · subst hy
      have hyv : (y == v) = false := beq_eq_false_iff_ne.2 (Ne.symm hne)
      rw [List.erase_cons_head, List.idxOf_cons, hyv, cond_false, List.idxOf_cons_self, if_neg (by omega)]; rfl
    · have hxA : x ∈ A := by simpa [Ne.symm hy] using hx
      have hyx : (y == x) = false := beq_eq_false_iff_ne.2 hy
      rw [List.erase_cons_tail (by simpa using hy), List.idxOf_cons, List.idxOf_cons, List.idxOf_cons, hyx]
      by_cases hyv : y = v
      · subst hyv
        simp
      · have hvA : v ∈ A := by simpa [Ne.symm hyv] using hv
        have hyv' : (y == v) = false := beq_eq_false_iff_ne.2 hyv
        have h := ih hn.2 hxA hvA
        have hp : A.idxOf v ≠ A.idxOf x := fun e => hne (pos_inj hvA hxA e)
        rw [hyv']
        simp only [cond_false]
        rw [h]
        by_cases hlt : A.idxOf v < A.idxOf x
        · rw [if_pos hlt, if_pos (by omega)]
        · rw [if_neg hlt, if_neg (by omega)]; omega
theorem ahd_erase {A : List Int} {x u v : Int} (hn : A.Nodup) (hx : x ∈ A) (hu : u ∈ A) (hv : v ∈ A) (hux : u ≠ x) (hvx : v ≠ x) : ahd (A.erase x) u v = ahd A u v := by
  unfold ahd
  rw [pos_erase hn hx hu hux, pos_erase hn hx hv hvx, decide_eq_decide]
  have h1 : pos A u ≠ pos A x := fun e => hux (pos_inj hu hx e)
  have h2 : pos A v ≠ pos A x := fun e => hvx (pos_inj hv hx e)
  split <;> split <;> omega
theorem row_front {U A : List Int} (hA : Row U A) {x : Int} (hx : x ∈ U) : Row U (x :: A.erase x) := by
  refine ⟨List.nodup_cons.2 ⟨hA.nd.not_mem_erase, hA.nd.erase x⟩, fun y => ?_⟩
  rw [List.mem_cons, hA.nd.mem_erase_iff, hA.mem]
  constructor
  · rintro (rfl | h)
    · exact hx
    · exact h.2
  · intro h
    by_cases e : y = x
    · exact .inl e
    · exact .inr ⟨e, h⟩
/-- B is A, with x moved forward. -/
structure Forward (A B : List Int) (x : Int) : Prop where
  rest : B.erase x = A.erase x
  le : pos B x ≤ pos A x
theorem forward_front (A : List Int) (x : Int) : Forward A (x :: A.erase x) x :=
  ⟨by rw [List.erase_cons_head], by unfold pos; rw [List.idxOf_cons_self]; exact Nat.zero_le _⟩
theorem forward_ahd {U A B : List Int} (hA : Row U A) (hB : Row U B) {x u v : Int} (hf : Forward A B x) (hx : x ∈ U) (hu : u ∈ U) (hv : v ∈ U) (hux : u ≠ x) (hvx : v ≠ x) : ahd B u v = ahd A u v := by
  rw [← ahd_erase hA.nd ((hA.mem x).2 hx) ((hA.mem u).2 hu) ((hA.mem v).2 hv) hux hvx, ← ahd_erase hB.nd ((hB.mem x).2 hx) ((hB.mem u).2 hu) ((hB.mem v).2 hv) hux hvx, hf.rest]
theorem forward_x {U A B : List Int} (hA : Row U A) (hB : Row U B) {x v : Int} (hf : Forward A B x) (hx : x ∈ U) (hv : v ∈ U) (hvx : v ≠ x) (h : ahd B v x = true) : ahd A v x = true := by
  have a := pos_erase hA.nd ((hA.mem x).2 hx) ((hA.mem v).2 hv) hvx
  have b := pos_erase hB.nd ((hB.mem x).2 hx) ((hB.mem v).2 hv) hvx
  have hle := hf.le
  have hpx : pos A v ≠ pos A x := fun e => hvx (pos_inj ((hA.mem v).2 hv) ((hA.mem x).2 hx) e)
  rw [hf.rest, a] at b
  unfold ahd at *
  rw [decide_eq_true_iff] at *
  rw [if_pos h] at b
  split at b <;> omega
/-- The thing that was looked for stands in front here: moved forward there, no more pairs stand the other way round. -/
theorem turn2_forward {U A B C : List Int} (hB : Row U B) (hC : Row U C) {x : Int} (hx : x ∈ U) (h0 : pos A x = 0) (hf : Forward B C x) : turn2 U A C ≤ turn2 U A B := by
  unfold turn2
  refine sumOn_le fun u hu => many_mono_of fun v hv h => ?_
  rw [Bool.and_eq_true] at h ⊢
  refine ⟨h.1, ?_⟩
  have hvx : v ≠ x := fun e => by
    have := h.1
    unfold ahd at this
    rw [decide_eq_true_iff, e, h0] at this
    omega
  by_cases hux : u = x
  · subst hux; exact forward_x hB hC hf hx hv hvx h.2
  · rw [← forward_ahd hB hC hf hx hv hu hvx hux]; exact h.2
end Go.Proofs.Ytedmfehjifknbab
