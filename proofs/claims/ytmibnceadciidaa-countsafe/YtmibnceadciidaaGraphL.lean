/- Lists alone, for chapter 17: what can be come to; breadth first; rings; taking away what is not pointed to. g gives the pointers of a node. -/
import Derived.Test.YtmibnceadciidaaSched
namespace Go.Proofs.Ytmibnceadciidaa

/-- What can be come to from some nodes. -/
inductive Come (g : Int → List Int) (R : List Int) : Int → Prop
  | root {x : Int} : x ∈ R → Come g R x
  | step {x y : Int} : Come g R x → y ∈ g x → Come g R y
theorem Come.mono {g : Int → List Int} {R S : List Int} (h : ∀ x, x ∈ R → x ∈ S) {x : Int} (hx : Come g R x) : Come g S x := by
  induction hx with
  | root h1 => exact .root (h _ h1)
  | step _ h2 ih => exact .step ih h2
theorem Come.trans {g : Int → List Int} {R S : List Int} (h : ∀ x, x ∈ S → Come g R x) {x : Int} (hx : Come g S x) : Come g R x := by
  induction hx with
  | root h1 => exact h _ h1
  | step _ h2 ih => exact .step ih h2
theorem Come.least {g : Int → List Int} {R : List Int} {C : Int → Prop} (h1 : ∀ x, x ∈ R → C x) (h2 : ∀ x y, C x → y ∈ g x → C y) {x : Int} (hx : Come g R x) : C x := by
  induction hx with
  | root h => exact h1 _ h
  | step _ h ih => exact h2 _ _ ih h
theorem come_append {g : Int → List Int} {R S : List Int} {x : Int} : Come g (R ++ S) x ↔ Come g R x ∨ Come g S x := by
  constructor
  · intro h
    induction h with
    | root h1 =>
      rcases List.mem_append.1 h1 with h | h
      · exact .inl (.root h)
      · exact .inr (.root h)
    | step _ h2 ih =>
      rcases ih with h | h
      · exact .inl (.step h h2)
      · exact .inr (.step h h2)
  · rintro (h | h)
    · exact h.mono fun x hx => List.mem_append_left _ hx
    · exact h.mono fun x hx => List.mem_append_right _ hx
theorem come_one {g : Int → List Int} {r x : Int} : Come g [r] x ↔ x = r ∨ Come g (g r) x := by
  constructor
  · intro h
    induction h with
    | root h1 => exact .inl (by simpa using h1)
    | step _ h2 ih =>
      rcases ih with rfl | h
      · exact .inr (.root h2)
      · exact .inr (.step h h2)
  · rintro (rfl | h)
    · exact .root (by simp)
    · exact h.trans fun y hy => .step (.root (by simp)) hy
/-- What is not found yet is put behind. -/
def addNew (A : List Int) : List Int → List Int
  | [] => A
  | x :: r => addNew (if A.contains x then A else A ++ [x]) r
theorem addNew_mem {x : Int} : ∀ {A l : List Int}, x ∈ addNew A l ↔ x ∈ A ∨ x ∈ l
  | A, [] => by simp [addNew]
  | A, y :: r => by
    rw [addNew, addNew_mem]
    split
    · rename_i h
      have h := List.contains_iff_mem.1 h
      rw [List.mem_cons]
      constructor
      · rintro (h' | h')
        · exact .inl h'
        · exact .inr (.inr h')
      · rintro (h' | rfl | h')
        · exact .inl h'
        · exact .inl h
        · exact .inr h'
    · rw [List.mem_append, List.mem_singleton, List.mem_cons]
      exact or_assoc
theorem addNew_nodup : ∀ {A l : List Int}, A.Nodup → (addNew A l).Nodup
  | A, [], h => h
  | A, x :: r, h => by
    rw [addNew]
    split
    · exact addNew_nodup h
    · rename_i hx
      refine addNew_nodup (List.nodup_append.2 ⟨h, by simp, fun a ha b hb => ?_⟩)
      rw [List.mem_singleton] at hb
      rintro rfl
      subst hb
      exact hx (List.contains_iff_mem.2 ha)
theorem addNew_prefix : ∀ (A l : List Int), ∃ B, addNew A l = A ++ B
  | A, [] => ⟨[], by simp [addNew]⟩
  | A, x :: r => by
    rw [addNew]
    split
    · exact addNew_prefix A r
    · obtain ⟨B, hB⟩ := addNew_prefix (A ++ [x]) r
      exact ⟨x :: B, by rw [hB, List.append_assoc]; rfl⟩
theorem addNew_get {A l : List Int} {j : Nat} (h : j < A.length) : (addNew A l)[j]?.getD 0 = A[j]?.getD 0 := by
  obtain ⟨B, hB⟩ := addNew_prefix A l
  rw [hB, List.getElem?_append_left h]
theorem addNew_snoc : ∀ (A l : List Int) (x : Int), addNew A (l ++ [x]) = (if (addNew A l).contains x then addNew A l else addNew A l ++ [x])
  | A, [], x => by simp [addNew]
  | A, y :: r, x => by rw [List.cons_append, addNew, addNew, addNew_snoc]
/-- The nodes found so far; those of the first k have been looked at. -/
structure Found (g : Int → List Int) (R A : List Int) (k : Nat) : Prop where
  le : k ≤ A.length
  nodup : A.Nodup
  come : ∀ x, x ∈ A → Come g R x
  root : ∀ x, x ∈ R → x ∈ A
  seen : ∀ j, j < k → ∀ y, y ∈ g (A[j]?.getD 0) → y ∈ A
theorem found_start (g : Int → List Int) (R : List Int) : Found g R (addNew [] R) 0 :=
  ⟨Nat.zero_le _, addNew_nodup (by simp), fun x hx => .root (by have := addNew_mem.1 hx; simpa using this), fun x hx => addNew_mem.2 (.inr hx), fun j hj => by omega⟩
theorem found_step {g : Int → List Int} {R A : List Int} {k : Nat} (h : Found g R A k) (hk : k < A.length) : Found g R (addNew A (g (A[k]?.getD 0))) (k+1) := by
  obtain ⟨B, hB⟩ := addNew_prefix A (g (A[k]?.getD 0))
  have hA : A[k]?.getD 0 ∈ A := by rw [List.getElem?_eq_getElem hk]; exact List.getElem_mem _
  refine ⟨by rw [hB, List.length_append]; omega, addNew_nodup h.nodup, fun x hx => ?_, fun x hx => addNew_mem.2 (.inl (h.root x hx)), fun j hj y hy => ?_⟩
  · rcases addNew_mem.1 hx with h1 | h1
    · exact h.come x h1
    · exact .step (h.come _ hA) h1
  · rw [addNew_get (by omega)] at hy
    by_cases e : j = k
    · subst e; exact addNew_mem.2 (.inr hy)
    · exact addNew_mem.2 (.inl (h.seen j (by omega) y hy))
theorem found_all {g : Int → List Int} {R A : List Int} {k : Nat} (h : Found g R A k) (hk : ¬ k < A.length) (x : Int) : x ∈ A ↔ Come g R x := by
  refine ⟨h.come x, fun hx => Come.least (C := fun x => x ∈ A) h.root (fun u y hu hy => ?_) hx⟩
  obtain ⟨j, hj, rfl⟩ := List.getElem_of_mem hu
  refine h.seen j (by omega) y ?_
  rw [List.getElem?_eq_getElem hj]; exact hy
/-- As long as pointers are to nodes below n, no more than n are found. -/
theorem come_below {g : Int → List Int} {R : List Int} {n : Int} (hR : ∀ x, x ∈ R → 0 ≤ x ∧ x < n) (hg : ∀ x, 0 ≤ x ∧ x < n → ∀ y, y ∈ g x → 0 ≤ y ∧ y < n) {x : Int} (h : Come g R x) : 0 ≤ x ∧ x < n :=
  Come.least (C := fun x => 0 ≤ x ∧ x < n) hR (fun x y hx hy => hg x hx y hy) h
theorem below_length {A : List Int} {n : Nat} (hn : A.Nodup) (h : ∀ x, x ∈ A → 0 ≤ x ∧ x < n) : A.length ≤ n := by
  have := length_le_of_subset (B := (List.range n).map fun i : Nat => (i : Int)) hn fun p hp => by
    have := h p hp
    exact List.mem_map.2 ⟨p.toNat, by rw [List.mem_range]; omega, by omega⟩
  simpa using this

/-- A node that can be come to from itself along one pointer or more. -/
def Ring (g : Int → List Int) (x : Int) : Prop := Come g (g x) x
/-- Where it comes from is in a ring, too. -/
theorem Ring.from {g : Int → List Int} {x : Int} (h : Ring g x) : ∃ y, Ring g y ∧ x ∈ g y ∧ (y = x ∨ Come g (g x) y) := by
  unfold Ring at h
  have key : ∀ z, Come g (g x) z → ∃ y, (y = x ∨ Come g (g x) y) ∧ z ∈ g y := fun z hz => by
    cases hz with
    | root h1 => exact ⟨x, .inl rfl, h1⟩
    | step h1 h2 => exact ⟨_, .inr h1, h2⟩
  obtain ⟨y, hy, hx⟩ := key x h
  refine ⟨y, ?_, hx, hy⟩
  rcases hy with rfl | hy
  · exact h
  · have h1 : Come g [x] y := come_one.2 (.inr hy)
    exact h1.trans fun z hz => by
      rw [List.mem_singleton] at hz
      subst hz
      exact .root hx
/-- The nodes ahead of a node, each pointed to by the next. -/
theorem chain {g : Int → List Int} {f : Int → Int} {S : List Int} (hf : ∀ x, x ∈ S → f x ∈ S ∧ x ∈ g (f x)) : ∀ (d : Nat) (a : Nat) {x : Int}, x ∈ S → Come g (g (Nat.rec x (fun _ y => f y) (a + d + 1))) (Nat.rec x (fun _ y => f y) a)
  | 0, a, x, hx => by
    have : ∀ n, (Nat.rec x (fun _ y => f y) n : Int) ∈ S := fun n => by
      induction n with
      | zero => exact hx
      | succ n ih => exact (hf _ ih).1
    exact .root (hf _ (this a)).2
  | d + 1, a, x, hx => by
    have hS : ∀ n, (Nat.rec x (fun _ y => f y) n : Int) ∈ S := fun n => by
      induction n with
      | zero => exact hx
      | succ n ih => exact (hf _ ih).1
    have ih := chain hf d a hx
    refine Come.trans (fun z hz => ?_) ih
    have h1 : (Nat.rec x (fun _ y => f y) (a + d + 1) : Int) ∈ g (Nat.rec x (fun _ y => f y) (a + (d + 1) + 1)) := (hf _ (hS (a + d + 1))).2
    exact .step (.root h1) hz
/-- Where each node of some is pointed to by one of them, one is in a ring. -/
theorem ring_of {g : Int → List Int} {S : List Int} (h0 : S ≠ []) (h : ∀ x, x ∈ S → ∃ y, y ∈ S ∧ x ∈ g y) : ∃ x, x ∈ S ∧ Ring g x := by
  have ⟨f, hf⟩ : ∃ f : Int → Int, ∀ x, x ∈ S → f x ∈ S ∧ x ∈ g (f x) :=
    ⟨fun x => if hx : x ∈ S then Classical.choose (h x hx) else 0, fun x hx => by simp only [dif_pos hx]; exact Classical.choose_spec (h x hx)⟩
  obtain ⟨x, hx⟩ := List.exists_mem_of_ne_nil S h0
  have hS : ∀ n, (Nat.rec x (fun _ y => f y) n : Int) ∈ S := fun n => by
    induction n with
    | zero => exact hx
    | succ n ih => exact (hf _ ih).1
  let c : Nat → Int := fun n => Nat.rec x (fun _ y => f y) n
  have hn : ¬ ((List.range (S.length + 1)).map c).Nodup := fun hn => by
    have := length_le_of_subset hn fun p hp => by
      obtain ⟨n, _, rfl⟩ := List.mem_map.1 hp
      exact hS n
    rw [List.length_map, List.length_range] at this
    omega
  have ⟨a, b, hab, e⟩ : ∃ a b, a < b ∧ c a = c b := by
    refine Classical.byContradiction fun hno => hn ?_
    unfold List.Nodup
    rw [List.pairwise_map]
    refine List.Pairwise.imp ?_ List.pairwise_lt_range
    intro a b hab e
    exact hno ⟨a, b, hab, e⟩
  refine ⟨c a, hS a, ?_⟩
  have := chain hf (b - a - 1) a hx
  rw [show a + (b - a - 1) + 1 = b by omega] at this
  show Come g (g (c a)) (c a)
  rw [e]
  have h2 : Come g (g (c b)) (c a) := this
  rw [e] at h2
  exact h2
end Go.Proofs.Ytmibnceadciidaa
