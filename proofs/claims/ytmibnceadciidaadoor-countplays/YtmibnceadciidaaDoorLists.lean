/- Lists and numbers alone: several texts in one. -/
import Derived.Test.YtmibnceadciidaaDoorSched
/- Lists alone, for chapter 17: what can be come to; breadth first; rings; taking away what is not pointed to. g gives the pointers of a node. -/
namespace Go.Proofs.YtmibnceadciidaaDoor

/-- What can be come to from some nodes. -/
inductive Come (g : Int → List Int) (R : List Int) : Int → Prop
  | root {x : Int} : x ∈ R → Come g R x
  | step {x y : Int} : Come g R x → y ∈ g x → Come g R y
theorem Come.mono {g : Int → List Int} {R S : List Int} (h : ∀ x, x ∈ R → x ∈ S) {x : Int} (hx : Come g R x) : Come g S x := by
  induction hx with
  | root h1 => exact .root (h _ h1)
  | step _ h2 ih => exact .step ih h2
theorem Come.trans {g : Int → List Int} {R S : List Int} (h : ∀ x, x ∈ S → Come g R x) {x : Int} (hx : Come g S x) : Come g R x := by
  induction hx with
  | root h1 => exact h _ h1
  | step _ h2 ih => exact .step ih h2
theorem Come.least {g : Int → List Int} {R : List Int} {C : Int → Prop} (h1 : ∀ x, x ∈ R → C x) (h2 : ∀ x y, C x → y ∈ g x → C y) {x : Int} (hx : Come g R x) : C x := by
  induction hx with
  | root h => exact h1 _ h
  | step _ h ih => exact h2 _ _ ih h
theorem come_append {g : Int → List Int} {R S : List Int} {x : Int} : Come g (R ++ S) x ↔ Come g R x ∨ Come g S x := by
  constructor
  · intro h
    induction h with
    | root h1 =>
      rcases List.mem_append.1 h1 with h | h
      · exact .inl (.root h)
      · exact .inr (.root h)
    | step _ h2 ih =>
      rcases ih with h | h
      · exact .inl (.step h h2)
      · exact .inr (.step h h2)
  · rintro (h | h)
    · exact h.mono fun x hx => List.mem_append_left _ hx
    · exact h.mono fun x hx => List.mem_append_right _ hx
theorem come_one {g : Int → List Int} {r x : Int} : Come g [r] x ↔ x = r ∨ Come g (g r) x := by
  constructor
  · intro h
    induction h with
    | root h1 => exact .inl (by simpa using h1)
    | step _ h2 ih =>
      rcases ih with rfl | h
      · exact .inr (.root h2)
      · exact .inr (.step h h2)
  · rintro (rfl | h)
    · exact .root (by simp)
    · exact h.trans fun y hy => .step (.root (by simp)) hy
/-- What is not found yet is put behind. -/
def addNew (A : List Int) : List Int → List Int
  | [] => A
  | x :: r => addNew (if A.contains x then A else A ++ [x]) r
theorem addNew_mem {x : Int} : ∀ {A l : List Int}, x ∈ addNew A l ↔ x ∈ A ∨ x ∈ l
  | A, [] => by simp [addNew]
  | A, y :: r => by
    rw [addNew, addNew_mem]
    split
    · rename_i h
      have h := List.contains_iff_mem.1 h
      rw [List.mem_cons]
      constructor
      · rintro (h' | h')
        · exact .inl h'
        · exact .inr (.inr h')
      · rintro (h' | rfl | h')
        · exact .inl h'
        · exact .inl h
        · exact .inr h'
    · rw [List.mem_append, List.mem_singleton, List.mem_cons]
      exact or_assoc
theorem addNew_nodup : ∀ {A l : List Int}, A.Nodup → (addNew A l).Nodup
  | A, [], h => h
  | A, x :: r, h => by
    rw [addNew]
    split
    · exact addNew_nodup h
    · rename_i hx
      refine addNew_nodup (List.nodup_append.2 ⟨h, by simp, fun a ha b hb => ?_⟩)
      rw [List.mem_singleton] at hb
      rintro rfl
      subst hb
      exact hx (List.contains_iff_mem.2 ha)
theorem addNew_prefix : ∀ (A l : List Int), ∃ B, addNew A l = A ++ B
  | A, [] => ⟨[], by simp [addNew]⟩
  | A, x :: r => by
    rw [addNew]
    split
    · exact addNew_prefix A r
    · obtain ⟨B, hB⟩ := addNew_prefix (A ++ [x]) r
      exact ⟨x :: B, by rw [hB, List.append_assoc]; rfl⟩
theorem addNew_get {A l : List Int} {j : Nat} (h : j < A.length) : (addNew A l)[j]?.getD 0 = A[j]?.getD 0 := by
  obtain ⟨B, hB⟩ := addNew_prefix A l
  rw [hB, List.getElem?_append_left h]
theorem addNew_snoc : ∀ (A l : List Int) (x : Int), addNew A (l ++ [x]) = (if (addNew A l).contains x then addNew A l else addNew A l ++ [x])
  | A, [], x => by simp [addNew]
  | A, y :: r, x => by rw [List.cons_append, addNew, addNew, addNew_snoc]
/-- The nodes found so far; those of the first k have been looked at. -/
structure Found (g : Int → List Int) (R A : List Int) (k : Nat) : Prop where
  le : k ≤ A.length
  nodup : A.Nodup
  come : ∀ x, x ∈ A → Come g R x
  root : ∀ x, x ∈ R → x ∈ A
  seen : ∀ j, j < k → ∀ y, y ∈ g (A[j]?.getD 0) → y ∈ A
theorem found_start (g : Int → List Int) (R : List Int) : Found g R (addNew [] R) 0 :=
  ⟨Nat.zero_le _, addNew_nodup (by simp), fun x hx => .root (by have := addNew_mem.1 hx; simpa using this), fun x hx => addNew_mem.2 (.inr hx), fun j hj => by omega⟩
theorem found_step {g : Int → List Int} {R A : List Int} {k : Nat} (h : Found g R A k) (hk : k < A.length) : Found g R (addNew A (g (A[k]?.getD 0))) (k+1) := by
  obtain ⟨B, hB⟩ := addNew_prefix A (g (A[k]?.getD 0))
  have hA : A[k]?.getD 0 ∈ A := by rw [List.getElem?_eq_getElem hk]; exact List.getElem_mem _
  refine ⟨by rw [hB, List.length_append]; omega, addNew_nodup h.nodup, fun x hx => ?_, fun x hx => addNew_mem.2 (.inl (h.root x hx)), fun j hj y hy => ?_⟩
  · rcases addNew_mem.1 hx with h1 | h1
    · exact h.come x h1
    · exact .step (h.come _ hA) h1
  · rw [addNew_get (by omega)] at hy
    by_cases e : j = k
    · subst e; exact addNew_mem.2 (.inr hy)
    · exact addNew_mem.2 (.inl (h.seen j (by omega) y hy))
theorem found_all {g : Int → List Int} {R A : List Int} {k : Nat} (h : Found g R A k) (hk : ¬ k < A.length) (x : Int) : x ∈ A ↔ Come g R x := by
  refine ⟨h.come x, fun hx => Come.least (C := fun x => x ∈ A) h.root (fun u y hu hy => ?_) hx⟩
  obtain ⟨j, hj, rfl⟩ := List.getElem_of_mem hu
  refine h.seen j (by omega) y ?_
  rw [List.getElem?_eq_getElem hj]; exact hy
/-- As long as pointers are to nodes below n, no more than n are found. -/
theorem come_below {g : Int → List Int} {R : List Int} {n : Int} (hR : ∀ x, x ∈ R → 0 ≤ x ∧ x < n) (hg : ∀ x, 0 ≤ x ∧ x < n → ∀ y, y ∈ g x → 0 ≤ y ∧ y < n) {x : Int} (h : Come g R x) : 0 ≤ x ∧ x < n :=
  Come.least (C := fun x => 0 ≤ x ∧ x < n) hR (fun x y hx hy => hg x hx y hy) h
theorem below_length {A : List Int} {n : Nat} (hn : A.Nodup) (h : ∀ x, x ∈ A → 0 ≤ x ∧ x < n) : A.length ≤ n := by
  have := length_le_of_subset (B := (List.range n).map fun i : Nat => (i : Int)) hn fun p hp => by
    have := h p hp
    exact List.mem_map.2 ⟨p.toNat, by rw [List.mem_range]; omega, by omega⟩
  simpa using this

/-- A node that can be come to from itself along one pointer or more. -/
def Ring (g : Int → List Int) (x : Int) : Prop := Come g (g x) x
/-- Where it comes from is in a ring, too. -/
theorem Ring.from {g : Int → List Int} {x : Int} (h : Ring g x) : ∃ y, Ring g y ∧ x ∈ g y ∧ (y = x ∨ Come g (g x) y) := by
  unfold Ring at h
  have key : ∀ z, Come g (g x) z → ∃ y, (y = x ∨ Come g (g x) y) ∧ z ∈ g y := fun z hz => by
    cases hz with
    | root h1 => exact ⟨x, .inl rfl, h1⟩
    | step h1 h2 => exact ⟨_, .inr h1, h2⟩
  obtain ⟨y, hy, hx⟩ := key x h
  refine ⟨y, ?_, hx, hy⟩
  rcases hy with rfl | hy
  · exact h
  · have h1 : Come g [x] y := come_one.2 (.inr hy)
    exact h1.trans fun z hz => by
      rw [List.mem_singleton] at hz
      subst hz
      exact .root hx
/-- The nodes ahead of a node, each pointed to by the next. -/
theorem chain {g : Int → List Int} {f : Int → Int} {S : List Int} (hf : ∀ x, x ∈ S → f x ∈ S ∧ x ∈ g (f x)) : ∀ (d : Nat) (a : Nat) {x : Int}, x ∈ S → Come g (g (Nat.rec x (fun _ y => f y) (a + d + 1))) (Nat.rec x (fun _ y => f y) a)
  | 0, a, x, hx => by
    have : ∀ n, (Nat.rec x (fun _ y => f y) n : Int) ∈ S := fun n => by
      induction n with
      | zero => exact hx
      | succ n ih => exact (hf _ ih).1
    exact .root (hf _ (this a)).2
  | d + 1, a, x, hx => by
    have hS : ∀ n, (Nat.rec x (fun _ y => f y) n : Int) ∈ S := fun n => by
      induction n with
      | zero => exact hx
      | succ n ih => exact (hf _ ih).1
    have ih := chain hf d a hx
    refine Come.trans (fun z hz => ?_) ih
    have h1 : (Nat.rec x (fun _ y => f y) (a + d + 1) : Int) ∈ g (Nat.rec x (fun _ y => f y) (a + (d + 1) + 1)) := (hf _ (hS (a + d + 1))).2
    exact .step (.root h1) hz
/-- Where each node of some is pointed to by one of them, one is in a ring. -/
theorem ring_of {g : Int → List Int} {S : List Int} (h0 : S ≠ []) (h : ∀ x, x ∈ S → ∃ y, y ∈ S ∧ x ∈ g y) : ∃ x, x ∈ S ∧ Ring g x := by
  have ⟨f, hf⟩ : ∃ f : Int → Int, ∀ x, x ∈ S → f x ∈ S ∧ x ∈ g (f x) :=
    ⟨fun x => if hx : x ∈ S then Classical.choose (h x hx) else 0, fun x hx => by simp only [dif_pos hx]; exact Classical.choose_spec (h x hx)⟩
  obtain ⟨x, hx⟩ := List.exists_mem_of_ne_nil S h0
  have hS : ∀ n, (Nat.rec x (fun _ y => f y) n : Int) ∈ S := fun n => by
    induction n with
    | zero => exact hx
    | succ n ih => exact (hf _ ih).1
  let c : Nat → Int := fun n => Nat.rec x (fun _ y => f y) n
  have hn : ¬ ((List.range (S.length + 1)).map c).Nodup := fun hn => by
    have := length_le_of_subset hn fun p hp => by
      obtain ⟨n, _, rfl⟩ := List.mem_map.1 hp
      exact hS n
    rw [List.length_map, List.length_range] at this
    omega
  have ⟨a, b, hab, e⟩ : ∃ a b, a < b ∧ c a = c b := by
    refine Classical.byContradiction fun hno => hn ?_
    unfold List.Nodup
    rw [List.pairwise_map]
    refine List.Pairwise.imp ?_ List.pairwise_lt_range
    intro a b hab e
    exact hno ⟨a, b, hab, e⟩
  refine ⟨c a, hS a, ?_⟩
  have := chain hf (b - a - 1) a hx
  rw [show a + (b - a - 1) + 1 = b by omega] at this
  show Come g (g (c a)) (c a)
  rw [e]
  have h2 : Come g (g (c b)) (c a) := this
  rw [e] at h2
  exact h2
end Go.Proofs.YtmibnceadciidaaDoor

/- Lists alone, for chapter 17: nodes are taken away one by one, each pointed to by none that is left. -/
namespace Go.Proofs.YtmibnceadciidaaDoor

def pointed (g : Int → List Int) (left : List Int) (i : Int) : Bool := !left.contains i || left.any fun k => (g k).contains i
def visit (g : Int → List Int) (left : List Int) (i : Int) : List Int := if pointed g left i then left else left.erase i
def pass (g : Int → List Int) : List Int → List Int → List Int
  | left, [] => left
  | left, i :: r => pass g (visit g left i) r
def passes (g : Int → List Int) (nodes : List Int) : Nat → List Int
  | 0 => nodes
  | n + 1 => pass g (passes g nodes n) nodes
theorem pass_snoc (g : Int → List Int) : ∀ (left l : List Int) (i : Int), pass g left (l ++ [i]) = visit g (pass g left l) i
  | _, [], _ => rfl
  | left, x :: r, i => by rw [List.cons_append, pass, pass, pass_snoc]
theorem pointed_iff {g : Int → List Int} {left : List Int} {i : Int} : pointed g left i = true ↔ i ∉ left ∨ ∃ k, k ∈ left ∧ i ∈ g k := by
  unfold pointed
  rw [Bool.or_eq_true, Bool.not_eq_true', ← Bool.not_eq_true, List.contains_iff_mem, List.any_eq_true]
  constructor
  · rintro (h | ⟨k, hk, h⟩)
    · exact .inl h
    · exact .inr ⟨k, hk, List.contains_iff_mem.1 h⟩
  · rintro (h | ⟨k, hk, h⟩)
    · exact .inl h
    · exact .inr ⟨k, hk, List.contains_iff_mem.2 h⟩
theorem visit_sub {g : Int → List Int} {left : List Int} {i x : Int} (h : x ∈ visit g left i) : x ∈ left := by
  unfold visit at h
  split at h
  · exact h
  · exact List.mem_of_mem_erase h
theorem visit_nodup {g : Int → List Int} {left : List Int} {i : Int} (h : left.Nodup) : (visit g left i).Nodup := by
  unfold visit
  split
  · exact h
  · exact h.erase _
theorem pass_sub {g : Int → List Int} {x : Int} : ∀ {l left : List Int}, x ∈ pass g left l → x ∈ left
  | [], _, h => h
  | _ :: r, _, h => visit_sub (pass_sub (l := r) h)
theorem pass_nodup {g : Int → List Int} : ∀ {l left : List Int}, left.Nodup → (pass g left l).Nodup
  | [], _, h => h
  | _ :: r, _, h => pass_nodup (l := r) (visit_nodup h)
/-- What is in a ring stays. -/
theorem visit_ring {g : Int → List Int} {left : List Int} {i : Int} (h : ∀ x, Ring g x → x ∈ left) : ∀ x, Ring g x → x ∈ visit g left i := fun x hx => by
  unfold visit
  split
  · exact h x hx
  · rename_i hp
    by_cases e : x = i
    · subst e
      obtain ⟨y, hy, hxy, _⟩ := hx.from
      exact absurd (pointed_iff.2 (.inr ⟨y, h y hy, hxy⟩)) hp
    · rw [List.mem_erase_of_ne e]; exact h x hx
theorem pass_ring {g : Int → List Int} : ∀ {l left : List Int}, (∀ x, Ring g x → x ∈ left) → ∀ x, Ring g x → x ∈ pass g left l
  | [], _, h => h
  | _ :: r, _, h => pass_ring (l := r) (visit_ring h)
theorem passes_ring {g : Int → List Int} {nodes : List Int} (h : ∀ x, Ring g x → x ∈ nodes) : ∀ n x, Ring g x → x ∈ passes g nodes n
  | 0 => h
  | n + 1 => pass_ring (passes_ring h n)
/-- What none of those left points to goes. -/
theorem pass_gone {g : Int → List Int} {x : Int} : ∀ {l left : List Int}, left.Nodup → x ∈ l → (∀ k, k ∈ left → x ∉ g k) → x ∉ pass g left l
  | [], _, _, h, _ => by simp at h
  | i :: r, left, hn, h, hp => by
    rw [pass]
    by_cases e : x = i
    · subst e
      intro hm
      have hm := pass_sub hm
      unfold visit at hm
      split at hm
      · rename_i h1
        rcases pointed_iff.1 h1 with h2 | ⟨k, hk, h2⟩
        · exact h2 hm
        · exact hp k hk h2
      · exact hn.not_mem_erase hm
    · have hr : x ∈ r := by
        rcases List.mem_cons.1 h with h | h
        · exact absurd h e
        · exact h
      exact pass_gone (visit_nodup hn) hr fun k hk => hp k (visit_sub hk)
theorem pass_less {g : Int → List Int} {nodes left : List Int} (hn : left.Nodup) (hs : ∀ x, x ∈ left → x ∈ nodes) (hr : ∀ x, ¬ Ring g x) (h0 : left ≠ []) : (pass g left nodes).length < left.length := by
  have ⟨x, hx, hxp⟩ : ∃ x, x ∈ left ∧ ∀ k, k ∈ left → x ∉ g k := by
    refine Classical.byContradiction fun hno => ?_
    obtain ⟨x, _, hx⟩ := ring_of (g := g) h0 fun x hx => Classical.byContradiction fun h => hno ⟨x, hx, fun k hk hg => h ⟨k, hk, hg⟩⟩
    exact hr x hx
  have hg := pass_gone hn (hs x hx) hxp
  have := length_le_of_subset (B := left.erase x) (pass_nodup (g := g) (l := nodes) hn) fun p hp => by
    have hne : p ≠ x := fun e => hg (e ▸ hp)
    rw [List.mem_erase_of_ne hne]
    exact pass_sub hp
  rw [List.length_erase_of_mem hx] at this
  have := List.length_pos_of_mem hx
  omega
theorem passes_nodup {g : Int → List Int} {nodes : List Int} (hn : nodes.Nodup) : ∀ n, (passes g nodes n).Nodup
  | 0 => hn
  | n + 1 => pass_nodup (passes_nodup hn n)
theorem passes_sub {g : Int → List Int} {nodes : List Int} : ∀ n x, x ∈ passes g nodes n → x ∈ nodes
  | 0, _, h => h
  | n + 1, x, h => passes_sub n x (pass_sub h)
theorem passes_less {g : Int → List Int} {nodes : List Int} (hn : nodes.Nodup) (hr : ∀ x, ¬ Ring g x) : ∀ n, (passes g nodes n).length ≤ nodes.length - n
  | 0 => by simp [passes]
  | n + 1 => by
    have ih := passes_less hn hr n
    by_cases h0 : passes g nodes n = []
    · have : passes g nodes (n+1) = [] := by
        refine List.eq_nil_iff_forall_not_mem.2 fun x hx => ?_
        have := pass_sub (g := g) (l := nodes) hx
        rw [h0] at this; simp at this
      rw [this]; simp
    · have := pass_less (passes_nodup hn n) (passes_sub n) hr h0
      rw [passes]; omega
/-- Where nothing comes to itself all has an order; and where something does it has none. -/
theorem sorts {g : Int → List Int} {nodes : List Int} (hn : nodes.Nodup) (hR : ∀ x, Ring g x → x ∈ nodes) : (∀ x, ¬ Ring g x) ↔ passes g nodes nodes.length = [] := by
  constructor
  · intro hr
    have := passes_less hn hr nodes.length
    exact List.eq_nil_of_length_eq_zero (by omega)
  · intro h x hx
    have := passes_ring hR nodes.length x hx
    rw [h] at this; simp at this
theorem ring_node {g : Int → List Int} {nodes : List Int} (h : ∀ x, x ∉ nodes → g x = []) {x : Int} (hx : Ring g x) : x ∈ nodes := by
  refine Classical.byContradiction fun hn => ?_
  have e := h x hn
  unfold Ring at hx
  rw [e] at hx
  exact Come.least (C := fun _ => False) (fun y hy => by simp at hy) (fun _ _ h _ => h) hx
end Go.Proofs.YtmibnceadciidaaDoor

/- Lists alone, for chapter 20: nodes that nothing points to are gone, and those that only they pointed to; whatever the order. -/
namespace Go.Proofs.YtmibnceadciidaaDoor

structure CSt where
  outs : Int → List Int
  roots : List Int
  here : Int → Prop
/-- Roots and pointers are to nodes that are here, and from such. -/
def CSt.Good (c : CSt) : Prop := (∀ x, x ∈ c.roots → c.here x) ∧ ∀ x y, y ∈ c.outs x → c.here x ∧ c.here y
/-- Nothing points to a node. -/
def CSt.Unp (c : CSt) (x : Int) : Prop := x ∉ c.roots ∧ ∀ y, x ∉ c.outs y
def CSt.Settled (c : CSt) : Prop := ∀ x, c.here x → ¬ c.Unp x
def CSt.rem (c : CSt) (x : Int) : CSt := ⟨fun y => if y = x then [] else c.outs y, c.roots, fun y => c.here y ∧ y ≠ x⟩
inductive Rems : CSt → CSt → Prop
  | refl {c : CSt} : Rems c c
  | step {c a : CSt} {x : Int} : Rems c a → a.here x → a.Unp x → Rems c (a.rem x)
/-- Nodes each of which a root points to, or one of them. -/
def CSt.Held (c : CSt) (S : Int → Prop) : Prop := ∀ x, S x → c.here x ∧ (x ∈ c.roots ∨ ∃ y, S y ∧ x ∈ c.outs y)
theorem rem_good {c : CSt} {x : Int} (h : c.Good) (hu : c.Unp x) : (c.rem x).Good := by
  refine ⟨fun y hy => ⟨h.1 y hy, fun e => hu.1 (e ▸ hy)⟩, fun y z hz => ?_⟩
  unfold CSt.rem at hz
  simp only at hz
  split at hz
  · simp at hz
  · rename_i hne
    have := h.2 y z hz
    exact ⟨⟨this.1, hne⟩, this.2, fun e => hu.2 y (e ▸ hz)⟩
theorem rem_held {c : CSt} {x : Int} {S : Int → Prop} (h : c.Held S) (hu : c.Unp x) : (c.rem x).Held S := fun y hy => by
  have hne : ∀ z, S z → z ≠ x := fun z hz e => by
    subst e
    rcases (h z hz).2 with h1 | ⟨w, _, h1⟩
    · exact hu.1 h1
    · exact hu.2 w h1
  obtain ⟨h1, h2⟩ := h y hy
  refine ⟨⟨h1, hne y hy⟩, ?_⟩
  rcases h2 with h2 | ⟨z, hz, h2⟩
  · exact .inl h2
  · refine .inr ⟨z, hz, ?_⟩
    show y ∈ if z = x then [] else c.outs z
    rw [if_neg (hne z hz)]; exact h2
theorem Rems.good {c a : CSt} (h : Rems c a) (hc : c.Good) : a.Good := by
  induction h with
  | refl => exact hc
  | step _ _ hu ih => exact rem_good ih hu
theorem Rems.held {c a : CSt} (h : Rems c a) {S : Int → Prop} (hS : c.Held S) : a.Held S := by
  induction h with
  | refl => exact hS
  | step _ _ hu ih => exact rem_held ih hu
theorem Rems.roots {c a : CSt} (h : Rems c a) : a.roots = c.roots := by
  induction h with
  | refl => rfl
  | step _ _ _ ih => exact ih
theorem Rems.sub {c a : CSt} (h : Rems c a) {x : Int} (hx : a.here x) : c.here x := by
  induction h with
  | refl => exact hx
  | step _ _ _ ih => exact ih hx.1
theorem Rems.outs {c a : CSt} (h : Rems c a) {x : Int} : (a.here x → a.outs x = c.outs x) ∧ (¬ a.here x → c.here x → a.outs x = []) := by
  induction h with
  | refl => exact ⟨fun _ => rfl, fun h1 h2 => absurd h2 h1⟩
  | @step a y _ _ _ ih =>
    refine ⟨fun hx => ?_, fun hx hc => ?_⟩
    · show (if x = y then [] else a.outs x) = _
      rw [if_neg hx.2]; exact ih.1 hx.1
    · show (if x = y then [] else a.outs x) = []
      by_cases e : x = y
      · rw [if_pos e]
      · rw [if_neg e]
        exact ih.2 (fun h => hx ⟨h, e⟩) hc
theorem good_none {c : CSt} (h : c.Good) {x : Int} (hx : ¬ c.here x) : c.outs x = [] :=
  List.eq_nil_iff_forall_not_mem.2 fun y hy => hx (h.2 x y hy).1
theorem settled_held {c : CSt} (h : c.Good) (hs : c.Settled) : c.Held c.here := fun x hx => by
  refine ⟨hx, Classical.byContradiction fun hn => hs x hx ⟨fun h1 => hn (.inl h1), fun y hy => hn (.inr ⟨y, (h.2 y x hy).1, hy⟩)⟩⟩
/-- However nodes go, the same are left. -/
theorem rems_unique {c a b : CSt} (hc : c.Good) (ha : Rems c a) (hb : Rems c b) (sa : a.Settled) (sb : b.Settled) : a = b := by
  have key : ∀ {u v : CSt}, Rems c u → Rems c v → u.Settled → ∀ x, u.here x → v.here x := fun {u v} hu hv su x hx => by
    have h1 : u.Held u.here := settled_held (hu.good hc) su
    have h2 : c.Held u.here := fun y hy => by
      obtain ⟨_, h3⟩ := h1 y hy
      refine ⟨hu.sub hy, ?_⟩
      rcases h3 with h3 | ⟨z, hz, h3⟩
      · exact .inl (hu.roots ▸ h3)
      · exact .inr ⟨z, hz, by rw [← hu.outs.1 hz]; exact h3⟩
    exact (hv.held h2 x hx).1
  have hh : a.here = b.here := funext fun x => propext ⟨key ha hb sa x, key hb ha sb x⟩
  have ho : a.outs = b.outs := funext fun x => by
    by_cases hx : a.here x
    · rw [ha.outs.1 hx, hb.outs.1 (hh ▸ hx)]
    · rw [good_none (ha.good hc) hx, good_none (hb.good hc) (hh ▸ hx)]
  have hr : a.roots = b.roots := by rw [ha.roots, hb.roots]
  cases a; cases b
  simp only at hh ho hr
  subst hh ho hr
  rfl
theorem Rems.trans {a b c : CSt} (h1 : Rems a b) (h2 : Rems b c) : Rems a c := by
  induction h2 with
  | refl => exact h1
  | step _ hx hu ih => exact .step ih hx hu

open Classical in
/-- One look at a node. -/
noncomputable def CSt.visit (c : CSt) (i : Int) : CSt := if c.here i ∧ c.Unp i then c.rem i else c
noncomputable def CSt.pass (c : CSt) : List Int → CSt
  | [] => c
  | i :: r => (c.visit i).pass r
noncomputable def CSt.passes (c : CSt) (nodes : List Int) : Nat → CSt
  | 0 => c
  | n + 1 => (c.passes nodes n).pass nodes
theorem visit_rems (c : CSt) (i : Int) : Rems c (c.visit i) := by
  unfold CSt.visit
  split
  · rename_i h; exact .step .refl h.1 h.2
  · exact .refl
theorem passC_rems : ∀ (l : List Int) (c : CSt), Rems c (c.pass l)
  | [], _ => .refl
  | i :: r, c => (visit_rems c i).trans (passC_rems r (c.visit i))
theorem passesC_rems (c : CSt) (nodes : List Int) : ∀ n, Rems c (c.passes nodes n)
  | 0 => .refl
  | n + 1 => (passesC_rems c nodes n).trans (passC_rems nodes _)
open Classical in
/-- How many of the nodes are here. -/
noncomputable def CSt.many (c : CSt) (nodes : List Int) : Nat := (nodes.filter fun x => decide (c.here x)).length
theorem many_sub {a b : CSt} {nodes : List Int} (hn : nodes.Nodup) (h : ∀ x, b.here x → a.here x) : b.many nodes ≤ a.many nodes := by
  unfold CSt.many
  refine length_le_of_subset (hn.filter _) fun p hp => ?_
  rw [List.mem_filter] at hp ⊢
  exact ⟨hp.1, by simpa using h p (by simpa using hp.2)⟩
theorem many_less {a b : CSt} {nodes : List Int} (hn : nodes.Nodup) (h : ∀ x, b.here x → a.here x) {i : Int} (hi : i ∈ nodes) (h1 : a.here i) (h2 : ¬ b.here i) : b.many nodes + 1 ≤ a.many nodes := by
  unfold CSt.many
  classical
  have hm : i ∈ nodes.filter fun x => decide (a.here x) := List.mem_filter.2 ⟨hi, by simpa using h1⟩
  have := length_le_of_subset (B := (nodes.filter fun x => decide (a.here x)).erase i) (hn.filter fun x => decide (b.here x)) fun p hp => by
    rw [List.mem_filter] at hp
    have hb : b.here p := by simpa using hp.2
    have hne : p ≠ i := fun e => h2 (e ▸ hb)
    rw [List.mem_erase_of_ne hne]
    exact List.mem_filter.2 ⟨hp.1, by simpa using h p hb⟩
  rw [List.length_erase_of_mem hm] at this
  have := List.length_pos_of_mem hm
  omega
/-- A pass takes something away, or there is nothing to take. -/
theorem passC_less {nodes : List Int} (hn : nodes.Nodup) : ∀ (l : List Int) (c : CSt), (∀ x, x ∈ l → x ∈ nodes) → (c.pass l = c ∧ ∀ i, i ∈ l → ¬ (c.here i ∧ c.Unp i)) ∨ (c.pass l).many nodes + 1 ≤ c.many nodes
  | [], c, _ => .inl ⟨rfl, fun i hi => by simp at hi⟩
  | i :: r, c, hl => by
    by_cases h : c.here i ∧ c.Unp i
    · right
      have e : c.visit i = c.rem i := by unfold CSt.visit; rw [if_pos h]
      rw [CSt.pass, e]
      have h1 := many_less (a := c) (b := c.rem i) hn (fun x hx => hx.1) (hl i (by simp)) h.1 (fun hx => hx.2 rfl)
      have h2 := many_sub (a := c.rem i) (b := (c.rem i).pass r) hn fun x hx => (passC_rems r (c.rem i)).sub hx
      omega
    · have e : c.visit i = c := by unfold CSt.visit; rw [if_neg h]
      rw [CSt.pass, e]
      rcases passC_less hn r c fun x hx => hl x (by simp [hx]) with ⟨h1, h2⟩ | h1
      · refine .inl ⟨h1, fun j hj => ?_⟩
        rcases List.mem_cons.1 hj with rfl | hj
        · exact h
        · exact h2 j hj
      · exact .inr h1
theorem passesC_less {nodes : List Int} (hn : nodes.Nodup) (c : CSt) (hc : ∀ x, c.here x → x ∈ nodes) : ∀ n, (c.passes nodes n).Settled ∨ (c.passes nodes n).many nodes + n ≤ c.many nodes
  | 0 => .inr (Nat.le_refl _)
  | n + 1 => by
    have hs : ∀ x, (c.passes nodes n).here x → x ∈ nodes := fun x hx => hc x ((passesC_rems c nodes n).sub hx)
    rcases passC_less hn nodes (c.passes nodes n) fun x hx => hx with ⟨h1, h2⟩ | h1
    · left
      rw [CSt.passes, h1]
      exact fun x hx hu => h2 x (hs x hx) ⟨hx, hu⟩
    · rcases passesC_less hn c hc n with h2 | h2
      · left
        have : (c.passes nodes n).pass nodes = c.passes nodes n := by
          rcases passC_less hn nodes (c.passes nodes n) fun x hx => hx with ⟨h3, _⟩ | h3
          · exact h3
          · exfalso
            have key : ∀ (l : List Int) (d : CSt), d.Settled → d.pass l = d := fun l => by
              induction l with
              | nil => exact fun d _ => rfl
              | cons i r ih =>
                intro d hd
                have e : d.visit i = d := by unfold CSt.visit; rw [if_neg fun h => hd i h.1 h.2]
                rw [CSt.pass, e]; exact ih d hd
            rw [key nodes _ h2] at h1
            omega
        rw [CSt.passes, this]; exact h2
      · right
        rw [CSt.passes]; omega
/-- More passes than nodes, and all is settled. -/
theorem passesC_settled {nodes : List Int} (hn : nodes.Nodup) (c : CSt) (hc : ∀ x, c.here x → x ∈ nodes) {n : Nat} (h : nodes.length < n) : (c.passes nodes n).Settled := by
  rcases passesC_less hn c hc n with h1 | h1
  · exact h1
  · exfalso
    have : c.many nodes ≤ nodes.length := by unfold CSt.many; exact List.length_filter_le _ _
    omega
/-- Collins: what can be come to is here. -/
theorem good_come {c : CSt} (h : c.Good) {x : Int} (hx : Come c.outs c.roots x) : c.here x := by
  induction hx with
  | root h1 => exact h.1 _ h1
  | step _ h2 _ => exact (h.2 _ _ h2).2
/-- Where there are no rings nothing else is. -/
theorem settled_come {c : CSt} (h : c.Good) (hs : c.Settled) {nodes : List Int} (hn : ∀ x, c.here x → x ∈ nodes) (hr : ∀ x, ¬ Ring c.outs x) {x : Int} (hx : c.here x) : Come c.outs c.roots x := by
  classical
  refine Classical.byContradiction fun hno => ?_
  have hm : x ∈ nodes.filter fun y => decide (c.here y ∧ ¬ Come c.outs c.roots y) := List.mem_filter.2 ⟨hn x hx, by simp [hx, hno]⟩
  obtain ⟨y, _, hy⟩ := ring_of (g := c.outs) (S := nodes.filter fun y => decide (c.here y ∧ ¬ Come c.outs c.roots y)) (fun e => by rw [e] at hm; simp at hm) fun y hy => by
    have hy := (List.mem_filter.1 hy).2
    have hy : c.here y ∧ ¬ Come c.outs c.roots y := by simpa using hy
    rcases (settled_held h hs y hy.1).2 with h1 | ⟨z, hz, h1⟩
    · exact absurd (.root h1) hy.2
    · refine ⟨z, List.mem_filter.2 ⟨hn z hz, ?_⟩, h1⟩
      have : ¬ Come c.outs c.roots z := fun hc => hy.2 (.step hc h1)
      simp [hz, this]
  exact hr y hy
/-- What is in a ring is held by rings alone. -/
theorem ring_held {c : CSt} (h : c.Good) : c.Held (Ring c.outs) := fun x hx => by
  obtain ⟨y, hy, hxy, _⟩ := hx.from
  exact ⟨(h.2 y x hxy).2, .inr ⟨y, hy, hxy⟩⟩
end Go.Proofs.YtmibnceadciidaaDoor

/- Lists alone, for chapters 18 and 19: a heap of some nodes, numbered anew. -/
namespace Go.Proofs.YtmibnceadciidaaDoor

/-- What a node points to; nothing, if it is none. -/
def gOf (outs : List (List Int)) (x : Int) : List Int := if 0 ≤ x then outs[x.toNat]?.getD [] else []
/-- The number of a node among some. -/
def plc (nodes : List Int) (x : Int) : Int := (nodes.idxOf x : Nat)
def anewO (outs : List (List Int)) (nodes : List Int) : List (List Int) := nodes.map fun k => (gOf outs k).map (plc nodes)
def upTo (m : Nat) : List Int := (List.range m).map fun i : Nat => (i : Int)
theorem upTo_length (m : Nat) : (upTo m).length = m := by simp [upTo]
theorem upTo_mem {m : Nat} {x : Int} : x ∈ upTo m ↔ 0 ≤ x ∧ x < m := by
  unfold upTo
  rw [List.mem_map]
  constructor
  · rintro ⟨i, hi, rfl⟩
    rw [List.mem_range] at hi
    omega
  · rintro ⟨h1, h2⟩
    exact ⟨x.toNat, by rw [List.mem_range]; omega, by omega⟩
theorem upTo_get {m i : Nat} (h : i < m) : (upTo m)[i]? = some (i : Int) := by
  unfold upTo
  rw [List.getElem?_map, List.getElem?_range h]; rfl
theorem upTo_nodup (m : Nat) : (upTo m).Nodup := by
  unfold upTo List.Nodup
  rw [List.pairwise_map]
  refine List.Pairwise.imp ?_ List.pairwise_lt_range
  intro a b hab e
  omega
theorem plc_lt {nodes : List Int} {x : Int} (h : x ∈ nodes) : 0 ≤ plc nodes x ∧ plc nodes x < nodes.length := by
  unfold plc
  have := List.idxOf_lt_length_iff.2 h
  omega
theorem plc_back {nodes : List Int} {x : Int} (h : x ∈ nodes) : nodes[(plc nodes x).toNat]? = some x := by
  unfold plc
  have := List.idxOf_lt_length_iff.2 h
  rw [Int.toNat_natCast, List.getElem?_eq_getElem this]
  simp
theorem plc_inj {nodes : List Int} {x y : Int} (hx : x ∈ nodes) (hy : y ∈ nodes) (h : plc nodes x = plc nodes y) : x = y := by
  have a := plc_back hx
  have b := plc_back hy
  rw [h, b] at a
  injection a with a
  exact a.symm
theorem plc_get {nodes : List Int} (hn : nodes.Nodup) {i : Nat} (hi : i < nodes.length) : plc nodes nodes[i] = (i : Int) := by
  unfold plc
  rw [hn.idxOf_getElem]
theorem plc_upTo {m : Nat} {x : Int} (h : x ∈ upTo m) : plc (upTo m) x = x := by
  have hx := upTo_mem.1 h
  have hb := plc_back h
  have hl := plc_lt h
  rw [upTo_length] at hl
  rw [upTo_get (by omega)] at hb
  have hb := Option.some.inj hb
  omega
theorem plc_self {nodes : List Int} (hn : nodes.Nodup) : nodes.map (plc nodes) = upTo nodes.length := by
  refine List.ext_getElem (by rw [List.length_map, upTo_length]) fun i h1 h2 => ?_
  rw [List.length_map] at h1
  rw [List.getElem_map, plc_get hn h1]
  have := upTo_get h1
  rw [List.getElem?_eq_getElem h2] at this
  injection this with this
  exact this.symm
/-- Nodes that point to each other alone. -/
structure Shut (outs : List (List Int)) (roots nodes : List Int) : Prop where
  nodup : nodes.Nodup
  root : ∀ x, x ∈ roots → x ∈ nodes
  outs : ∀ x, x ∈ nodes → ∀ y, y ∈ gOf outs x → y ∈ nodes
theorem anew_length (outs : List (List Int)) (nodes : List Int) : (anewO outs nodes).length = nodes.length := by simp [anewO]
theorem anew_g {outs : List (List Int)} {nodes : List Int} {x : Int} (hx : x ∈ nodes) : gOf (anewO outs nodes) (plc nodes x) = (gOf outs x).map (plc nodes) := by
  have h1 := plc_lt hx
  have h2 := plc_back hx
  rw [gOf, if_pos h1.1]
  unfold anewO
  rw [List.getElem?_map, h2]; rfl
theorem anew_out {outs : List (List Int)} {nodes : List Int} {x : Int} (hx : ¬ (0 ≤ x ∧ x < nodes.length)) : gOf (anewO outs nodes) x = [] := by
  unfold gOf
  split
  · rename_i h
    rw [List.getElem?_eq_none (by rw [anew_length]; omega)]; rfl
  · rfl
/-- What is come to in the one heap is come to, by its number, in the other. -/
theorem anew_come {outs : List (List Int)} {roots nodes : List Int} (h : Shut outs roots nodes) {x : Int} (hx : Come (gOf outs) roots x) : x ∈ nodes ∧ Come (gOf (anewO outs nodes)) (roots.map (plc nodes)) (plc nodes x) := by
  induction hx with
  | root h1 => exact ⟨h.root _ h1, .root (List.mem_map.2 ⟨_, h1, rfl⟩)⟩
  | step _ h2 ih =>
    refine ⟨h.outs _ ih.1 _ h2, .step ih.2 ?_⟩
    rw [anew_g ih.1]
    exact List.mem_map.2 ⟨_, h2, rfl⟩
/-- All of the new heap is come to, if the nodes are just those that were. -/
theorem anew_all {outs : List (List Int)} {roots nodes : List Int} (h : Shut outs roots nodes) (hc : ∀ x, x ∈ nodes → Come (gOf outs) roots x) {k : Int} : Come (gOf (anewO outs nodes)) (roots.map (plc nodes)) k ↔ k ∈ upTo nodes.length := by
  constructor
  · intro hk
    refine Come.least (C := fun k => k ∈ upTo nodes.length) (fun x hx => ?_) (fun x y hx hy => ?_) hk
    · obtain ⟨r, hr, rfl⟩ := List.mem_map.1 hx
      exact upTo_mem.2 (plc_lt (h.root r hr))
    · have hx := upTo_mem.1 hx
      have hi : x.toNat < nodes.length := by omega
      have hp := plc_get h.nodup hi
      rw [show ((x.toNat : Nat) : Int) = x by omega] at hp
      rw [← hp, anew_g (List.getElem_mem hi)] at hy
      obtain ⟨z, hz, rfl⟩ := List.mem_map.1 hy
      exact upTo_mem.2 (plc_lt (h.outs _ (List.getElem_mem hi) z hz))
  · intro hk
    have hk := upTo_mem.1 hk
    have hi : k.toNat < nodes.length := by omega
    have := (anew_come h (hc _ (List.getElem_mem hi))).2
    rw [plc_get h.nodup hi, show ((k.toNat : Nat) : Int) = k by omega] at this
    exact this
theorem anew_shut {outs : List (List Int)} {roots nodes : List Int} (h : Shut outs roots nodes) : Shut (anewO outs nodes) (roots.map (plc nodes)) (upTo nodes.length) := by
  refine ⟨upTo_nodup _, fun x hx => ?_, fun x hx y hy => ?_⟩
  · obtain ⟨r, hr, rfl⟩ := List.mem_map.1 hx
    exact upTo_mem.2 (plc_lt (h.root r hr))
  · have hx := upTo_mem.1 hx
    have hi : x.toNat < nodes.length := by omega
    have hp := plc_get h.nodup hi
    rw [show ((x.toNat : Nat) : Int) = x by omega] at hp
    rw [← hp, anew_g (List.getElem_mem hi)] at hy
    obtain ⟨z, hz, rfl⟩ := List.mem_map.1 hy
    exact upTo_mem.2 (plc_lt (h.outs _ (List.getElem_mem hi) z hz))
/-- Numbered anew by the numbers that they have, a heap is as it is. -/
theorem anew_same {outs : List (List Int)} {roots : List Int} (h : Shut outs roots (upTo outs.length)) : anewO outs (upTo outs.length) = outs ∧ roots.map (plc (upTo outs.length)) = roots := by
  constructor
  · refine List.ext_getElem (by rw [anew_length, upTo_length]) fun i h1 h2 => ?_
    have hi2 : i < (upTo outs.length).length := by rw [upTo_length]; exact h2
    have hget : (anewO outs (upTo outs.length))[i] = (gOf outs ((upTo outs.length)[i])).map (plc (upTo outs.length)) := List.getElem_map ..
    rw [hget]
    have hg : (upTo outs.length)[i]'(by rw [upTo_length]; exact h2) = (i : Int) := by
      have := upTo_get h2
      rw [List.getElem?_eq_getElem (by rw [upTo_length]; exact h2)] at this
      injection this
    rw [hg]
    have hgo : gOf outs (i : Int) = outs[i] := by
      rw [gOf, if_pos (by omega), Int.toNat_natCast, List.getElem?_eq_getElem h2]; rfl
    rw [hgo]
    have : ∀ y, y ∈ outs[i] → plc (upTo outs.length) y = y := fun y hy => plc_upTo (h.outs (i : Int) (upTo_mem.2 (by omega)) y (by rw [hgo]; exact hy))
    rw [List.map_congr_left this]
    exact List.map_id' _
  · rw [List.map_congr_left fun y hy => plc_upTo (h.root y hy)]
    exact List.map_id' _

/-- Breadth first: what was found when the first k have been looked at. -/
def bfsA (g : Int → List Int) (R : List Int) : Nat → List Int
  | 0 => addNew [] R
  | k + 1 => if k < (bfsA g R k).length then addNew (bfsA g R k) (g ((bfsA g R k)[k]?.getD 0)) else bfsA g R k
/-- All that is found, breadth first. -/
def IsFrom (g : Int → List Int) (R A : List Int) : Prop := ∃ k, (∀ j, j < k → j < (bfsA g R j).length) ∧ k = (bfsA g R k).length ∧ A = bfsA g R k
theorem bfs_found {g : Int → List Int} {R : List Int} : ∀ k, (∀ j, j < k → j < (bfsA g R j).length) → Found g R (bfsA g R k) k
  | 0, _ => found_start g R
  | k + 1, h => by
    have hk := h k (by omega)
    have ih := bfs_found k fun j hj => h j (by omega)
    rw [bfsA, if_pos hk]
    exact found_step ih hk
theorem IsFrom.det {g : Int → List Int} {R A B : List Int} (h1 : IsFrom g R A) (h2 : IsFrom g R B) : A = B := by
  obtain ⟨k, a1, a2, a3⟩ := h1
  obtain ⟨m, b1, b2, b3⟩ := h2
  have : k = m := by
    rcases Nat.lt_trichotomy k m with h | h | h
    · have := b1 k h; omega
    · exact h
    · have := a1 m h; omega
  subst this
  rw [a3, b3]
theorem IsFrom.mem {g : Int → List Int} {R A : List Int} (h : IsFrom g R A) : A.Nodup ∧ ∀ x, x ∈ A ↔ Come g R x := by
  obtain ⟨k, a1, a2, rfl⟩ := h
  have hf := bfs_found k a1
  exact ⟨hf.nodup, found_all hf (by omega)⟩
theorem addNew_map {f : Int → Int} : ∀ {l A : List Int}, (∀ x y, (x ∈ A ∨ x ∈ l) → (y ∈ A ∨ y ∈ l) → f x = f y → x = y) → addNew (A.map f) (l.map f) = (addNew A l).map f
  | [], A, _ => rfl
  | x :: r, A, h => by
    rw [List.map_cons, addNew, addNew]
    have hc : (A.map f).contains (f x) = A.contains x := by
      rw [Bool.eq_iff_iff, List.contains_iff_mem, List.contains_iff_mem]
      constructor
      · intro hm
        obtain ⟨y, hy, e⟩ := List.mem_map.1 hm
        rw [← h y x (.inl hy) (.inr (by simp)) e]; exact hy
      · exact fun hm => List.mem_map.2 ⟨x, hm, rfl⟩
    rw [hc]
    cases A.contains x
    · rw [if_neg (by simp), if_neg (by simp), show A.map f ++ [f x] = (A ++ [x]).map f by simp]
      refine addNew_map fun y z hy hz => h y z ?_ ?_
      · rcases hy with hy | hy
        · rcases List.mem_append.1 hy with hy | hy
          · exact .inl hy
          · exact .inr (by simp at hy; simp [hy])
        · exact .inr (by simp [hy])
      · rcases hz with hz | hz
        · rcases List.mem_append.1 hz with hz | hz
          · exact .inl hz
          · exact .inr (by simp at hz; simp [hz])
        · exact .inr (by simp [hz])
    · rw [if_pos rfl, if_pos rfl]
      refine addNew_map fun y z hy hz => h y z ?_ ?_
      · rcases hy with hy | hy
        · exact .inl hy
        · exact .inr (by simp [hy])
      · rcases hz with hz | hz
        · exact .inl hz
        · exact .inr (by simp [hz])
theorem bfs_map {outs : List (List Int)} {roots nodes : List Int} (h : Shut outs roots nodes) : ∀ k, (∀ x, x ∈ bfsA (gOf outs) roots k → x ∈ nodes) ∧ bfsA (gOf (anewO outs nodes)) (roots.map (plc nodes)) k = (bfsA (gOf outs) roots k).map (plc nodes)
  | 0 => by
    refine ⟨fun x hx => ?_, ?_⟩
    · rcases addNew_mem.1 hx with hx | hx
      · simp at hx
      · exact h.root x hx
    · rw [bfsA, bfsA]
      exact addNew_map (A := []) fun x y hx hy e => by
        have hx : x ∈ roots := by simpa using hx
        have hy : y ∈ roots := by simpa using hy
        exact plc_inj (h.root x hx) (h.root y hy) e
  | k + 1 => by
    obtain ⟨ih1, ih2⟩ := bfs_map h k
    rw [bfsA, bfsA, ih2, List.length_map]
    by_cases hk : k < (bfsA (gOf outs) roots k).length
    · rw [if_pos hk, if_pos hk]
      have hm : (bfsA (gOf outs) roots k)[k] ∈ nodes := ih1 _ (List.getElem_mem hk)
      have e1 : (bfsA (gOf outs) roots k)[k]?.getD 0 = (bfsA (gOf outs) roots k)[k] := by rw [List.getElem?_eq_getElem hk]; rfl
      have e2 : ((bfsA (gOf outs) roots k).map (plc nodes))[k]?.getD 0 = plc nodes (bfsA (gOf outs) roots k)[k] := by rw [List.getElem?_map, List.getElem?_eq_getElem hk]; rfl
      rw [e1, e2, anew_g hm]
      have hin : ∀ x, (x ∈ bfsA (gOf outs) roots k ∨ x ∈ gOf outs (bfsA (gOf outs) roots k)[k]) → x ∈ nodes := fun x hx => by
        rcases hx with hx | hx
        · exact ih1 x hx
        · exact h.outs _ hm x hx
      refine ⟨fun x hx => hin x (addNew_mem.1 hx), ?_⟩
      exact addNew_map fun x y hx hy e => plc_inj (hin x hx) (hin y hy) e
    · rw [if_neg hk, if_neg hk]
      exact ⟨ih1, rfl⟩
/-- Cheney: the copy's copy has the same numbers. -/
theorem copy_twice {outs : List (List Int)} {roots A : List Int} (hF : IsFrom (gOf outs) roots A) (hS : Shut outs roots A) : IsFrom (gOf (anewO outs A)) (roots.map (plc A)) (upTo A.length) := by
  obtain ⟨k, a1, a2, a3⟩ := hF
  have hb := bfs_map hS
  refine ⟨k, fun j hj => ?_, ?_, ?_⟩
  · rw [(hb j).2, List.length_map]; exact a1 j hj
  · rw [(hb k).2, List.length_map]; exact a2
  · rw [(hb k).2, ← a3, plc_self hS.nodup]
theorem from_shut {outs : List (List Int)} {roots A : List Int} (hF : IsFrom (gOf outs) roots A) : Shut outs roots A := by
  obtain ⟨h1, h2⟩ := hF.mem
  exact ⟨h1, fun x hx => (h2 x).2 (.root hx), fun x hx y hy => (h2 y).2 (.step ((h2 x).1 hx) hy)⟩
end Go.Proofs.YtmibnceadciidaaDoor

/- Lists alone, for chapter 17: what is wrong with a heap. -/
namespace Go.Proofs.YtmibnceadciidaaDoor

def badN (n : Nat) (x : Int) : Bool := decide (x < 0) || decide ((n : Int) ≤ x)
/-- What is wrong with the pointers of one node. -/
def hRow (n : Nat) (r : List Int) : Nat := if 4 < r.length then 4 else if r.any (badN n) then 1 else 0
def hRows (n : Nat) : List (List Int) → Nat
  | [] => 0
  | r :: t => if hRow n r = 0 then hRows n t else hRow n r
def chkH (L : List (List Int)) (R : List Int) : Nat := if 12 < L.length ∨ 12 < R.length then 4 else if R.any (badN L.length) then 1 else hRows L.length L
theorem hRow_cases (n : Nat) (r : List Int) : hRow n r = 0 ∨ hRow n r = 1 ∨ hRow n r = 4 := by
  unfold hRow
  repeat' split
  all_goals simp
theorem hRows_cases (n : Nat) : ∀ L, hRows n L = 0 ∨ hRows n L = 1 ∨ hRows n L = 4
  | [] => by simp [hRows]
  | r :: t => by
    rw [hRows]
    split
    · exact hRows_cases n t
    · exact hRow_cases n r
theorem chkH_cases (L : List (List Int)) (R : List Int) : chkH L R = 0 ∨ chkH L R = 1 ∨ chkH L R = 4 := by
  unfold chkH
  repeat' split
  · simp
  · simp
  · exact hRows_cases _ _
theorem hRows_append {n : Nat} : ∀ {A B : List (List Int)}, hRows n A = 0 → hRows n (A ++ B) = hRows n B
  | [], _, _ => rfl
  | r :: t, B, h => by
    rw [hRows] at h
    rw [List.cons_append, hRows]
    split at h
    · rename_i h0
      rw [if_pos h0]; exact hRows_append h
    · rename_i h0
      exact absurd h h0
theorem rowAt_of {L : List (List Int)} {k : Nat} (hk : k < L.length) : L[k]?.getD [] = L[k] := by rw [List.getElem?_eq_getElem hk]; rfl
theorem hRows_next {n : Nat} {L : List (List Int)} {k : Nat} (hk : k < L.length) (h0 : hRows n (L.take k) = 0) (h : hRow n (L[k]?.getD []) = 0) : hRows n (L.take (k+1)) = 0 := by
  rw [rowAt_of hk] at h
  rw [List.take_succ_eq_append_getElem hk, hRows_append h0, hRows, if_pos h]; rfl
theorem hRows_here {n : Nat} {L : List (List Int)} {k : Nat} (hk : k < L.length) (h0 : hRows n (L.take k) = 0) (h : hRow n (L[k]?.getD []) ≠ 0) : hRows n L = hRow n (L[k]?.getD []) := by
  rw [rowAt_of hk] at h ⊢
  have e : L = L.take k ++ L[k] :: L.drop (k+1) := by rw [List.getElem_cons_drop, List.take_append_drop]
  have := hRows_append (n := n) (B := L[k] :: L.drop (k+1)) h0
  rw [← e, hRows, if_neg h] at this
  exact this
/-- What Check lets through. -/
structure FineH (L : List (List Int)) (R : List Int) : Prop where
  few : L.length ≤ 12
  roots : R.length ≤ 12
  root : ∀ x, x ∈ R → 0 ≤ x ∧ x < L.length
  outs : ∀ r, r ∈ L → r.length ≤ 4
  node : ∀ r, r ∈ L → ∀ x, x ∈ r → 0 ≤ x ∧ x < L.length
theorem badN_any {n : Nat} {l : List Int} : l.any (badN n) = false ↔ ∀ x, x ∈ l → 0 ≤ x ∧ x < n := by
  rw [List.any_eq_false]
  refine forall_congr' fun x => imp_congr_right fun _ => ?_
  simp [badN]
theorem hRow_zero {n : Nat} {r : List Int} : hRow n r = 0 ↔ r.length ≤ 4 ∧ ∀ x, x ∈ r → 0 ≤ x ∧ x < n := by
  unfold hRow
  rw [← badN_any]
  split
  · constructor
    · intro h; cases h
    · intro h; omega
  · cases h : r.any (badN n)
    · simp; omega
    · simp
theorem hRows_zero {n : Nat} : ∀ {L : List (List Int)}, hRows n L = 0 ↔ ∀ r, r ∈ L → hRow n r = 0
  | [] => by simp [hRows]
  | r :: t => by
    rw [hRows]
    split
    · rename_i h
      rw [hRows_zero (L := t)]
      simp [h]
    · rename_i h
      simp [h]
theorem chkH_zero {L : List (List Int)} {R : List Int} : chkH L R = 0 ↔ FineH L R := by
  unfold chkH
  split
  · rename_i h
    exact ⟨fun h => (by cases h), fun hf => by have := hf.few; have := hf.roots; omega⟩
  · rename_i h
    cases hb : R.any (badN L.length)
    · simp only [Bool.false_eq_true, if_false]
      rw [hRows_zero]
      constructor
      · intro h2
        exact ⟨by omega, by omega, badN_any.1 hb, fun r hr => (hRow_zero.1 (h2 r hr)).1, fun r hr => (hRow_zero.1 (h2 r hr)).2⟩
      · intro hf r hr
        exact hRow_zero.2 ⟨hf.outs r hr, hf.node r hr⟩
    · simp only [if_true]
      constructor
      · intro h2; cases h2
      · intro hf
        rw [badN_any.2 hf.root] at hb; cases hb
theorem FineH.root16 {L : List (List Int)} {R : List Int} (h : FineH L R) : ∀ x, x ∈ R → 0 ≤ x ∧ x < 16 := fun x hx => by
  have := h.root x hx; have := h.few; omega
theorem gOf_mem {L : List (List Int)} {x y : Int} (h : y ∈ gOf L x) : 0 ≤ x ∧ x < L.length ∧ L[x.toNat]?.getD [] ∈ L ∧ y ∈ L[x.toNat]?.getD [] := by
  unfold gOf at h
  split at h
  · rename_i h0
    by_cases hx : x.toNat < L.length
    · refine ⟨h0, by omega, ?_, h⟩
      rw [List.getElem?_eq_getElem hx]; exact List.getElem_mem hx
    · rw [List.getElem?_eq_none (by omega)] at h; simp at h
  · simp at h
theorem gOf_at {L : List (List Int)} (k : Nat) : gOf L (k : Int) = L[k]?.getD [] := by
  unfold gOf
  rw [if_pos (by omega)]; rfl
theorem gOf_out {L : List (List Int)} {x : Int} (h : x ∉ upTo L.length) : gOf L x = [] := by
  refine List.eq_nil_iff_forall_not_mem.2 fun y hy => h ?_
  have := gOf_mem hy
  exact upTo_mem.2 ⟨this.1, this.2.1⟩
theorem FineH.step {L : List (List Int)} {R : List Int} (h : FineH L R) {x y : Int} (hy : y ∈ gOf L x) : 0 ≤ y ∧ y < L.length := by
  obtain ⟨_, _, h1, h2⟩ := gOf_mem hy
  exact h.node _ h1 y h2
theorem FineH.come {L : List (List Int)} {R S : List Int} (h : FineH L R) (hS : ∀ x, x ∈ S → 0 ≤ x ∧ x < L.length) {x : Int} (hx : Come (gOf L) S x) : 0 ≤ x ∧ x < L.length :=
  Come.least (C := fun x => 0 ≤ x ∧ x < L.length) hS (fun _ _ _ hy => h.step hy) hx
theorem FineH.gOf16 {L : List (List Int)} {R : List Int} (h : FineH L R) (x : Int) : ∀ y, y ∈ gOf L x → 0 ≤ y ∧ y < 16 := fun y hy => by
  have := h.step hy; have := h.few; omega
/-- With other roots it is as well. -/
theorem FineH.with {L : List (List Int)} {R S : List Int} (h : FineH L R) (hs : S.length ≤ 12) (hS : ∀ x, x ∈ S → 0 ≤ x ∧ x < L.length) : FineH L S := ⟨h.few, hs, hS, h.outs, h.node⟩
end Go.Proofs.YtmibnceadciidaaDoor

/- Lists alone, for chapter 20: the heap that counts, as the document has it: outs, roots, and which nodes are here. -/
namespace Go.Proofs.YtmibnceadciidaaDoor

structure KS where
  outs : List (List Int)
  roots : List Int
  here : List Bool
/-- How often a node is pointed to. -/
def KS.count (c : KS) (x : Int) : Nat := c.roots.count x + (c.outs.map fun r => r.count x).sum
def KS.isN (c : KS) (k : Nat) : Bool := c.here[k]?.getD false
def KS.is (c : KS) (x : Int) : Bool := decide (0 ≤ x) && c.isN x.toNat
def KS.visit (c : KS) (k : Nat) : KS := if c.isN k && c.count k == 0 then ⟨c.outs.set k [], c.roots, c.here.set k false⟩ else c
def KS.pass (c : KS) : Nat → KS
  | 0 => c
  | k + 1 => (c.pass k).visit k
def KS.passes (c : KS) : Nat → KS
  | 0 => c
  | n + 1 => (c.passes n).pass (c.passes n).here.length
@[irreducible] def KS.swept (c : KS) : KS := c.passes 13
def KS.row (c : KS) (x : Int) : List Int := c.outs[x.toNat]?.getD []
def KS.putR (c : KS) (x : Int) (r : List Int) : KS := ⟨c.outs.set x.toNat r, c.roots, c.here⟩
/-- What is done: the heap, the number, what is wrong. -/
def KS.doK (c : KS) (kind i j : Int) : KS × Nat × Nat :=
  if kind = 0 then
    if 12 ≤ c.here.length ∨ 12 ≤ c.roots.length then (c, 0, 4) else (⟨c.outs ++ [[]], c.roots ++ [(c.here.length : Int)], c.here ++ [true]⟩, c.here.length, 0)
  else if c.is i = false ∨ (2 < kind ∧ c.is j = false) then (c, 0, 1)
  else if kind = 1 then (if 12 ≤ c.roots.length then (c, 0, 4) else ((⟨c.outs, c.roots ++ [i], c.here⟩ : KS).swept, 0, 0))
  else if kind = 2 then (if i ∈ c.roots then ((⟨c.outs, c.roots.erase i, c.here⟩ : KS).swept, 0, 0) else (c, 0, 5))
  else if kind = 3 then (if 4 ≤ (c.row i).length then (c, 0, 4) else ((c.putR i (c.row i ++ [j])).swept, 0, 0))
  else if kind = 4 then (if j ∈ c.row i then ((c.putR i ((c.row i).erase j)).swept, 0, 0) else (c, 0, 5))
  else (c.swept, 0, 0)

/-- As nodes, pointers and roots. -/
def KS.abs (c : KS) : CSt := ⟨gOf c.outs, c.roots, fun x => c.is x = true⟩
theorem sum_zero {l : List Nat} : l.sum = 0 ↔ ∀ x, x ∈ l → x = 0 := by
  induction l with
  | nil => simp
  | cons a r ih => simp [ih]
theorem count_zero {c : KS} {x : Int} : c.count x = 0 ↔ c.abs.Unp x := by
  unfold KS.count CSt.Unp KS.abs
  rw [Nat.add_eq_zero_iff, List.count_eq_zero, sum_zero]
  refine and_congr Iff.rfl ⟨fun h y hy => ?_, fun h n hn => ?_⟩
  · obtain ⟨_, _, h3, h4⟩ := gOf_mem hy
    have := h _ (List.mem_map.2 ⟨_, h3, rfl⟩)
    rw [List.count_eq_zero] at this
    exact this h4
  · obtain ⟨r, hr, rfl⟩ := List.mem_map.1 hn
    rw [List.count_eq_zero]
    intro hx
    obtain ⟨k, hk, rfl⟩ := List.getElem_of_mem hr
    refine h (k : Int) ?_
    show x ∈ gOf c.outs (k : Int)
    rw [gOf_at, List.getElem?_eq_getElem hk]; exact hx
theorem gOf_set {L : List (List Int)} {k : Nat} {r : List Int} (hk : k < L.length) : gOf (L.set k r) = fun x => if x = (k : Int) then r else gOf L x := by
  funext x
  unfold gOf
  by_cases hx : 0 ≤ x
  · rw [if_pos hx, if_pos hx]
    by_cases e : x = (k : Int)
    · rw [if_pos e, e, Int.toNat_natCast, List.getElem?_set_self hk]; rfl
    · rw [if_neg e, List.getElem?_set_ne (by omega)]
  · rw [if_neg hx, if_neg hx, if_neg (by omega)]
theorem is_set {c : KS} {k : Nat} (hk : k < c.here.length) (o : List (List Int)) (x : Int) : (⟨o, c.roots, c.here.set k false⟩ : KS).is x = true ↔ c.is x = true ∧ x ≠ (k : Int) := by
  unfold KS.is KS.isN
  simp only [Bool.and_eq_true, decide_eq_true_eq]
  by_cases hx : 0 ≤ x
  · by_cases e : x = (k : Int)
    · subst e
      rw [Int.toNat_natCast, List.getElem?_set_self hk]
      simp
    · rw [List.getElem?_set_ne (by omega)]
      simp [hx, e]
  · simp [hx]
/-- As many rows as nodes. -/
def KS.Even (c : KS) : Prop := c.outs.length = c.here.length
theorem is_lt {c : KS} {x : Int} (h : c.is x = true) : 0 ≤ x ∧ x < c.here.length := by
  unfold KS.is KS.isN at h
  simp only [Bool.and_eq_true, decide_eq_true_eq] at h
  refine ⟨h.1, ?_⟩
  refine Decidable.byContradiction fun hn => ?_
  rw [List.getElem?_eq_none (by omega)] at h
  simp at h
theorem isN_is {c : KS} {k : Nat} : c.is (k : Int) = c.isN k := by unfold KS.is; simp
theorem visit_even {c : KS} (h : c.Even) (k : Nat) : (c.visit k).Even ∧ (c.visit k).here.length = c.here.length := by
  unfold KS.visit
  split
  · unfold KS.Even at h ⊢; simp [h]
  · exact ⟨h, rfl⟩
theorem visit_abs {c : KS} (h : c.Even) (k : Nat) : (c.visit k).abs = c.abs.visit (k : Int) := by
  unfold KS.visit CSt.visit
  by_cases hc : c.abs.here (k : Int) ∧ c.abs.Unp (k : Int)
  · have h1 : c.is (k : Int) = true := hc.1
    have hk := (is_lt h1).2
    have hk : k < c.here.length := by omega
    have h2 := count_zero.2 hc.2
    rw [isN_is] at h1
    have ht : (c.isN k && c.count (k : Int) == 0) = true := by rw [h1, h2]; rfl
    rw [if_pos ht, if_pos hc]
    unfold KS.abs CSt.rem
    simp only
    rw [gOf_set (by rw [h]; exact hk)]
    congr 1
    funext x
    exact propext (is_set hk _ x)
  · have ht : (c.isN k && c.count (k : Int) == 0) = false := by
      rw [Bool.eq_false_iff]
      intro ht
      rw [Bool.and_eq_true, beq_iff_eq] at ht
      exact hc ⟨by show c.is (k : Int) = true; rw [isN_is]; exact ht.1, count_zero.1 ht.2⟩
    rw [ht, if_neg (by simp), if_neg hc]
theorem upTo_next (n : Nat) : upTo (n+1) = upTo n ++ [(n : Int)] := by unfold upTo; rw [List.range_succ, List.map_append]; rfl
theorem passC_snoc : ∀ (l : List Int) (c : CSt) (i : Int), c.pass (l ++ [i]) = (c.pass l).visit i
  | [], _, _ => rfl
  | x :: r, c, i => by rw [List.cons_append, CSt.pass, CSt.pass, passC_snoc r]
theorem pass_abs {c : KS} (h : c.Even) : ∀ k, (c.pass k).abs = c.abs.pass (upTo k) ∧ (c.pass k).Even ∧ (c.pass k).here.length = c.here.length
  | 0 => ⟨rfl, h, rfl⟩
  | k + 1 => by
    obtain ⟨h1, h2, h3⟩ := pass_abs h k
    have h4 := visit_even h2 k
    rw [KS.pass, upTo_next, passC_snoc, visit_abs h2, h1]
    exact ⟨rfl, h4.1, h4.2.trans h3⟩
theorem passes_abs {c : KS} (h : c.Even) : ∀ n, (c.passes n).abs = c.abs.passes (upTo c.here.length) n ∧ (c.passes n).Even ∧ (c.passes n).here.length = c.here.length
  | 0 => ⟨rfl, h, rfl⟩
  | n + 1 => by
    obtain ⟨h1, h2, h3⟩ := passes_abs h n
    have h4 := pass_abs h2 (c.passes n).here.length
    rw [KS.passes, CSt.passes, h4.1, h3, h1]
    exact ⟨rfl, by rw [← h3]; exact h4.2.1, by rw [← h3]; exact h4.2.2⟩
theorem visit_len (c : KS) (k : Nat) : (c.visit k).roots = c.roots ∧ ((∀ r, r ∈ c.outs → r.length ≤ 4) → ∀ r, r ∈ (c.visit k).outs → r.length ≤ 4) := by
  unfold KS.visit
  split
  · refine ⟨rfl, fun hr r hm => ?_⟩
    rcases List.mem_or_eq_of_mem_set hm with h1 | h1
    · exact hr r h1
    · subst h1; simp
  · exact ⟨rfl, fun hr => hr⟩
theorem pass_len (c : KS) : ∀ k, (c.pass k).roots = c.roots ∧ ((∀ r, r ∈ c.outs → r.length ≤ 4) → ∀ r, r ∈ (c.pass k).outs → r.length ≤ 4)
  | 0 => ⟨rfl, fun hr => hr⟩
  | k + 1 => by
    have h1 := pass_len c k
    have h2 := visit_len (c.pass k) k
    rw [KS.pass]
    exact ⟨h2.1.trans h1.1, fun hr => h2.2 (h1.2 hr)⟩
theorem passes_len (c : KS) : ∀ n, (c.passes n).roots = c.roots ∧ ((∀ r, r ∈ c.outs → r.length ≤ 4) → ∀ r, r ∈ (c.passes n).outs → r.length ≤ 4)
  | 0 => ⟨rfl, fun hr => hr⟩
  | n + 1 => by
    have h1 := passes_len c n
    have h2 := pass_len (c.passes n) (c.passes n).here.length
    rw [KS.passes]
    exact ⟨h2.1.trans h1.1, fun hr => h2.2 (h1.2 hr)⟩
/-- The same nodes, pointers and roots are the same lists. -/
theorem abs_inj {c d : KS} (hc : c.Even) (hd : d.Even) (hl : c.here.length = d.here.length) (h : c.abs = d.abs) : c = d := by
  have h1 : gOf c.outs = gOf d.outs := congrArg CSt.outs h
  have h2 : c.roots = d.roots := congrArg CSt.roots h
  have h3 : (fun x => c.is x = true) = fun x => d.is x = true := congrArg CSt.here h
  have e1 : c.outs = d.outs := by
    refine List.ext_getElem (by rw [hc, hd, hl]) fun k k1 k2 => ?_
    have := congrFun h1 (k : Int)
    rw [gOf_at, gOf_at, List.getElem?_eq_getElem k1, List.getElem?_eq_getElem k2] at this
    exact this
  have e3 : c.here = d.here := by
    refine List.ext_getElem hl fun k k1 k2 => ?_
    have h4 := congrFun h3 (k : Int)
    simp only [isN_is, KS.isN, List.getElem?_eq_getElem k1, List.getElem?_eq_getElem k2, Option.getD_some] at h4
    rw [Bool.eq_iff_iff]
    exact Eq.to_iff h4
  cases c; cases d
  simp only at e1 h2 e3
  subst e1 h2 e3
  rfl
/-- Swept: what is settled, by taking away nodes that nothing points to. -/
theorem swept_is {c : KS} (h : c.Even) (h12 : c.here.length ≤ 12) : Rems c.abs c.swept.abs ∧ c.swept.abs.Settled ∧ c.swept.Even ∧ c.swept.here.length = c.here.length ∧ c.swept.roots = c.roots ∧ ((∀ r, r ∈ c.outs → r.length ≤ 4) → ∀ r, r ∈ c.swept.outs → r.length ≤ 4) := by
  obtain ⟨h1, h2, h3⟩ := passes_abs h 13
  unfold KS.swept
  rw [h1]
  refine ⟨passesC_rems _ _ _, passesC_settled (upTo_nodup _) _ (fun x hx => upTo_mem.2 (is_lt hx)) (by rw [upTo_length]; omega), h2, h3, (passes_len c 13).1, (passes_len c 13).2⟩
/-- However nodes go: if it is settled it is what the document has. -/
theorem swept_unique {c d : KS} (h : c.Even) (h12 : c.here.length ≤ 12) (hg : c.abs.Good) (hd : d.Even) (hl : d.here.length = c.here.length) (hr : Rems c.abs d.abs) (hs : d.abs.Settled) : d = c.swept := by
  obtain ⟨h1, h2, h3, h4, _⟩ := swept_is h h12
  exact abs_inj hd h3 (by rw [hl, h4]) (rems_unique hg hr h1 hs h2)
theorem swept_settled {c : KS} (h : c.Even) (h12 : c.here.length ≤ 12) (hg : c.abs.Good) (hs : c.abs.Settled) : c.swept = c := (swept_unique h h12 hg h rfl .refl hs).symm
end Go.Proofs.YtmibnceadciidaaDoor

/- Lists alone, for chapter 20: what holds of the heap that counts, whatever was done. -/
namespace Go.Proofs.YtmibnceadciidaaDoor

structure KGood (c : KS) : Prop where
  even : c.Even
  few : c.here.length ≤ 12
  roots : c.roots.length ≤ 12
  rows : ∀ r, r ∈ c.outs → r.length ≤ 4
  good : c.abs.Good
  settled : c.abs.Settled
theorem start_good : KGood ⟨[], [], []⟩ :=
  ⟨rfl, by simp, by simp, by simp, ⟨fun x hx => by simp [KS.abs] at hx, fun x y hy => by simp [KS.abs, gOf] at hy⟩, fun x hx => by have := is_lt (c := ⟨[], [], []⟩) hx; simp at this; omega⟩
theorem swept_good {c : KS} (h1 : c.Even) (h2 : c.here.length ≤ 12) (h3 : c.roots.length ≤ 12) (h4 : ∀ r, r ∈ c.outs → r.length ≤ 4) (h5 : c.abs.Good) : KGood c.swept := by
  obtain ⟨a1, a2, a3, a4, a5, a6⟩ := swept_is h1 h2
  exact ⟨a3, by omega, by rw [a5]; exact h3, a6 h4, a1.good h5, a2⟩
theorem row_g {c : KS} {x : Int} (h : 0 ≤ x) : gOf c.outs x = c.row x := by unfold gOf KS.row; rw [if_pos h]
theorem row_len {c : KS} (h : ∀ r, r ∈ c.outs → r.length ≤ 4) (x : Int) : (c.row x).length ≤ 4 := by
  unfold KS.row
  by_cases hx : x.toNat < c.outs.length
  · rw [List.getElem?_eq_getElem hx]; exact h _ (List.getElem_mem hx)
  · rw [List.getElem?_eq_none (by omega)]; simp
theorem put_here (c : KS) (x : Int) (r : List Int) (y : Int) : (c.putR x r).is y = c.is y := rfl
theorem put_even {c : KS} (h : c.Even) (x : Int) (r : List Int) : (c.putR x r).Even := by unfold KS.Even KS.putR at *; simp [h]
theorem put_outs {c : KS} (h : c.Even) {x : Int} (hx : c.is x = true) (r : List Int) : gOf (c.putR x r).outs = fun y => if y = x then r else gOf c.outs y := by
  have h1 := is_lt hx
  unfold KS.putR
  rw [gOf_set (by rw [h]; omega)]
  funext y
  rw [show ((x.toNat : Nat) : Int) = x by omega]
/-- A row written over by pointers to nodes that are here. -/
theorem put_good {c : KS} (h : c.Even) (hg : c.abs.Good) {x : Int} (hx : c.is x = true) {r : List Int} (hr : ∀ y, y ∈ r → c.is y = true) : (c.putR x r).abs.Good := by
  refine ⟨fun y hy => hg.1 y hy, fun y z hz => ?_⟩
  have hz : z ∈ gOf (c.putR x r).outs y := hz
  rw [put_outs h hx] at hz
  have hz2 : z ∈ if y = x then r else gOf c.outs y := hz
  by_cases e : y = x
  · rw [if_pos e] at hz2
    rw [e]
    exact ⟨hx, hr z hz2⟩
  · rw [if_neg e] at hz2
    exact hg.2 y z hz2
theorem put_rows {c : KS} (h : ∀ r, r ∈ c.outs → r.length ≤ 4) {x : Int} {r : List Int} (hr : r.length ≤ 4) : ∀ q, q ∈ (c.putR x r).outs → q.length ≤ 4 := fun q hq => by
  rcases List.mem_or_eq_of_mem_set hq with h1 | h1
  · exact h q h1
  · rw [h1]; exact hr
theorem row_here {c : KS} (hg : c.abs.Good) {x : Int} (hx : c.is x = true) : ∀ y, y ∈ c.row x → c.is y = true := fun y hy => (hg.2 x y (by show y ∈ gOf c.outs x; rw [row_g (is_lt hx).1]; exact hy)).2
theorem make_good {c : KS} (h : KGood c) (h1 : c.here.length < 12) (h2 : c.roots.length < 12) : KGood ⟨c.outs ++ [[]], c.roots ++ [(c.here.length : Int)], c.here ++ [true]⟩ := by
  have his : ∀ x, (⟨c.outs ++ [[]], c.roots ++ [(c.here.length : Int)], c.here ++ [true]⟩ : KS).is x = true ↔ c.is x = true ∨ x = (c.here.length : Int) := fun x => by
    unfold KS.is KS.isN
    simp only [Bool.and_eq_true, decide_eq_true_eq]
    by_cases hx : x.toNat < c.here.length
    · rw [List.getElem?_append_left hx]
      constructor
      · exact fun h => .inl h
      · rintro (h | h)
        · exact h
        · omega
    · rw [List.getElem?_append_right (by omega), List.getElem?_eq_none (show c.here.length ≤ x.toNat by omega)]
      constructor
      · rintro ⟨a, b⟩
        right
        refine Decidable.byContradiction fun hn => ?_
        rw [List.getElem?_eq_none (by simp; omega)] at b
        simp at b
      · rintro (h | h)
        · simp at h
        · subst h; simp
  have hgo : ∀ x, gOf (c.outs ++ [[]]) x = gOf c.outs x := fun x => by
    unfold gOf
    by_cases hx : 0 ≤ x
    · rw [if_pos hx, if_pos hx]
      by_cases hl : x.toNat < c.outs.length
      · rw [List.getElem?_append_left hl]
      · rw [List.getElem?_append_right (by omega), List.getElem?_eq_none (show c.outs.length ≤ x.toNat by omega)]
        cases hq : x.toNat - c.outs.length <;> simp
    · rw [if_neg hx, if_neg hx]
  refine ⟨by have := h.even; unfold KS.Even at *; simp [this], by simp; omega, by simp; omega, fun r hr => ?_, ⟨fun x hx => ?_, fun x y hy => ?_⟩, fun x hx hu => ?_⟩
  · rcases List.mem_append.1 hr with h3 | h3
    · exact h.rows r h3
    · rw [List.mem_singleton] at h3; rw [h3]; simp
  · have hx : x ∈ c.roots ++ [(c.here.length : Int)] := hx
    refine (his x).2 ?_
    rcases List.mem_append.1 hx with h3 | h3
    · exact .inl (h.good.1 x h3)
    · exact .inr (by simpa using h3)
  · have hy : y ∈ gOf (c.outs ++ [[]]) x := hy
    rw [hgo] at hy
    have := h.good.2 x y hy
    exact ⟨(his x).2 (.inl this.1), (his y).2 (.inl this.2)⟩
  · rcases (his x).1 hx with h3 | h3
    · refine h.settled x h3 ⟨fun hr => hu.1 (by show x ∈ c.roots ++ _; exact List.mem_append_left _ hr), fun y hy => hu.2 y ?_⟩
      show x ∈ gOf (c.outs ++ [[]]) y
      rw [hgo]; exact hy
    · exact hu.1 (by show x ∈ c.roots ++ _; rw [h3]; simp)
theorem root_good {c : KS} (h : KGood c) {i : Int} (hi : c.is i = true) (h2 : c.roots.length < 12) : KGood ⟨c.outs, c.roots ++ [i], c.here⟩ := by
  refine ⟨h.even, h.few, by simp; omega, h.rows, ⟨fun x hx => ?_, h.good.2⟩, fun x hx hu => h.settled x hx ⟨fun hr => hu.1 (by show x ∈ c.roots ++ _; exact List.mem_append_left _ hr), hu.2⟩⟩
  have hx : x ∈ c.roots ++ [i] := hx
  rcases List.mem_append.1 hx with h3 | h3
  · exact h.good.1 x h3
  · rw [List.mem_singleton] at h3; rw [h3]; exact hi
theorem link_good {c : KS} (h : KGood c) {i j : Int} (hi : c.is i = true) (hj : c.is j = true) (h4 : (c.row i).length < 4) : KGood (c.putR i (c.row i ++ [j])) := by
  refine ⟨put_even h.even _ _, h.few, h.roots, put_rows h.rows (by simp; omega), put_good h.even h.good hi fun y hy => ?_, fun x hx hu => h.settled x hx ⟨hu.1, fun y hy => ?_⟩⟩
  · rcases List.mem_append.1 hy with h3 | h3
    · exact row_here h.good hi y h3
    · rw [List.mem_singleton] at h3; rw [h3]; exact hj
  · have hu := hu.2 y
    apply hu
    show x ∈ gOf (c.putR i (c.row i ++ [j])).outs y
    rw [put_outs h.even hi]
    simp only
    split
    · rename_i e
      subst e
      have hy : x ∈ gOf c.outs y := hy
      rw [row_g (is_lt hi).1] at hy
      exact List.mem_append_left _ hy
    · exact hy
/-- Whatever is done. -/
theorem do_good {c : KS} (h : KGood c) (kind i j : Int) : KGood (c.doK kind i j).1 := by
  unfold KS.doK
  split
  · split
    · exact h
    · rename_i hn; exact make_good h (by omega) (by omega)
  split
  · exact h
  rename_i _ hn
  have hi : c.is i = true := by
    cases e : c.is i
    · exact absurd (.inl e) hn
    · rfl
  split
  · split
    · exact h
    · rename_i h2
      have hk := root_good h hi (by omega)
      rw [swept_settled hk.even hk.few hk.good hk.settled]; exact hk
  split
  · split
    · exact swept_good h.even h.few (by have := List.length_erase_le (a := i) (l := c.roots); have := h.roots; show (c.roots.erase i).length ≤ 12; omega) h.rows ⟨fun x hx => h.good.1 x (List.mem_of_mem_erase hx), h.good.2⟩
    · exact h
  split
  · rename_i h3
    have hj : c.is j = true := by
      cases e : c.is j
      · exact absurd (.inr ⟨by omega, e⟩) hn
      · rfl
    split
    · exact h
    · rename_i h2
      have hk := link_good h hi hj (by omega)
      rw [swept_settled hk.even hk.few hk.good hk.settled]; exact hk
  split
  · split
    · refine swept_good (put_even h.even _ _) h.few h.roots (put_rows h.rows ?_) (put_good h.even h.good hi fun y hy => row_here h.good hi y (List.mem_of_mem_erase hy))
      have := List.length_erase_le (a := j) (l := c.row i)
      have := row_len h.rows i
      omega
    · exact h
  · exact swept_good h.even h.few h.roots h.rows h.good
theorem do_len {c : KS} (h : KGood c) (kind i j : Int) : c.here.length ≤ (c.doK kind i j).1.here.length := by
  have key : ∀ d : KS, d.Even → d.here = c.here → c.here.length ≤ d.swept.here.length := fun d hd he => by
    rw [(swept_is hd (by rw [he]; exact h.few)).2.2.2.1, he]; exact Nat.le_refl _
  unfold KS.doK
  repeat' split
  all_goals first
    | exact Nat.le_refl _
    | (simp; done)
    | exact key _ h.even rfl
    | exact key _ (put_even h.even _ _) rfl
/-- Some steps, one behind the other. -/
def KS.run (c : KS) : List (Int × Int × Int) → KS
  | [] => c
  | (k, i, j) :: r => ((c.doK k i j).1).run r
theorem run_good : ∀ {l : List (Int × Int × Int)} {c : KS}, KGood c → KGood (c.run l)
  | [], _, h => h
  | (k, i, j) :: r, _, h => run_good (l := r) (do_good h k i j)

/-- CountTrue: what is here is pointed to, what isn't is not. -/
theorem good_count {c : KS} (h : KGood c) (x : Int) : 0 < c.count x ↔ c.is x = true := by
  constructor
  · intro hc
    have : ¬ c.abs.Unp x := fun hu => by rw [count_zero.2 hu] at hc; omega
    refine Classical.byContradiction fun hn => this ⟨fun hr => hn (h.good.1 x hr), fun y hy => hn (h.good.2 y x hy).2⟩
  · intro hx
    refine Nat.pos_of_ne_zero fun h0 => h.settled x hx (count_zero.1 h0)
/-- It is a heap as chapter 17 has it. -/
theorem good_fine {c : KS} (h : KGood c) : FineH c.outs c.roots := by
  have hb : ∀ x, c.is x = true → 0 ≤ x ∧ x < c.outs.length := fun x hx => by have := is_lt hx; rw [h.even]; exact this
  refine ⟨by rw [h.even]; exact h.few, h.roots, fun x hx => hb x (h.good.1 x hx), h.rows, fun r hr x hx => ?_⟩
  obtain ⟨k, hk, rfl⟩ := List.getElem_of_mem hr
  refine hb x (h.good.2 (k : Int) x ?_).2
  show x ∈ gOf c.outs (k : Int)
  rw [gOf_at, List.getElem?_eq_getElem hk]; exact hx
/-- CountSafe: what can be come to is here; and where there are no rings nothing else is. -/
theorem good_safe {c : KS} (h : KGood c) {x : Int} (hx : Come (gOf c.outs) c.roots x) : c.is x = true := good_come h.good hx
theorem good_all {c : KS} (h : KGood c) (hr : ∀ x, ¬ Ring (gOf c.outs) x) {x : Int} (hx : c.is x = true) : Come (gOf c.outs) c.roots x :=
  settled_come h.good h.settled (nodes := upTo c.here.length) (fun _ hx => upTo_mem.2 (is_lt hx)) hr hx
/-- CountBack: a root laid and dropped. -/
theorem back_root {c : KS} (h : KGood c) (i : Int) : (⟨c.outs, (c.roots ++ [i]).erase i, c.here⟩ : KS).swept = ⟨c.outs, (c.roots ++ [i]).erase i, c.here⟩ := by
  have hp : ((c.roots ++ [i]).erase i).Perm c.roots := by
    have h1 : (c.roots ++ [i]).Perm (i :: c.roots) := List.perm_append_singleton i c.roots
    have h2 := h1.erase i
    rwa [List.erase_cons_head] at h2
  have hm : ∀ x, x ∈ (c.roots ++ [i]).erase i ↔ x ∈ c.roots := fun x => hp.mem_iff
  refine swept_settled h.even h.few ⟨fun x hx => h.good.1 x ((hm x).1 hx), h.good.2⟩ fun x hx hu => h.settled x hx ⟨fun hr => hu.1 ((hm x).2 hr), hu.2⟩
/-- .. and a pointer. -/
theorem back_link {c : KS} (h : KGood c) {i j : Int} (hi : c.is i = true) : (c.putR i ((c.row i ++ [j]).erase j)).swept = c.putR i ((c.row i ++ [j]).erase j) := by
  have hp : ((c.row i ++ [j]).erase j).Perm (c.row i) := by
    have h1 : (c.row i ++ [j]).Perm (j :: c.row i) := List.perm_append_singleton j _
    have h2 := h1.erase j
    rwa [List.erase_cons_head] at h2
  have hm : ∀ x, x ∈ (c.row i ++ [j]).erase j ↔ x ∈ c.row i := fun x => hp.mem_iff
  refine swept_settled (put_even h.even _ _) h.few (put_good h.even h.good hi fun y hy => row_here h.good hi y ((hm y).1 hy)) fun x hx hu => h.settled x hx ⟨hu.1, fun y hy => hu.2 y ?_⟩
  show x ∈ gOf (c.putR i ((c.row i ++ [j]).erase j)).outs y
  rw [put_outs h.even hi]
  simp only
  split
  · rename_i e
    subst e
    have hy : x ∈ gOf c.outs y := hy
    rw [row_g (is_lt hi).1] at hy
    exact (hm x).2 hy
  · exact hy
theorem back_same {l : List Int} {j : Int} (h : j ∉ l) : (l ++ [j]).erase j = l := by
  rw [List.erase_append_right _ h]; simp
/-- A root dropped. -/
def KS.drop (c : KS) (i : Int) : KS := (⟨c.outs, c.roots.erase i, c.here⟩ : KS).swept
theorem drop_do {c : KS} (h : KGood c) {i : Int} (hi : i ∈ c.roots) (j : Int) : c.doK 2 i j = (c.drop i, 0, 0) := by
  have h1 : c.is i = true := h.good.1 i hi
  unfold KS.doK KS.drop
  rw [if_neg (by decide), if_neg (by rw [h1]; simp), if_neg (by decide), if_pos rfl, if_pos hi]
theorem erase_good {c : KS} (h : KGood c) (i : Int) : (⟨c.outs, c.roots.erase i, c.here⟩ : KS).abs.Good := ⟨fun x hx => h.good.1 x (List.mem_of_mem_erase hx), h.good.2⟩
theorem drop_good {c : KS} (h : KGood c) (i : Int) : KGood (c.drop i) :=
  swept_good h.even h.few (by have := List.length_erase_le (a := i) (l := c.roots); have := h.roots; show (c.roots.erase i).length ≤ 12; omega) h.rows (erase_good h i)
theorem drop_roots {c : KS} (h : KGood c) (i : Int) : (c.drop i).roots = c.roots.erase i := (swept_is (c := ⟨c.outs, c.roots.erase i, c.here⟩) h.even h.few).2.2.2.2.1
theorem come_sub {g g' : Int → List Int} {R R' : List Int} (hR : ∀ x, x ∈ R → x ∈ R') (hg : ∀ x y, y ∈ g x → y ∈ g' x) {x : Int} (h : Come g R x) : Come g' R' x := by
  induction h with
  | root h1 => exact .root (hR _ h1)
  | step _ h2 ih => exact .step ih (hg _ _ h2)
/-- Rings stay, and there are no new ones. -/
theorem drop_ring {c : KS} (h : KGood c) (i : Int) : (∃ x, Ring (gOf (c.drop i).outs) x) ↔ ∃ x, Ring (gOf c.outs) x := by
  have hs := swept_is (c := ⟨c.outs, c.roots.erase i, c.here⟩) h.even h.few
  have hg := erase_good h i
  have ho : ∀ x, ((c.drop i).is x = true → gOf (c.drop i).outs x = gOf c.outs x) ∧ (¬ (c.drop i).is x = true → c.is x = true → gOf (c.drop i).outs x = []) := fun x => hs.1.outs
  have hG := drop_good h i
  constructor
  · rintro ⟨x, hx⟩
    refine ⟨x, ?_⟩
    have hsub : ∀ u y, y ∈ gOf (c.drop i).outs u → y ∈ gOf c.outs u := fun u y hy => by
      have hu := (hG.good.2 u y hy).1
      rwa [(ho u).1 hu] at hy
    exact come_sub (hsub x) hsub hx
  · rintro ⟨x, hx⟩
    have hheld : (c.drop i).abs.Held (Ring (gOf c.outs)) := hs.1.held (ring_held hg)
    classical
    have hmem : ∀ y, Ring (gOf c.outs) y → y ∈ (upTo c.here.length).filter fun y => decide (Ring (gOf c.outs) y) := fun y hy =>
      List.mem_filter.2 ⟨upTo_mem.2 (is_lt ((ring_held h.good) y hy).1), by simpa using hy⟩
    obtain ⟨y, _, hy⟩ := ring_of (g := gOf (c.drop i).outs) (S := (upTo c.here.length).filter fun y => decide (Ring (gOf c.outs) y)) (fun e => by have := hmem x hx; rw [e] at this; simp at this) fun y hy => by
      have hy : Ring (gOf c.outs) y := by simpa using (List.mem_filter.1 hy).2
      obtain ⟨z, hz, hyz, _⟩ := hy.from
      exact ⟨z, hmem z hz, by rw [(ho z).1 (hheld z hz).1]; exact hyz⟩
    exact ⟨y, hy⟩
/-- Roots dropped one behind the other. -/
def KS.drops (c : KS) : List Int → KS
  | [] => c
  | i :: r => (c.drop i).drops r
theorem drops_snoc : ∀ (l : List Int) (c : KS) (i : Int), c.drops (l ++ [i]) = (c.drops l).drop i
  | [], _, _ => rfl
  | x :: r, c, i => by rw [List.cons_append, KS.drops, KS.drops, drops_snoc r]
theorem drops_good {c : KS} (h : KGood c) : ∀ (l m : List Int), c.roots.Perm (l ++ m) → KGood (c.drops l) ∧ (c.drops l).roots.Perm m ∧ ((∃ x, Ring (gOf (c.drops l).outs) x) ↔ ∃ x, Ring (gOf c.outs) x)
  | [], m, hp => ⟨h, hp, Iff.rfl⟩
  | i :: r, m, hp => by
    have hp2 : (c.drop i).roots.Perm (r ++ m) := by
      rw [drop_roots h]
      have := hp.erase i
      rwa [List.cons_append, List.erase_cons_head] at this
    obtain ⟨h1, h2, h3⟩ := drops_good (drop_good h i) r m hp2
    exact ⟨h1, h2, h3.trans (drop_ring h i)⟩
/-- CountEmpty: without roots just what is in rings, or what they come to, is here. -/
theorem good_empty {c : KS} (h : KGood c) (hr : c.roots = []) : (∀ x, c.is x = false) ↔ ∀ x, ¬ Ring (gOf c.outs) x := by
  constructor
  · intro hn x hx
    have := ((ring_held h.good) x hx).1
    have h2 : c.is x = true := this
    rw [hn x] at h2
    cases h2
  · intro hn x
    cases e : c.is x
    · rfl
    · exfalso
      have := good_all h hn e
      rw [hr] at this
      exact Come.least (C := fun _ => False) (fun x hx => by simp at hx) (fun _ _ hx _ => hx) this
end Go.Proofs.YtmibnceadciidaaDoor

/- Lists alone, for chapter 20: nodes go one after another, depth first, and at last none is left that nothing points to. -/
namespace Go.Proofs.YtmibnceadciidaaDoor

/-- What holds between the steps, too. -/
structure KMid (c : KS) : Prop where
  even : c.Even
  few : c.here.length ≤ 12
  roots : c.roots.length ≤ 12
  rows : ∀ r, r ∈ c.outs → r.length ≤ 4
  good : c.abs.Good
theorem KGood.mid {c : KS} (h : KGood c) : KMid c := ⟨h.even, h.few, h.roots, h.rows, h.good⟩
theorem KMid.outs12 {c : KS} (h : KMid c) : c.outs.length ≤ 12 := by rw [h.even]; exact h.few
def KS.heres (c : KS) : Nat := c.here.count true
/-- A node goes. -/
def KS.goes (c : KS) (k : Nat) : KS := ⟨c.outs.set k [], c.roots, c.here.set k false⟩
/-- From c on nodes have gone, and of those here that nothing points to none is new, and none in l. -/
structure Sets (c d : KS) (l : List Int) : Prop where
  mid : KMid d
  len : d.here.length = c.here.length
  roots : d.roots = c.roots
  rems : Rems c.abs d.abs
  heres : d.heres ≤ c.heres
  left : ∀ x, d.is x = true → d.abs.Unp x → c.abs.Unp x ∧ x ∉ l
theorem Sets.refl {c : KS} (h : KMid c) : Sets c c [] := ⟨h, rfl, rfl, .refl, Nat.le_refl _, fun _ _ hu => ⟨hu, by simp⟩⟩
theorem Sets.trans {c d e : KS} {l m : List Int} (h : Sets c d l) (k : Sets d e m) : Sets c e (l ++ m) :=
  ⟨k.mid, k.len.trans h.len, k.roots.trans h.roots, h.rems.trans k.rems, Nat.le_trans k.heres h.heres, fun x hx hu => by
    have h1 := k.left x hx hu
    have h2 := h.left x (k.rems.sub hx) h1.1
    exact ⟨h2.1, fun e => (List.mem_append.1 e).elim h2.2 h1.2⟩⟩
/-- Something points to the node: nothing is done. -/
theorem sets_held {c : KS} (h : KMid c) {x : Int} (hc : c.count x ≠ 0) : Sets c c [x] :=
  ⟨h, rfl, rfl, .refl, Nat.le_refl _, fun y _ hu => ⟨hu, fun e => by
    rw [List.mem_singleton] at e
    subst e
    exact hc (count_zero.2 hu)⟩⟩
theorem goes_visit {c : KS} {k : Nat} (h1 : c.isN k = true) (h2 : c.count (k : Int) = 0) : c.goes k = c.visit k := by
  unfold KS.goes KS.visit
  rw [if_pos (by rw [h1, h2]; rfl)]
theorem row_none {c : KS} (h : KMid c) {k : Nat} (h1 : c.isN k = false) : c.row (k : Int) = [] := by
  have := good_none h.good (x := (k : Int)) (fun e => by
    have e : c.is (k : Int) = true := e
    rw [isN_is, h1] at e; exact Bool.noConfusion e)
  have e : gOf c.outs (k : Int) = [] := this
  rw [← row_g (by omega)]; exact e
theorem set_same {α : Type} {l : List α} {k : Nat} {d : α} (hk : k < l.length) (h : l[k]?.getD d = d) : l.set k d = l := by
  refine List.ext_getElem (by simp) fun i h1 h2 => ?_
  rw [List.getElem_set]
  split
  · rename_i e
    subst e
    rw [List.getElem?_eq_getElem hk, Option.getD_some] at h
    exact h.symm
  · rfl
/-- A node that isn't here stays as it is. -/
theorem goes_none {c : KS} (h : KMid c) {k : Nat} (hk : k < c.here.length) (h1 : c.isN k = false) : c.goes k = c := by
  unfold KS.goes
  have e1 : c.outs.set k [] = c.outs := set_same (by rw [h.even]; exact hk) (by have := row_none h h1; unfold KS.row at this; rwa [Int.toNat_natCast] at this)
  have e2 : c.here.set k false = c.here := set_same hk h1
  rw [e1, e2]
theorem goes_mid {c : KS} (h : KMid c) {k : Nat} (h1 : c.isN k = true) (h2 : c.count (k : Int) = 0) : KMid (c.goes k) := by
  have hv := visit_even h.even k
  have ha := visit_abs h.even k
  have hl := visit_len c k
  rw [goes_visit h1 h2]
  exact ⟨hv.1, by have := h.few; omega, by rw [hl.1]; exact h.roots, hl.2 h.rows, by rw [ha]; exact (visit_rems c.abs (k : Int)).good h.good⟩
theorem goes_heres {c : KS} {k : Nat} (h1 : c.isN k = true) : (c.goes k).heres + 1 = c.heres := by
  unfold KS.goes KS.heres
  unfold KS.isN at h1
  show (c.here.set k false).count true + 1 = c.here.count true
  generalize c.here = l at h1
  clear c
  induction l generalizing k with
  | nil => simp at h1
  | cons a r ih =>
    cases k with
    | zero =>
      simp at h1
      subst h1
      simp
    | succ k =>
      have := ih (k := k) (by simpa using h1)
      rw [List.set_cons_succ, List.count_cons, List.count_cons]
      omega
/-- What is left to look at, when a node has gone: what it pointed to. -/
theorem goes_left {c : KS} (h : KMid c) {k : Nat} (h1 : c.isN k = true) {x : Int} (hx : (c.goes k).is x = true) (hu : (c.goes k).abs.Unp x) : (c.abs.Unp x ∧ x ≠ (k : Int)) ∨ x ∈ c.row (k : Int) := by
  have hkl : k < c.here.length := by
    refine Decidable.byContradiction fun hn => ?_
    unfold KS.isN at h1
    rw [List.getElem?_eq_none (by omega)] at h1
    exact Bool.noConfusion h1
  have hne : x ≠ (k : Int) := ((is_set hkl (c.outs.set k []) x).1 hx).2
  by_cases hr : x ∈ c.row (k : Int)
  · exact .inr hr
  · refine .inl ⟨⟨hu.1, fun y hy => ?_⟩, hne⟩
    have hy : x ∈ gOf c.outs y := hy
    by_cases e : y = (k : Int)
    · rw [e, row_g (by omega)] at hy
      exact hr hy
    · refine hu.2 y ?_
      show x ∈ gOf (c.outs.set k []) y
      rw [gOf_set (by rw [h.even]; exact hkl)]
      simp only [if_neg e]
      exact hy
/-- A node goes, and then what it pointed to is looked at. -/
theorem sets_goes {c d : KS} (h : KMid c) {k : Nat} (hk : k < c.here.length) (h2 : c.count (k : Int) = 0) (hd : Sets (c.goes k) d (c.row (k : Int))) : Sets c d [(k : Int)] := by
  by_cases h1 : c.isN k = true
  · have hg := goes_heres h1
    have hdh := hd.heres
    have hlen : (c.goes k).here.length = c.here.length := by unfold KS.goes; simp
    refine ⟨hd.mid, hd.len.trans hlen, hd.roots, ?_, by omega, fun x hx hu => ?_⟩
    · have hr : Rems c.abs (c.goes k).abs := by rw [goes_visit h1 h2, visit_abs h.even k]; exact visit_rems c.abs (k : Int)
      exact hr.trans hd.rems
    · have h3 := hd.left x hx hu
      rcases goes_left h h1 (hd.rems.sub hx) h3.1 with h4 | h4
      · exact ⟨h4.1, by rw [List.mem_singleton]; exact h4.2⟩
      · exact absurd h4 h3.2
  · have h1 : c.isN k = false := by simpa using h1
    rw [goes_none h hk h1, row_none h h1] at hd
    refine ⟨hd.mid, hd.len, hd.roots, hd.rems, hd.heres, fun x hx hu => ⟨(hd.left x hx hu).1, fun e => ?_⟩⟩
    rw [List.mem_singleton] at e
    have hc : c.is x = true := hd.rems.sub hx
    rw [e, isN_is, h1] at hc
    exact Bool.noConfusion hc
theorem goes_any_mid {c : KS} (h : KMid c) {k : Nat} (hk : k < c.here.length) (h2 : c.count (k : Int) = 0) : KMid (c.goes k) := by
  by_cases h1 : c.isN k = true
  · exact goes_mid h h1 h2
  · rw [goes_none h hk (by simpa using h1)]; exact h
/-- At last nothing is left that nothing points to. -/
theorem sets_swept {c d : KS} {l : List Int} (h : KMid c) (hu : ∀ x, c.is x = true → c.abs.Unp x → x ∈ l) (hd : Sets c d l) : d = c.swept :=
  swept_unique h.even h.few h.good hd.mid.even hd.len hd.rems fun x hx hux => by
    have := hd.left x hx hux
    exact this.2 (hu x (hd.rems.sub hx) this.1)
theorem unroot {c : KS} (h : KGood c) (i : Int) : KMid ⟨c.outs, c.roots.erase i, c.here⟩ ∧ ∀ x, (⟨c.outs, c.roots.erase i, c.here⟩ : KS).is x = true → (⟨c.outs, c.roots.erase i, c.here⟩ : KS).abs.Unp x → x ∈ [i] := by
  refine ⟨⟨h.even, h.few, Nat.le_trans (List.length_erase_le ..) h.roots, h.rows, erase_good h i⟩, fun x hx hu => ?_⟩
  rw [List.mem_singleton]
  refine Decidable.byContradiction fun hne => h.settled x hx ⟨fun hr => hu.1 ?_, hu.2⟩
  exact (List.mem_erase_of_ne hne).2 hr
theorem unlink {c : KS} (h : KGood c) {i : Int} (hi : c.is i = true) (j : Int) : KMid (c.putR i ((c.row i).erase j)) ∧ ∀ x, (c.putR i ((c.row i).erase j)).is x = true → (c.putR i ((c.row i).erase j)).abs.Unp x → x ∈ [j] := by
  refine ⟨⟨put_even h.even _ _, h.few, h.roots, put_rows h.rows (Nat.le_trans (List.length_erase_le ..) (row_len h.rows i)), put_good h.even h.good hi fun y hy => row_here h.good hi y (List.mem_of_mem_erase hy)⟩, fun x hx hu => ?_⟩
  rw [List.mem_singleton]
  refine Decidable.byContradiction fun hne => h.settled x hx ⟨hu.1, fun y hy => hu.2 y ?_⟩
  show x ∈ gOf (c.putR i ((c.row i).erase j)).outs y
  rw [put_outs h.even hi]
  have hy : x ∈ gOf c.outs y := hy
  simp only
  split
  · rename_i e
    rw [e, row_g (is_lt hi).1] at hy
    exact (List.mem_erase_of_ne hne).2 hy
  · exact hy
theorem count_le {c : KS} (h : KMid c) (x : Int) : c.count x ≤ 60 := by
  unfold KS.count
  have h1 : c.roots.count x ≤ 12 := Nat.le_trans List.count_le_length h.roots
  have key : ∀ (L : List (List Int)), (∀ r, r ∈ L → r.length ≤ 4) → (L.map fun r => r.count x).sum ≤ 4 * L.length := by
    intro L
    induction L with
    | nil => simp
    | cons a r ih =>
      intro hL
      have := ih fun q hq => hL q (List.mem_cons_of_mem _ hq)
      have h3 : a.count x ≤ 4 := Nat.le_trans List.count_le_length (hL a List.mem_cons_self)
      rw [List.map_cons, List.sum_cons, List.length_cons]
      omega
  have h2 := key c.outs h.rows
  have h3 := h.outs12
  omega
end Go.Proofs.YtmibnceadciidaaDoor
