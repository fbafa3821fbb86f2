/- Offers to a table, one after another: what the table tells behind them; what a step of a table is, in numbers. -/
import Derived.Test.YtnjfmlojbaigjaaDoorPAll
namespace Go.Proofs.YtnjfmlojbaigjaaDoor
namespace Pl
set_option maxRecDepth 100000

/-- T tells of each state the least that was offered. -/
def Made (os : List (P3 × Nat)) (T : P3 → Option Nat) : Prop := (∀ t z, T t = some z → (t, z) ∈ os) ∧ ∀ t z, (t, z) ∈ os → ∃ y, T t = some y ∧ y ≤ z
theorem made_none : Made [] (fun _ => none) := ⟨fun _ _ h => (by cases h), fun _ _ h => (by cases h)⟩
theorem made_offer {os : List (P3 × Nat)} {T : P3 → Option Nat} (h : Made os T) (s : P3) (x : Nat) : Made (os ++ [(s, x)]) (offerT T s x) := by
  refine ⟨fun t z e => ?_, fun t z e => ?_⟩
  · unfold offerT at e
    by_cases ht : t = s
    · subst ht
      rw [if_pos rfl] at e
      cases hT : T t with
      | none => rw [hT] at e; simp at e; subst e; simp
      | some y =>
        rw [hT] at e
        simp only [] at e
        split at e
        · simp at e; subst e; simp
        · simp at e; subst e; exact List.mem_append.2 (.inl (h.1 t _ hT))
    · rw [if_neg ht] at e
      exact List.mem_append.2 (.inl (h.1 t z e))
  · unfold offerT
    rcases List.mem_append.1 e with e | e
    · obtain ⟨y, hy, hle⟩ := h.2 t z e
      by_cases ht : t = s
      · subst ht
        rw [if_pos rfl, hy]
        simp only []
        split
        · exact ⟨x, rfl, by omega⟩
        · exact ⟨y, rfl, hle⟩
      · rw [if_neg ht]; exact ⟨y, hy, hle⟩
    · simp at e
      obtain ⟨rfl, rfl⟩ := e
      rw [if_pos rfl]
      cases hT : T t with
      | none => exact ⟨z, rfl, Nat.le_refl _⟩
      | some y =>
        simp only []
        split
        · exact ⟨z, rfl, Nat.le_refl _⟩
        · exact ⟨y, rfl, by omega⟩
/-- What is offered from one state on. -/
def off1 (y : Nat) (l : List Ent) : List (P3 × Nat) := l.map fun e => (e.1, y + e.2.val)
theorem off1_snoc (y : Nat) (l : List Ent) (e : Ent) : off1 y (l ++ [e]) = off1 y l ++ [(e.1, y + e.2.val)] := by simp [off1]
/-- What is offered from all states that came. -/
def offs (nx : P3 → List Ent) : List Ent → List (P3 × Nat)
  | [] => []
  | e :: l => off1 e.2.val (nx e.1) ++ offs nx l
theorem offs_snoc (nx : P3 → List Ent) (e : Ent) : ∀ l, offs nx (l ++ [e]) = offs nx l ++ off1 e.2.val (nx e.1)
  | [] => by simp [offs]
  | x :: l => by rw [List.cons_append, offs, offs, offs_snoc nx e l, List.append_assoc]
theorem offs_mem {nx : P3 → List Ent} {t : P3} {z : Nat} : ∀ {l : List Ent}, (t, z) ∈ offs nx l ↔ ∃ e, e ∈ l ∧ ∃ f, f ∈ nx e.1 ∧ f.1 = t ∧ z = e.2.val + f.2.val
  | [] => by simp [offs]
  | x :: l => by
    rw [offs, List.mem_append, offs_mem (l := l)]
    constructor
    · rintro (h | ⟨e, he, r⟩)
      · obtain ⟨f, hf, e⟩ := List.mem_map.1 h
        obtain ⟨rfl, rfl⟩ := Prod.mk.inj e
        exact ⟨x, List.mem_cons_self, f, hf, rfl, rfl⟩
      · exact ⟨e, List.mem_cons_of_mem _ he, r⟩
    · rintro ⟨e, he, f, hf, rfl, rfl⟩
      rcases List.mem_cons.1 he with rfl | he
      · exact .inl (List.mem_map.2 ⟨f, hf, rfl⟩)
      · exact .inr ⟨e, he, f, hf, rfl, rfl⟩
/-- T' is T one step on. -/
structure Onto (nx : P3 → List Ent) (T T' : P3 → Option Nat) : Prop where
  from_ : ∀ t z, T' t = some z → ∃ s y f, T s = some y ∧ f ∈ nx s ∧ f.1 = t ∧ z = y + f.2.val
  all : ∀ s y f, T s = some y → f ∈ nx s → ∃ z, T' f.1 = some z ∧ z ≤ y + f.2.val
theorem onto_of {nx : P3 → List Ent} {T T' : P3 → Option Nat} {ps : List Ent} (hT1 : ∀ s x, T s = some x → x < 1024) (ha : AllOf T ps) (hm : Made (offs nx ps) T') : Onto nx T T' := by
  refine ⟨fun t z h => ?_, fun s y f hs hf => ?_⟩
  · obtain ⟨e, he, f, hf, e1, e2⟩ := offs_mem.1 (hm.1 t z h)
    exact ⟨e.1, e.2.val, f, (ha e.1 e.2).1 he, hf, e1, e2⟩
  · have hy := hT1 s y hs
    exact hm.2 f.1 _ (offs_mem.2 ⟨(s, ⟨y, hy⟩), (ha s ⟨y, hy⟩).2 hs, f, hf, rfl, rfl⟩)
end Pl
end Go.Proofs.YtnjfmlojbaigjaaDoor
