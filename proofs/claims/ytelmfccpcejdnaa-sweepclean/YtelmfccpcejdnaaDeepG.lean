/- Lists alone, for chapter 18: as deep as may be: in which order nodes are marked. -/
import Derived.Test.YtelmfccpcejdnaaGraphL
namespace Go.Proofs.Ytelmfccpcejdnaa

/-- Those of a list are come to one by one, behind those marked so far. -/
inductive Deep (g : Int → List Int) : List Int → List Int → List Int → Prop
  | nil {A : List Int} : Deep g A [] A
  | seen {A l C : List Int} {x : Int} : x ∈ A → Deep g A l C → Deep g A (x :: l) C
  | mark {A l B C : List Int} {x : Int} : x ∉ A → Deep g (A ++ [x]) (g x) B → Deep g B l C → Deep g A (x :: l) C
theorem Deep.append {g : Int → List Int} {A l B m C : List Int} (h1 : Deep g A l B) (h2 : Deep g B m C) : Deep g A (l ++ m) C := by
  induction h1 with
  | nil => exact h2
  | seen hx _ ih => exact .seen hx (ih h2)
  | mark hx h3 _ _ ih2 => exact .mark hx h3 (ih2 h2)
theorem Deep.split {g : Int → List Int} : ∀ {l m A C : List Int}, Deep g A (l ++ m) C → ∃ B, Deep g A l B ∧ Deep g B m C
  | [], m, A, C, h => ⟨A, .nil, h⟩
  | x :: l, m, A, C, h => by
    cases h with
    | seen hx h =>
      obtain ⟨B, h1, h2⟩ := Deep.split h
      exact ⟨B, .seen hx h1, h2⟩
    | mark hx h3 h =>
      obtain ⟨B, h1, h2⟩ := Deep.split h
      exact ⟨B, .mark hx h3 h1, h2⟩
/-- With a pile: what a node points to is put on top. -/
theorem Deep.push {g : Int → List Int} {A l C : List Int} {x : Int} (hx : x ∉ A) : Deep g A (x :: l) C ↔ Deep g (A ++ [x]) (g x ++ l) C := by
  constructor
  · intro h
    cases h with
    | seen h _ => exact absurd h hx
    | mark _ h1 h2 => exact h1.append h2
  · intro h
    obtain ⟨B, h1, h2⟩ := h.split
    exact .mark hx h1 h2
theorem Deep.pop {g : Int → List Int} {A l C : List Int} {x : Int} (hx : x ∈ A) : Deep g A (x :: l) C ↔ Deep g A l C := by
  constructor
  · intro h
    cases h with
    | seen _ h => exact h
    | mark h _ _ => exact absurd hx h
  · exact .seen hx
theorem Deep.det {g : Int → List Int} {A l B : List Int} (h : Deep g A l B) : ∀ {C : List Int}, Deep g A l C → B = C := by
  induction h with
  | nil => intro C h; cases h; rfl
  | seen hx _ ih => intro C h; exact ih ((Deep.pop hx).1 h)
  | mark hx _ _ ih1 ih2 =>
    intro C h
    cases h with
    | seen h _ => exact absurd h hx
    | mark _ h1 h2 =>
      have := ih1 h1
      subst this
      exact ih2 h2
theorem Deep.one {g : Int → List Int} {A l C : List Int} {x : Int} : Deep g A (x :: l) C ↔ ∃ B, Deep g A [x] B ∧ Deep g B l C := by
  rw [show x :: l = [x] ++ l from rfl]
  exact ⟨Deep.split, fun ⟨_, h1, h2⟩ => h1.append h2⟩
/-- What marking does. -/
structure Marked (g : Int → List Int) (A l B N : List Int) : Prop where
  eq : B = A ++ N
  nodup : A.Nodup → B.Nodup
  all : ∀ x, x ∈ l → x ∈ B
  come : ∀ x, x ∈ N → Come g l x
  outs : ∀ x, x ∈ N → ∀ y, y ∈ g x → y ∈ B
theorem Deep.marked {g : Int → List Int} {A l B : List Int} (h : Deep g A l B) : ∃ N, Marked g A l B N := by
  induction h with
  | nil => exact ⟨[], by simp, id, by simp, by simp, by simp⟩
  | @seen A l C x hx _ ih =>
    obtain ⟨N, h1, h2, h3, h4, h5⟩ := ih
    refine ⟨N, h1, h2, fun y hy => ?_, fun y hy => (h4 y hy).mono fun z hz => by simp [hz], h5⟩
    rcases List.mem_cons.1 hy with rfl | hy
    · rw [h1]; exact List.mem_append_left _ hx
    · exact h3 y hy
  | @mark A l B C x hx _ _ ih1 ih2 =>
    obtain ⟨N1, a1, a2, a3, a4, a5⟩ := ih1
    obtain ⟨N2, b1, b2, b3, b4, b5⟩ := ih2
    have hBC : ∀ y, y ∈ B → y ∈ C := fun y hy => by rw [b1]; exact List.mem_append_left _ hy
    have hxB : x ∈ B := by rw [a1]; simp
    refine ⟨x :: N1 ++ N2, by rw [b1, a1]; simp, fun hn => b2 (a2 ?_), fun y hy => ?_, fun y hy => ?_, fun y hy z hz => ?_⟩
    · refine List.nodup_append.2 ⟨hn, by simp, fun a ha b hb => ?_⟩
      rw [List.mem_singleton] at hb
      rintro rfl
      exact hx (hb ▸ ha)
    · rcases List.mem_cons.1 hy with rfl | hy
      · exact hBC _ hxB
      · exact b3 y hy
    · rcases List.mem_append.1 hy with hy | hy
      · rcases List.mem_cons.1 hy with rfl | hy
        · exact .root (by simp)
        · exact (a4 y hy).trans fun z hz => .step (.root (by simp)) hz
      · exact (b4 y hy).mono fun z hz => by simp [hz]
    · rcases List.mem_append.1 hy with hy | hy
      · rcases List.mem_cons.1 hy with rfl | hy
        · exact hBC z (a3 z hz)
        · exact hBC z (a5 y hy z hz)
      · exact b5 y hy z hz
/-- McCarthy: just what can be come to is marked, each once. -/
theorem Deep.reach {g : Int → List Int} {R B : List Int} (h : Deep g [] R B) : B.Nodup ∧ ∀ x, x ∈ B ↔ Come g R x := by
  obtain ⟨N, h1, h2, h3, h4, h5⟩ := h.marked
  rw [List.nil_append] at h1
  subst h1
  exact ⟨h2 (by simp), fun x => ⟨h4 x, fun hx => Come.least (C := fun x => x ∈ B) h3 (fun u y hu hy => h5 u hu y hy) hx⟩⟩
/-- How many nodes are not marked yet. -/
def unmarked (U A : List Int) : Nat := (U.filter fun x => !A.contains x).length
theorem unmarked_less {U A : List Int} {x : Int} (hU : U.Nodup) (hx : x ∈ U) (hA : x ∉ A) : unmarked U (A ++ [x]) + 1 ≤ unmarked U A := by
  unfold unmarked
  have hm : x ∈ U.filter fun x => !A.contains x := List.mem_filter.2 ⟨hx, by simpa using hA⟩
  have := length_le_of_subset (B := (U.filter fun x => !A.contains x).erase x) (hU.filter fun y => !(A ++ [x]).contains y) fun p hp => by
    have hp := List.mem_filter.1 hp
    have h2 : p ∉ A ++ [x] := by simpa using hp.2
    have hne : p ≠ x := fun e => h2 (by simp [e])
    rw [List.mem_erase_of_ne hne]
    exact List.mem_filter.2 ⟨hp.1, by simpa using fun h => h2 (List.mem_append_left _ h)⟩
  rw [List.length_erase_of_mem hm] at this
  have := List.length_pos_of_mem hm
  omega
/-- It comes to an end. -/
theorem deep_total {g : Int → List Int} {U : List Int} (hU : U.Nodup) (hg : ∀ x, x ∈ U → ∀ y, y ∈ g x → y ∈ U) : ∀ (n : Nat) (A l : List Int), unmarked U A ≤ n → (∀ x, x ∈ l → x ∈ U) → ∃ B, Deep g A l B
  | n, A, [], _, _ => ⟨A, .nil⟩
  | n, A, x :: l, hn, hl => by
    by_cases hx : x ∈ A
    · obtain ⟨B, hB⟩ := deep_total hU hg n A l hn fun y hy => hl y (by simp [hy])
      exact ⟨B, .seen hx hB⟩
    · have hxU := hl x (by simp)
      have hless := unmarked_less hU hxU hx
      match n, hn with
      | 0, hn => omega
      | n + 1, hn =>
        obtain ⟨B, hB⟩ := deep_total hU hg n (A ++ [x]) (g x ++ l) (by omega) fun y hy => by
          rcases List.mem_append.1 hy with h | h
          · exact hg x hxU y h
          · exact hl y (by simp [h])
        exact ⟨B, (Deep.push hx).2 hB⟩
end Go.Proofs.Ytelmfccpcejdnaa
