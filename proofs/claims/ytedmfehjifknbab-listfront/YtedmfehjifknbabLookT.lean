/- Lists alone, for chapter 11: pairs the other way round, counted place by place; the least from row to row. -/
import Derived.Test.YtedmfehjifknbabListL
namespace Go.Proofs.Ytedmfehjifknbab

theorem sumOn_swap {q : Int → Int → Bool} (A B : List Int) : sumOn (fun x => many (fun y => q x y) B) A = sumOn (fun y => many (fun x => q x y) A) B := by
  induction A with
  | nil =>
    have : sumOn (fun y => many (fun x => q x y) ([] : List Int)) B = sumOn (fun _ => 0) B := sumOn_congr fun y _ => rfl
    rw [this]
    have := sumOn_mul (fun _ => 0) 0 B
    simpa [sumOn] using this.symm
  | cons a A ih =>
    rw [sumOn, ih, ← sumOn_ones, ← sumOn_add]
    exact sumOn_congr fun y _ => (many_cons (fun x => q x y) a A).symm
/-- How many pairs stand the other way round, of the first k of a row. -/
def swp (A B : List Int) : Nat → Nat
  | 0 => 0
  | k + 1 => swp A B k + many (fun x => ahd B (A[k]?.getD 0) x) (A.take k)
theorem swp_sum (A B : List Int) : ∀ k, k ≤ A.length → swp A B k = sumOn (fun y => many (fun x => ahd B y x) (A.take (pos A y))) (A.take k) ∨ ¬ A.Nodup
  | 0, _ => .inl (by simp [swp, sumOn])
  | k + 1, hk => by
    rcases swp_sum A B k (by omega) with h | h
    · by_cases hn : A.Nodup
      · left
        have hl : k < A.length := by omega
        rw [List.take_succ_eq_append_getElem hl, sumOn_append, swp, h, sumOn, sumOn, Nat.add_zero]
        have hp : pos A A[k] = k := by
          have h1 := get_pos (List.getElem_mem hl)
          exact (List.getElem?_inj (pos_lt (List.getElem_mem hl)) hn).1 (by rw [h1, List.getElem?_eq_getElem hl])
        rw [hp, List.getElem?_eq_getElem hl, Option.getD_some]
      · exact .inr hn
    · exact .inr h
theorem mem_ahead {A : List Int} (hn : A.Nodup) {x y : Int} (hx : x ∈ A) : x ∈ A.take (pos A y) ↔ ahd A x y = true := by
  unfold ahd
  rw [decide_eq_true_iff]
  constructor
  · intro h
    obtain ⟨n, hn2, e⟩ := List.mem_iff_getElem.1 h
    rw [List.length_take] at hn2
    rw [List.getElem_take] at e
    have h1 : A[pos A x]? = A[n]? := by rw [get_pos hx, ← e, List.getElem?_eq_getElem (by omega)]
    have h2 : pos A x = n := (List.getElem?_inj (pos_lt hx) hn).1 h1
    omega
  · intro h
    have := get_pos hx
    rw [← List.getElem?_take_of_lt h] at this
    exact List.mem_of_getElem? this
/-- Place by place, or pair by pair: it is the same. -/
theorem swp_turn {U A B : List Int} (hU : U.Nodup) (hA : Row U A) : swp A B A.length = turn2 U A B := by
  have h1 := (swp_sum A B A.length (Nat.le_refl _)).resolve_right fun h => h hA.nd
  rw [h1, List.take_length]
  unfold turn2
  rw [sumOn_swap, sumOn_same hU hA.nd fun y => (hA.mem y).symm]
  refine sumOn_congr fun y hy => ?_
  unfold many
  refine same_length ((hA.nd.sublist (List.take_sublist _ _)).filter _) (hU.filter _) fun x => ?_
  rw [List.mem_filter, List.mem_filter, Bool.and_eq_true]
  constructor
  · rintro ⟨h, hb⟩
    have hx := List.mem_of_mem_take h
    exact ⟨(hA.mem x).1 hx, (mem_ahead hA.nd hx).1 h, hb⟩
  · rintro ⟨h, ha, hb⟩
    exact ⟨(mem_ahead hA.nd ((hA.mem x).2 h)).2 ha, hb⟩

/-- T tells of each row the least that it can be come to at. -/
def LTab (U l : List Int) (n : Nat) (T : List Int → Option Nat) : Prop :=
  (∀ B x, T B = some x → Looks U l n B x) ∧ ∀ B x, Looks U l n B x → ∃ y, T B = some y ∧ y ≤ x
theorem ltab_start {U l : List Int} {T : List Int → Option Nat} (h0 : T U = some 0) (h : ∀ B, B ≠ U → T B = none) : LTab U l 0 T := by
  refine ⟨fun B x e => ?_, fun B x e => ?_⟩
  · by_cases hB : B = U
    · subst hB
      rw [h0] at e
      rw [← Option.some.inj e]; exact .start
    · rw [h B hB] at e; cases e
  · cases e
    exact ⟨0, h0, Nat.le_refl _⟩
theorem ltab_succ {U l : List Int} {n : Nat} (hn : n < l.length) {T T' : List Int → Option Nat} (h : LTab U l n T)
    (h1 : ∀ C z, T' C = some z → ∃ B y M, T B = some y ∧ Row U M ∧ Row U C ∧ Forward M C (l[n]?.getD 0) ∧ z = y + turn2 U B M + pos M (l[n]?.getD 0) + 1)
    (h2 : ∀ B y M C, T B = some y → Row U M → Row U C → Forward M C (l[n]?.getD 0) → ∃ z, T' C = some z ∧ z ≤ y + turn2 U B M + pos M (l[n]?.getD 0) + 1) : LTab U l (n+1) T' := by
  refine ⟨fun C z e => ?_, fun C z e => ?_⟩
  · obtain ⟨B, y, M, hB, hM, hC, hf, rfl⟩ := h1 C z e
    exact .look (h.1 B y hB) hn hM hC hf
  · cases e with
    | @look _ B y M _ hB _ hM hC hf =>
      obtain ⟨y', hy, hle⟩ := h.2 B y hB
      obtain ⟨z, hz, hz2⟩ := h2 B y' M C hy hM hC hf
      exact ⟨z, hz, by omega⟩
theorem ltab_least {U l : List Int} {T : List Int → Option Nat} (h : LTab U l l.length T) {x : Nat} (h1 : ∃ B, T B = some x) (h2 : ∀ B y, T B = some y → x ≤ y) : LeastLook U l x := by
  obtain ⟨B, hB⟩ := h1
  refine ⟨⟨B, h.1 B x hB⟩, fun C y hy => ?_⟩
  obtain ⟨z, hz, hle⟩ := h.2 C y hy
  have := h2 C z hz
  omega
end Go.Proofs.Ytedmfehjifknbab
