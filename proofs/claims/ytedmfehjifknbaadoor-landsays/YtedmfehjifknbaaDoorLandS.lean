/- Lists alone, for chapter 10: the least from store to store, where a store is six bools. -/
import Derived.Test.YtedmfehjifknbaaDoorLists2
import Derived.Test.YtedmfehjifknbaaDoorLLst
namespace Go.Proofs.YtedmfehjifknbaaDoor
set_option maxRecDepth 100000

theorem six_cases {k : Nat} (h : k < 6) : k = 0 ∨ k = 1 ∨ k = 2 ∨ k = 3 ∨ k = 4 ∨ k = 5 := by omega
theorem S6.ext_at {s t : S6} (h : ∀ k, k < 6 → s.at k = t.at k) : s = t := by
  obtain ⟨a, b, c, d, e, f⟩ := s
  obtain ⟨a', b', c', d', e', f'⟩ := t
  have h0 := h 0 (by omega)
  have h1 := h 1 (by omega)
  have h2 := h 2 (by omega)
  have h3 := h 3 (by omega)
  have h4 := h 4 (by omega)
  have h5 := h 5 (by omega)
  simp only [S6.at] at h0 h1 h2 h3 h4 h5
  rw [h0, h1, h2, h3, h4, h5]
theorem S6.at_set (s : S6) {i : Nat} (hi : i < 6) (x : Bool) (k : Nat) : (s.set i x).at k = if k = i then x else s.at k := by
  by_cases hk : k < 6
  · rcases six_cases hi with rfl | rfl | rfl | rfl | rfl | rfl <;> rcases six_cases hk with rfl | rfl | rfl | rfl | rfl | rfl <;> rfl
  · have hne : k ≠ i := by omega
    rw [if_neg hne]
    have e : ∀ t : S6, t.at k = false := fun t => by
      match k, hk with
      | k + 6, _ => rfl
    rw [e, e]
/-- A store as six bools. -/
def ofL (S : List Int) : S6 := ⟨S.contains 0, S.contains 1, S.contains 2, S.contains 3, S.contains 4, S.contains 5⟩
theorem ofL_at (S : List Int) {k : Nat} (hk : k < 6) : (ofL S).at k = S.contains (k : Int) := by
  rcases six_cases hk with rfl | rfl | rfl | rfl | rfl | rfl <;> rfl
theorem ofL_mem {S : List Int} {k : Nat} (hk : k < 6) : (ofL S).at k = true ↔ (k : Int) ∈ S := by rw [ofL_at S hk]; exact List.contains_iff_mem
theorem ofL_out {S : List Int} {k : Nat} (hk : k < 6) : (ofL S).at k = false ↔ (k : Int) ∉ S := by
  rw [← ofL_mem hk]; cases (ofL S).at k <;> simp
theorem ofL_cons (S : List Int) {p : Nat} (hp : p < 6) : ofL ((p : Int) :: S) = (ofL S).set p true := by
  refine S6.ext_at fun k hk => ?_
  rw [S6.at_set _ hp, Bool.eq_iff_iff, ofL_mem hk]
  by_cases e : k = p
  · subst e; simp
  · rw [if_neg e, ofL_mem hk, List.mem_cons]
    constructor
    · rintro (h | h)
      · omega
      · exact h
    · exact .inr
theorem ofL_swap {S : List Int} (hn : S.Nodup) {p q : Nat} (hp : p < 6) (hq : q < 6) (hpq : q ≠ p) : ofL ((p : Int) :: S.erase (q : Int)) = ((ofL S).set p true).set q false := by
  refine S6.ext_at fun k hk => ?_
  rw [S6.at_set _ hq, S6.at_set _ hp, Bool.eq_iff_iff, ofL_mem hk, List.mem_cons, hn.mem_erase_iff]
  by_cases e : k = q
  · subst e
    rw [if_pos rfl]
    simp; omega
  · rw [if_neg e]
    by_cases e2 : k = p
    · subst e2; simp
    · rw [if_neg e2, ofL_mem hk]
      constructor
      · rintro (h | h)
        · omega
        · exact h.2
      · exact fun h => .inr ⟨by omega, h⟩
def belowK (k : Nat) (x : Int) : Bool := decide (0 ≤ x ∧ x < (k : Int))
def isK (k : Nat) (x : Int) : Bool := x == (k : Int)
theorem ofL_to {S : List Int} (hn : S.Nodup) : ∀ k, k ≤ 6 → (ofL S).to k = (S.filter (belowK k)).length
  | 0, _ => by
    have : S.filter (belowK 0) = [] := List.filter_eq_nil_iff.2 fun x _ => by unfold belowK; simp
    rw [this]; rfl
  | k + 1, hk => by
    have ih := ofL_to hn k (by omega)
    rw [S6.to, ih]
    have hlk : k < 6 := by omega
    have hsplit : (S.filter (belowK (k+1))).length = (S.filter (belowK k)).length + (S.filter (isK k)).length := by
      clear ih hn
      induction S with
      | nil => rfl
      | cons x S ih =>
        simp only [List.filter_cons]
        by_cases ha : (0 ≤ x ∧ x < (k : Int))
        · have h1 : belowK (k+1) x = true := decide_eq_true (by omega)
          have h2 : belowK k x = true := decide_eq_true ha
          have h3 : isK k x = false := by unfold isK; simp; omega
          rw [h1, h2, h3]
          simp only [if_true, Bool.false_eq_true, if_false, List.length_cons]; omega
        · have h2 : belowK k x = false := decide_eq_false ha
          by_cases hb : x = (k : Int)
          · have h1 : belowK (k+1) x = true := decide_eq_true (by omega)
            have h3 : isK k x = true := by unfold isK; simpa using hb
            rw [h1, h2, h3]
            simp only [if_true, Bool.false_eq_true, if_false, List.length_cons]; omega
          · have h1 : belowK (k+1) x = false := decide_eq_false (by omega)
            have h3 : isK k x = false := by unfold isK; simpa using hb
            rw [h1, h2, h3]
            simp only [Bool.false_eq_true, if_false]; exact ih
    rw [hsplit]
    congr 1
    have hin : ∀ x, x ∈ S.filter (isK k) ↔ x = (k : Int) ∧ x ∈ S := fun x => by rw [List.mem_filter]; unfold isK; simp [and_comm]
    cases hb : (ofL S).at k with
    | true =>
      have hm := (ofL_mem hlk).1 hb
      have : (S.filter (isK k)).length = [(k : Int)].length := same_length (hn.filter _) (by simp) fun x => by
        rw [hin, List.mem_singleton]
        exact ⟨fun h => h.1, fun h => ⟨h, h ▸ hm⟩⟩
      rw [this]; rfl
    | false =>
      have hm := (ofL_out hlk).1 hb
      have : S.filter (isK k) = [] := List.eq_nil_iff_forall_not_mem.2 fun x hx => by
        obtain ⟨rfl, h⟩ := (hin x).1 hx
        exact hm h
      rw [this]; rfl
theorem ofL_many {S : List Int} (hn : S.Nodup) (h6 : ∀ x, x ∈ S → 0 ≤ x ∧ x < 6) : (ofL S).to 6 = S.length := by
  rw [ofL_to hn 6 (Nat.le_refl _), List.filter_eq_self.2]
  intro x hx
  exact decide_eq_true (h6 x hx)
theorem left_mem {s cm : S6} {co : Fin 1024} {f : Ent} : ∀ {k : Nat}, k ≤ 6 → (f ∈ leftTo s cm co k ↔ ∃ q, q < k ∧ s.at q = true ∧ f = (cm.set q false, co))
  | 0, _ => by simp [leftTo]
  | k + 1, hk => by
    have ih := left_mem (s := s) (cm := cm) (co := co) (f := f) (k := k) (by omega)
    unfold leftTo
    cases hs : s.at k with
    | true =>
      rw [cond_true, List.mem_append, ih, List.mem_singleton]
      constructor
      · rintro (⟨q, hq, r⟩ | rfl)
        · exact ⟨q, by omega, r⟩
        · exact ⟨k, by omega, hs, rfl⟩
      · rintro ⟨q, hq, hq2, r⟩
        by_cases e : q = k
        · subst e; exact .inr r
        · exact .inl ⟨q, by omega, hq2, r⟩
    | false =>
      rw [cond_false, ih]
      constructor
      · rintro ⟨q, hq, r⟩; exact ⟨q, by omega, r⟩
      · rintro ⟨q, hq, hq2, r⟩
        have : q ≠ k := fun e => by subst e; rw [hs] at hq2; cases hq2
        exact ⟨q, by omega, hq2, r⟩

theorem lazy_le {s : Nat} {c : Int → Nat} {l : List Int} (hc : ∀ p, c p ≤ 20) {n : Nat} {S : List Int} {x : Nat} (h : Lazy s c l n S x) : x ≤ 20 * n := by
  induction h with
  | start => exact Nat.le_refl _
  | there _ _ _ ih => omega
  | @room n _ _ _ _ _ _ ih => have := hc (l[n]?.getD 0); omega
  | @goes n _ _ _ _ _ _ _ _ ih => have := hc (l[n]?.getD 0); omega
/-- T tells of each store the least that it can be there at, if it can. -/
def Tab6 (s : Nat) (c : Int → Nat) (l : List Int) (n : Nat) (T : S6 → Option Nat) : Prop :=
  (∀ st x, T st = some x → ∃ S, Lazy s c l n S x ∧ ofL S = st) ∧ ∀ S x, Lazy s c l n S x → ∃ y, T (ofL S) = some y ∧ y ≤ x
theorem tab6_start (s : Nat) (c : Int → Nat) (l : List Int) : Tab6 s c l 0 (oneT S6.none) := by
  refine ⟨fun st x e => ?_, fun S x h => ?_⟩
  · unfold oneT at e
    split at e
    · rename_i h
      subst h
      obtain rfl := Option.some.inj e
      exact ⟨[], .start, rfl⟩
    · cases e
  · cases h
    exact ⟨0, rfl, Nat.le_refl _⟩
theorem tab6_lt {s : Nat} {c : Int → Nat} {l : List Int} (hc : ∀ p, c p ≤ 20) {n : Nat} (hn : n ≤ 40) {T : S6 → Option Nat} (h : Tab6 s c l n T) : ∀ st x, T st = some x → x < 1024 := fun st x e => by
  obtain ⟨S, hS, _⟩ := h.1 st x e
  have := lazy_le hc hS
  omega
theorem tab6_succ {s : Nat} {c : Int → Nat} {l : List Int} (hl : ∀ x, x ∈ l → 0 ≤ x ∧ x < 6) {n : Nat} (hn : n < l.length) {p : Nat} (hp : l[n]?.getD 0 = (p : Int)) {co : Fin 1024} (hco : co.val = c (p : Int)) {T T' : S6 → Option Nat} (h : Tab6 s c l n T)
    (ho : Onto (fun st => behindL st p co s) T T') : Tab6 s c l (n+1) T' := by
  have hin : ∀ {S x}, Lazy s c l n S x → ∀ y, y ∈ S → 0 ≤ y ∧ y < 6 := fun hS y hy => hl y (hS.facts.2.2.2 y hy)
  have hp6 : p < 6 := by
    have := hl (l[n]?.getD 0) (by rw [List.getElem?_eq_getElem hn]; exact List.getElem_mem hn)
    omega
  refine ⟨fun t z e => ?_, fun S' x' h' => ?_⟩
  · obtain ⟨st, y, f, hT, hf, rfl, rfl⟩ := ho.from_ t z e
    obtain ⟨S, hS, rfl⟩ := h.1 st y hT
    have F := hS.facts
    have hmany := ofL_many F.2.1 (hin hS)
    have hf : f ∈ behindL (ofL S) p co s := hf
    unfold behindL at hf
    cases hb : (ofL S).at p with
    | true =>
      rw [hb, cond_true, List.mem_singleton] at hf
      subst hf
      exact ⟨S, .there hS hn (by rw [hp]; exact (ofL_mem hp6).1 hb), rfl⟩
    | false =>
      rw [hb, cond_false] at hf
      have hout : l[n]?.getD 0 ∉ S := by rw [hp]; exact (ofL_out hp6).1 hb
      by_cases hr : (ofL S).to 6 < s
      · rw [if_pos hr, List.mem_singleton] at hf
        subst hf
        refine ⟨_, ?_, ofL_cons S hp6⟩
        have := Lazy.room hS hn hout (by omega)
        rw [hp] at this
        rw [hco]; exact this
      · rw [if_neg hr] at hf
        obtain ⟨q, hq6, hq, rfl⟩ := (left_mem (Nat.le_refl _)).1 hf
        have hqS := (ofL_mem hq6).1 hq
        have hne : q ≠ p := fun e => by subst e; rw [hb] at hq; cases hq
        refine ⟨_, ?_, ofL_swap F.2.1 hp6 hq6 hne⟩
        have := Lazy.goes hS hn hout (by omega) hqS
        rw [hp] at this
        rw [hco]; exact this
  · cases h' with
    | @there _ S x hS _ hin' =>
      obtain ⟨y, hy, hle⟩ := h.2 _ _ hS
      rw [hp] at hin'
      obtain ⟨z, hz, hz2⟩ := ho.all (ofL S') y (ofL S', 0) hy (by show _ ∈ behindL _ _ _ _; unfold behindL; rw [(ofL_mem hp6).2 hin']; simp)
      refine ⟨z, hz, ?_⟩
      simp at hz2; omega
    | @room _ S x hS _ hout hr =>
      have F := hS.facts
      have hmany := ofL_many F.2.1 (hin hS)
      obtain ⟨y, hy, hle⟩ := h.2 _ _ hS
      rw [hp] at hout ⊢
      obtain ⟨z, hz, hz2⟩ := ho.all (ofL S) y ((ofL S).set p true, co) hy (by show _ ∈ behindL _ _ _ _; unfold behindL; rw [(ofL_out hp6).2 hout, cond_false, if_pos (by omega)]; simp)
      refine ⟨z, by rw [ofL_cons S hp6]; exact hz, ?_⟩
      simp only [] at hz2; omega
    | @goes _ S x q hS _ hout hr hq =>
      have F := hS.facts
      have hmany := ofL_many F.2.1 (hin hS)
      obtain ⟨y, hy, hle⟩ := h.2 _ _ hS
      have hq6 := hin hS q hq
      obtain ⟨qn, rfl⟩ : ∃ m : Nat, q = m := ⟨q.toNat, by omega⟩
      rw [hp] at hout ⊢
      have hne : qn ≠ p := fun e => by subst e; exact hout hq
      obtain ⟨z, hz, hz2⟩ := ho.all (ofL S) y (((ofL S).set p true).set qn false, co) hy (by show _ ∈ behindL _ _ _ _; unfold behindL; rw [(ofL_out hp6).2 hout, cond_false, if_neg (by omega)]; exact (left_mem (Nat.le_refl _)).2 ⟨qn, by omega, (ofL_mem (by omega)).2 hq, rfl⟩)
      refine ⟨z, by rw [ofL_swap F.2.1 hp6 (by omega) hne]; exact hz, ?_⟩
      simp only [] at hz2; omega
theorem tab6_some {s : Nat} (hs : 1 ≤ s) {c : Int → Nat} {l : List Int} {n : Nat} (hn : n ≤ l.length) {T : S6 → Option Nat} (h : Tab6 s c l n T) : ∃ st x, T st = some x := by
  obtain ⟨S, x, hS⟩ := can_some hs c l n hn
  obtain ⟨y, hy, _⟩ := h.2 S x hS
  exact ⟨_, y, hy⟩
theorem tab6_least {s : Nat} {c : Int → Nat} {l : List Int} {T : S6 → Option Nat} (h : Tab6 s c l l.length T) {x : Nat} (hx : LeastT T x) : IsLeast s c l x := by
  obtain ⟨st, hst⟩ := hx.got
  obtain ⟨S, hS, _⟩ := h.1 st x hst
  refine least_lazy ⟨S, hS⟩ fun S' y hy => ?_
  obtain ⟨z, hz, hle⟩ := h.2 S' y hy
  have := hx.all _ z hz
  omega
end Go.Proofs.YtedmfehjifknbaaDoor
