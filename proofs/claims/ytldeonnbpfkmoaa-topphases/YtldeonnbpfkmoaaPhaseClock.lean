/- Lists alone, for chapter 8: by marks, too, what came in a part of few pages is there: the slots from the hand on, as a queue. -/
import Derived.Test.YtldeonnbpfkmoaaPhaseL
import Derived.Test.YtldeonnbpfkmoaaHands
namespace Go.Proofs.Ytldeonnbpfkmoaa

def qu (t : List Slot) (h : Nat) : List Slot := t.drop h ++ t.take h
theorem qu_zero (t : List Slot) : qu t 0 = t := by simp [qu]
theorem qu_head {t : List Slot} {h : Nat} (hh : h < t.length) : qu t h = slotAt t h :: (t.drop (h+1) ++ t.take h) := by
  unfold qu
  rw [List.drop_eq_getElem_cons hh, slotAt_lt hh]; rfl
theorem qu_next {t : List Slot} {h : Nat} (hh : h < t.length) (x : Slot) : qu (t.set h x) ((h + 1) % t.length) = (t.drop (h+1) ++ t.take h) ++ [x] := by
  unfold qu
  by_cases he : h + 1 = t.length
  · rw [he, Nat.mod_self, List.drop_zero, List.take_zero, List.append_nil, List.drop_of_length_le (Nat.le_refl _), List.nil_append]
    apply List.ext_getElem?
    intro j
    rw [List.getElem?_set, List.getElem?_append, List.length_take, Nat.min_eq_left (by omega)]
    by_cases h1 : h = j
    · subst h1
      rw [if_pos rfl, if_pos hh, if_neg (by omega), Nat.sub_self]; rfl
    · rw [if_neg h1]
      by_cases h2 : j < h
      · rw [if_pos h2, List.getElem?_take_of_lt h2]
      · rw [if_neg h2, List.getElem?_eq_none (by omega), List.getElem?_eq_none (by simp; omega)]
  · rw [Nat.mod_eq_of_lt (by omega), List.drop_set_of_lt (by omega), List.append_assoc]
    congr 1
    rw [List.take_succ_eq_append_getElem (by rw [List.length_set]; exact hh), List.getElem_set_self, List.take_set_of_le (Nat.le_refl _)]
theorem qu_mem {t : List Slot} {h : Nat} {x : Slot} : x ∈ qu t h ↔ x ∈ t := by
  unfold qu
  rw [List.mem_append, or_comm, ← List.mem_append, List.take_append_drop]
theorem qu_length {t : List Slot} {h : Nat} (hh : h ≤ t.length) : (qu t h).length = t.length := by
  unfold qu; rw [List.length_append, List.length_drop, List.length_take]; omega
theorem qu_nodup {t : List Slot} (h : Nat) (hn : (pagesOf t).Nodup) : (pagesOf (qu t h)).Nodup := by
  unfold pagesOf qu at *
  rw [List.map_append, List.map_drop, List.map_take]
  have hp : (List.drop h (List.map (·.1) t) ++ List.take h (List.map (·.1) t)).Perm (List.map (·.1) t) := by
    have := List.perm_append_comm (l₁ := List.drop h (List.map (·.1) t)) (l₂ := List.take h (List.map (·.1) t))
    rwa [List.take_append_drop] at this
  exact hp.nodup_iff.2 hn

/-- A page that came has behind it only what was asked for since, if it has a mark; and when it was passed all behind it was. -/
def Stay (p : Int) (A : Int → Prop) (Q : List Slot) : Prop :=
  ∃ Y m Z, Q = Y ++ (p, m) :: Z ∧ ((m = true ∧ ∀ z, z ∈ Z → z.2 = true → A z.1) ∨ ((∀ y, y ∈ Y → y.2 = true → A y.1) ∧ ∀ z, z ∈ Z → A z.1))
theorem Stay.mono {p : Int} {A B : Int → Prop} {Q : List Slot} (h : Stay p A Q) (hAB : ∀ x, A x → B x) : Stay p B Q := by
  obtain ⟨Y, m, Z, h1, h2⟩ := h
  refine ⟨Y, m, Z, h1, ?_⟩
  rcases h2 with ⟨a, b⟩ | ⟨a, b⟩
  · exact .inl ⟨a, fun z hz hm => hAB _ (b z hz hm)⟩
  · exact .inr ⟨fun y hy hm => hAB _ (a y hy hm), fun z hz => hAB _ (b z hz)⟩
theorem Stay.new {p : Int} (A : Int → Prop) (R : List Slot) : Stay p A (R ++ [(p, true)]) := ⟨R, true, [], rfl, .inl ⟨rfl, fun z hz => by simp at hz⟩⟩
theorem Stay.mem {p : Int} {A : Int → Prop} {Q : List Slot} (h : Stay p A Q) : p ∈ pagesOf Q := by
  obtain ⟨Y, m, Z, h1, _⟩ := h
  subst h1
  unfold pagesOf
  rw [List.map_append, List.map_cons]; simp
/-- The hand passes a mark. -/
theorem Stay.pass {p : Int} {A : Int → Prop} {x : Slot} {R : List Slot} (h : Stay p A (x :: R)) (hx : x.2 = true) : Stay p A (R ++ [(x.1, false)]) := by
  obtain ⟨Y, m, Z, h1, h2⟩ := h
  cases Y with
  | nil =>
    simp only [List.nil_append, List.cons.injEq] at h1
    obtain ⟨rfl, rfl⟩ := h1
    refine ⟨R, false, [], rfl, .inr ⟨fun y hy hm => ?_, fun z hz => by simp at hz⟩⟩
    rcases h2 with ⟨_, b⟩ | ⟨_, b⟩
    · exact b y hy hm
    · exact b y hy
  | cons y Y =>
    simp only [List.cons_append, List.cons.injEq] at h1
    obtain ⟨rfl, rfl⟩ := h1
    refine ⟨Y, m, Z ++ [(x.1, false)], by simp, ?_⟩
    rcases h2 with ⟨a, b⟩ | ⟨a, b⟩
    · refine .inl ⟨a, fun z hz hm => ?_⟩
      rcases List.mem_append.1 hz with hz | hz
      · exact b z hz hm
      · rw [List.mem_singleton.1 hz] at hm; cases hm
    · refine .inr ⟨fun y hy => a y (List.mem_cons_of_mem _ hy), fun z hz => ?_⟩
      rcases List.mem_append.1 hz with hz | hz
      · exact b z hz
      · rw [List.mem_singleton.1 hz]; exact a x (by simp) hx
/-- Who comes in the first one's place. -/
theorem Stay.swap {p q : Int} {A : Int → Prop} {x : Slot} {R : List Slot} (h : Stay p A (x :: R)) (hx : x.2 = false) (hq : A q) : Stay p A (R ++ [(q, true)]) ∨ (x.1 = p ∧ ∀ z, z ∈ R → A z.1) := by
  obtain ⟨Y, m, Z, h1, h2⟩ := h
  cases Y with
  | nil =>
    simp only [List.nil_append, List.cons.injEq] at h1
    obtain ⟨rfl, rfl⟩ := h1
    refine .inr ⟨rfl, ?_⟩
    rcases h2 with ⟨a, _⟩ | ⟨_, b⟩
    · rw [a] at hx; cases hx
    · exact b
  | cons y Y =>
    simp only [List.cons_append, List.cons.injEq] at h1
    obtain ⟨rfl, rfl⟩ := h1
    refine .inl ⟨Y, m, Z ++ [(q, true)], by simp, ?_⟩
    rcases h2 with ⟨a, b⟩ | ⟨a, b⟩
    · refine .inl ⟨a, fun z hz hm => ?_⟩
      rcases List.mem_append.1 hz with hz | hz
      · exact b z hz hm
      · rw [List.mem_singleton.1 hz]; exact hq
    · refine .inr ⟨fun y hy => a y (List.mem_cons_of_mem _ hy), fun z hz => ?_⟩
      rcases List.mem_append.1 hz with hz | hz
      · exact b z hz
      · rw [List.mem_singleton.1 hz]; exact hq
theorem Stay.more {p q : Int} {A : Int → Prop} {Q : List Slot} (h : Stay p A Q) (hq : A q) : Stay p A (Q ++ [(q, true)]) := by
  obtain ⟨Y, m, Z, h1, h2⟩ := h
  subst h1
  refine ⟨Y, m, Z ++ [(q, true)], by simp, ?_⟩
  rcases h2 with ⟨a, b⟩ | ⟨a, b⟩
  · refine .inl ⟨a, fun z hz hm => ?_⟩
    rcases List.mem_append.1 hz with hz | hz
    · exact b z hz hm
    · rw [List.mem_singleton.1 hz]; exact hq
  · refine .inr ⟨a, fun z hz => ?_⟩
    rcases List.mem_append.1 hz with hz | hz
    · exact b z hz
    · rw [List.mem_singleton.1 hz]; exact hq

/-- A mark is set. -/
def marked (q : Int) (x : Slot) : Slot := if x.1 = q then (x.1, true) else x
theorem marked_page (q : Int) (x : Slot) : (marked q x).1 = x.1 := by unfold marked; split <;> rfl
theorem mark_map {t : List Slot} {q : Int} (hn : (pagesOf t).Nodup) (hq : (pagesOf t).contains q = true) : markPage t q = t.map (marked q) := by
  obtain ⟨h1, h2⟩ := find_lt hq
  unfold markPage
  generalize hi : (t.findIdx fun x => x.1 == q) = i at *
  apply List.ext_getElem?
  intro j
  rw [List.getElem?_set, List.getElem?_map]
  by_cases hij : i = j
  · subst hij
    rw [if_pos rfl, if_pos h1, List.getElem?_eq_getElem h1]
    rw [slotAt_lt h1] at h2
    simp only [Option.map_some]
    unfold marked
    rw [if_pos h2, h2]
  · rw [if_neg hij]
    by_cases hj : j < t.length
    · rw [List.getElem?_eq_getElem hj]
      simp only [Option.map_some]
      unfold marked
      rw [if_neg]
      intro e
      rw [slotAt_lt h1] at h2
      unfold pagesOf at hn
      rw [List.nodup_iff_pairwise_ne, List.pairwise_iff_getElem] at hn
      rcases Nat.lt_or_gt_of_ne hij with h | h
      · exact hn i j (by simpa using h1) (by simpa using hj) h (by simp [h2, e])
      · exact hn j i (by simpa using hj) (by simpa using h1) h (by simp [h2, e])
    · rw [List.getElem?_eq_none (by omega)]; rfl
theorem qu_map (t : List Slot) (h : Nat) (g : Slot → Slot) : qu (t.map g) h = (qu t h).map g := by
  unfold qu; rw [List.map_append, List.map_drop, List.map_take]
theorem Stay.mark {p q : Int} {A : Int → Prop} {Q : List Slot} (h : Stay p A Q) (hq : A q) : Stay p A (Q.map (marked q)) := by
  obtain ⟨Y, m, Z, h1, h2⟩ := h
  subst h1
  have hz : ∀ x : Slot, (x.2 = true → A x.1) → (marked q x).2 = true → A (marked q x).1 := by
    intro x hx
    unfold marked
    split
    · rename_i e
      intro _
      rw [e]; exact hq
    · exact hx
  refine ⟨Y.map (marked q), (marked q (p, m)).2, Z.map (marked q), ?_, ?_⟩
  · rw [List.map_append, List.map_cons]
    congr 2
    exact Prod.ext (marked_page q (p, m)) rfl
  · rcases h2 with ⟨a, b⟩ | ⟨a, b⟩
    · refine .inl ⟨by unfold marked; split <;> simp [a], fun z hm => ?_⟩
      obtain ⟨x, hx, rfl⟩ := List.mem_map.1 hm
      exact hz x (b x hx)
    · refine .inr ⟨fun y hm => ?_, fun z hm => ?_⟩
      · obtain ⟨x, hx, rfl⟩ := List.mem_map.1 hm
        exact hz x (a x hx)
      · obtain ⟨x, hx, rfl⟩ := List.mem_map.1 hm
        rw [marked_page]; exact b x hx

/-- The hand goes on. -/
theorem Stay.sweep {p : Int} {A : Int → Prop} : ∀ (f : Nat) (t : List Slot) (h : Nat), h < t.length → Stay p A (qu t h) → Stay p A (qu (sweep f t h).1 (sweep f t h).2)
  | 0, _, _, _, hS => hS
  | f + 1, t, h, hh, hS => by
    cases hm : (slotAt t h).2
    · rw [sweep_end hm]; exact hS
    · rw [sweep_on hm]
      have h2 := Stay.sweep (p := p) (A := A) f (t.set h ((slotAt t h).1, false)) ((h + 1) % t.length) (by rw [List.length_set]; exact Nat.mod_lt _ (by omega))
      refine h2 ?_
      rw [qu_next hh]
      rw [qu_head hh] at hS
      exact hS.pass hm
theorem turned_qu {t : List Slot} {h : Nat} (hh : h < t.length) (q : Int) : ∃ x R, qu (sweep (nmarks t) t h).1 (sweep (nmarks t) t h).2 = x :: R ∧ x.2 = false ∧ qu (turned t h q).1 (turned t h q).2 = R ++ [(q, true)] := by
  obtain ⟨h1, h2, h3⟩ := sweep_facts (nmarks t) t h hh
  have h4 := sweep_off (nmarks t) t h hh (Nat.le_refl _)
  unfold turned letIn
  generalize sweep (nmarks t) t h = st at *
  have hlt : st.2 < st.1.length := by omega
  exact ⟨_, _, qu_head hlt, h4, qu_next hlt _⟩

theorem clock_once {s : Nat} {l U : List Int} (hs : 1 ≤ s) (hUs : U.length ≤ s) {i j : Nat} (hU : ∀ t, i ≤ t → t < j → l[t]?.getD 0 ∈ U) {t1 t2 : Nat} (h1 : i ≤ t1) (h2 : t1 < t2) (h3 : t2 < j) (he : l[t1]?.getD 0 = l[t2]?.getD 0) (hf : chit s l t1 = false) : chit s l t2 = true := by
  have key : ∀ u, t1 < u → u ≤ t2 → Stay (l[t1]?.getD 0) (fun x => ∃ t, t1 ≤ t ∧ t < u ∧ l[t]?.getD 0 = x) (qu (cst s l u).1 (cst s l u).2) := by
    intro u
    induction u with
    | zero => intro h; omega
    | succ u ih =>
      intro hu hut
      have hc := cinv s hs l u
      by_cases heq : u = t1
      · subst heq
        by_cases hr : (cst s l u).1.length < s
        · rw [cst_room hf hr]
          show Stay _ _ (qu _ (cst s l u).2)
          rw [hc.room hr, qu_zero]
          exact Stay.new _ _
        · rw [cst_full hf hr]
          have hlt : (cst s l u).2 < (cst s l u).1.length := by have := hc.hand; omega
          obtain ⟨x, R, _, _, e3⟩ := turned_qu hlt (l[u]?.getD 0)
          rw [e3]
          exact Stay.new _ _
      · have hS := (ih (by omega) (by omega)).mono (B := fun x => ∃ t, t1 ≤ t ∧ t < u + 1 ∧ l[t]?.getD 0 = x) (fun x ⟨t, a, b, c⟩ => ⟨t, a, by omega, c⟩)
        have hq : ∃ t, t1 ≤ t ∧ t < u + 1 ∧ l[t]?.getD 0 = l[u]?.getD 0 := ⟨u, by omega, by omega, rfl⟩
        cases hh : chit s l u
        · by_cases hr : (cst s l u).1.length < s
          · rw [cst_room hh hr]
            rw [hc.room hr, qu_zero] at hS
            show Stay _ _ (qu _ (cst s l u).2)
            rw [hc.room hr, qu_zero]
            exact hS.more hq
          · rw [cst_full hh hr]
            have hlt : (cst s l u).2 < (cst s l u).1.length := by have := hc.hand; omega
            have hS2 := Stay.sweep (nmarks (cst s l u).1) _ _ hlt hS
            obtain ⟨x, R, e1, e2, e3⟩ := turned_qu hlt (l[u]?.getD 0)
            rw [e1] at hS2
            rw [e3]
            rcases hS2.swap e2 hq with h | ⟨hp, hR⟩
            · exact h
            · exfalso
              obtain ⟨f1, f2, f3⟩ := sweep_facts (nmarks (cst s l u).1) _ _ hlt
              have hnd : (pagesOf (qu (sweep (nmarks (cst s l u).1) (cst s l u).1 (cst s l u).2).1 (sweep (nmarks (cst s l u).1) (cst s l u).1 (cst s l u).2).2)).Nodup := qu_nodup _ (by rw [f1]; exact hc.nodup)
              have hmem : ∀ y, y ∈ pagesOf (x :: R) → y ∈ pagesOf (cst s l u).1 := by
                intro y hy
                rw [← f1]
                rw [← e1] at hy
                unfold pagesOf at hy ⊢
                obtain ⟨z, hz, rfl⟩ := List.mem_map.1 hy
                exact List.mem_map.2 ⟨z, qu_mem.1 hz, rfl⟩
              have hout : l[u]?.getD 0 ∉ pagesOf (cst s l u).1 := out_of_not hh
              have hlen : (pagesOf (x :: R)).length = s := by
                rw [pagesOf_length, ← e1, qu_length (by omega)]
                have := hc.len
                omega
              rw [e1] at hnd
              have hcount := length_le_of_subset (A := l[u]?.getD 0 :: pagesOf (x :: R)) (B := U) (List.nodup_cons.2 ⟨fun hm => hout (hmem _ hm), hnd⟩) fun y hy => by
                rcases List.mem_cons.1 hy with hy | hy
                · rw [hy]; exact hU u (by omega) (by omega)
                · unfold pagesOf at hy
                  rw [List.map_cons] at hy
                  rcases List.mem_cons.1 hy with hy | hy
                  · rw [hy, hp]; exact hU t1 h1 (by omega)
                  · obtain ⟨z, hz, rfl⟩ := List.mem_map.1 hy
                    obtain ⟨t, a, b, c⟩ := hR z hz
                    rw [← c]; exact hU t (by omega) (by omega)
              rw [List.length_cons, hlen] at hcount
              omega
        · rw [cst_hit hh]
          show Stay _ _ (qu (markPage _ _) (cst s l u).2)
          rw [mark_map hc.nodup hh, qu_map]
          exact hS.mark hq
  have hS := (key t2 h2 (Nat.le_refl _)).mem
  unfold chit
  rw [List.contains_iff_mem, ← he]
  unfold pagesOf at hS ⊢
  obtain ⟨z, hz, e⟩ := List.mem_map.1 hS
  exact List.mem_map.2 ⟨z, qu_mem.1 hz, e⟩
theorem few_clock {s : Nat} (hs : 1 ≤ s) (l : List Int) : FewIn s l (chit s l) := fun k h1 hk => by
  have hU : ∀ t, lst s l k ≤ t → t < k → l[t]?.getD 0 ∈ since s l k := fun t a b => (since_seg k h1 hk _).2 ⟨t, a, b, rfl⟩
  exact few_once k (Nat.le_of_lt (lst_facts s l k h1).1) hU fun t1 t2 a b c d e => clock_once hs (since_le hs l k) hU a b c d e
end Go.Proofs.Ytldeonnbpfkmoaa
