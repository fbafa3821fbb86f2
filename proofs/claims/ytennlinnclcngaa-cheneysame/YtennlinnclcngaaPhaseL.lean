/- Lists alone, for chapter 8: phases, how many misses there are in each, and how many anybody has. -/
import Derived.Test.YtennlinnclcngaaStarts
import Derived.Test.YtennlinnclcngaaSchedOf
import Derived.Test.YtennlinnclcngaaLate
namespace Go.Proofs.Ytennlinnclcngaa

/-- How many of the first k marks are not set. -/
def mc (f : Nat → Bool) : Nat → Nat
  | 0 => 0
  | k + 1 => mc f k + (if f k then 0 else 1)
theorem mc_hit {f : Nat → Bool} {k : Nat} (h : f k = true) : mc f (k+1) = mc f k := by rw [mc, if_pos h]; rfl
theorem mc_miss {f : Nat → Bool} {k : Nat} (h : f k = false) : mc f (k+1) = mc f k + 1 := by rw [mc, if_neg (by rw [h]; simp)]
theorem mc_mono (f : Nat → Bool) {a : Nat} : ∀ {b : Nat}, a ≤ b → mc f a ≤ mc f b
  | 0, h => by rw [Nat.le_zero.1 h]; exact Nat.le_refl _
  | b + 1, h => by
    rcases Nat.lt_or_ge b a with hb | hb
    · rw [show a = b + 1 by omega]; exact Nat.le_refl _
    · have := mc_mono f (a := a) hb
      rw [mc]; omega
theorem mc_count (f : Nat → Bool) : ∀ n, mc f n + hcount f n = n
  | 0 => rfl
  | n + 1 => by
    have := mc_count f n
    rw [mc, hcount]
    cases f n <;> simp <;> omega
theorem missed_mc (f : Nat → Bool) (n : Nat) : missed (marks f n) (marks f n).length = mc f n := by
  have h1 := missed_hcount f n
  have h2 := mc_count f n
  omega
theorem mc_congr {f g : Nat → Bool} : ∀ n, (∀ k, k < n → f k = g k) → mc f n = mc g n
  | 0, _ => rfl
  | n + 1, h => by rw [mc, mc, mc_congr n (fun k hk => h k (by omega)), h n (by omega)]

/-- Who misses no page twice misses no more than there are pages. -/
theorem few_once {f : Nat → Bool} {l U : List Int} {i : Nat} : ∀ j, i ≤ j → (∀ t, i ≤ t → t < j → l[t]?.getD 0 ∈ U) → (∀ t1 t2, i ≤ t1 → t1 < t2 → t2 < j → l[t1]?.getD 0 = l[t2]?.getD 0 → f t1 = false → f t2 = true) → mc f j ≤ mc f i + U.length := by
  intro j hij hU ho
  suffices h : ∃ M : List Int, M.Nodup ∧ mc f j = mc f i + M.length ∧ ∀ p, p ∈ M → ∃ t, i ≤ t ∧ t < j ∧ f t = false ∧ l[t]?.getD 0 = p by
    obtain ⟨M, h1, h2, h3⟩ := h
    have := length_le_of_subset (B := U) h1 fun p hp => by
      obtain ⟨t, ht1, ht2, _, ht4⟩ := h3 p hp
      rw [← ht4]; exact hU t ht1 ht2
    omega
  clear hU
  induction j with
  | zero => exact ⟨[], List.nodup_nil, by rw [Nat.le_zero.1 hij]; rfl, fun p hp => by simp at hp⟩
  | succ j ih =>
    by_cases he : i = j + 1
    · subst he
      exact ⟨[], List.nodup_nil, rfl, fun p hp => by simp at hp⟩
    · obtain ⟨M, h1, h2, h3⟩ := ih (by omega) fun t1 t2 a b c => ho t1 t2 a b (by omega)
      cases hf : f j
      · refine ⟨M ++ [l[j]?.getD 0], nodup_behind h1 fun hm => ?_, by rw [mc_miss hf, List.length_append, List.length_singleton]; omega, fun p hp => ?_⟩
        · obtain ⟨t, ht1, ht2, ht3, ht4⟩ := h3 _ hm
          have := ho t j ht1 ht2 (by omega) ht4 ht3
          rw [hf] at this; cases this
        · rcases List.mem_append.1 hp with hp | hp
          · obtain ⟨t, a, b, c⟩ := h3 p hp
            exact ⟨t, a, by omega, c⟩
          · exact ⟨j, by omega, by omega, hf, (List.mem_singleton.1 hp).symm⟩
      · exact ⟨M, h1, by rw [mc_hit hf]; exact h2, fun p hp => by
          obtain ⟨t, a, b, c⟩ := h3 p hp
          exact ⟨t, a, by omega, c⟩⟩

/-- The part of the requests from i to k. -/
theorem seg_mem {l : List Int} {i k : Nat} (hk : k ≤ l.length) {q : Int} : q ∈ (l.take k).drop i ↔ ∃ t, i ≤ t ∧ t < k ∧ l[t]?.getD 0 = q := by
  rw [List.mem_iff_getElem]
  constructor
  · rintro ⟨n, hn, e⟩
    rw [List.length_drop, List.length_take] at hn
    rw [List.getElem_drop, List.getElem_take] at e
    refine ⟨i + n, by omega, by omega, ?_⟩
    rw [List.getElem?_eq_getElem (by omega), Option.getD_some]; exact e
  · rintro ⟨t, h1, h2, h3⟩
    refine ⟨t - i, by rw [List.length_drop, List.length_take]; omega, ?_⟩
    rw [List.getElem_drop, List.getElem_take]
    rw [List.getElem?_eq_getElem (by omega), Option.getD_some] at h3
    rw [← h3]; congr 1; omega

/-- By the last asking: what was asked for in a part of few pages is there. -/
theorem lru_once {s : Nat} {l U : List Int} (hUs : U.length ≤ s) {i j : Nat} (hj : j ≤ l.length) (hU : ∀ t, i ≤ t → t < j → l[t]?.getD 0 ∈ U) {t1 t2 : Nat} (h1 : i ≤ t1) (h2 : t1 < t2) (h3 : t2 < j) (he : l[t1]?.getD 0 = l[t2]?.getD 0) : hitAt s l t2 = true := by
  unfold hitAt
  rw [List.contains_iff_mem]
  obtain ⟨G, hG⟩ := full_prefix (l.take t2) t1 (by rw [List.length_take]; omega)
  have hle : (full ((l.take t2).drop t1)).length ≤ s := by
    have := length_le_of_subset (B := U) (full_nodup ((l.take t2).drop t1)) fun p hp => by
      obtain ⟨t, a, b, c⟩ := (seg_mem (by omega)).1 (full_mem.1 hp)
      rw [← c]; exact hU t (by omega) (by omega)
    omega
  have hm : l[t2]?.getD 0 ∈ full ((l.take t2).drop t1) := full_mem.2 ((seg_mem (by omega)).2 ⟨t1, Nat.le_refl _, h2, he⟩)
  rw [← hG, List.take_append]
  exact List.mem_append_left _ (by rw [List.take_of_length_le hle]; exact hm)

/-- By what came first: what came in a part of few pages is there. -/
theorem fifo_once {s : Nat} {l U : List Int} (hUs : U.length ≤ s) {i j : Nat} (hU : ∀ t, i ≤ t → t < j → l[t]?.getD 0 ∈ U) {t1 t2 : Nat} (h1 : i ≤ t1) (h2 : t1 < t2) (h3 : t2 < j) (he : l[t1]?.getD 0 = l[t2]?.getD 0) (hf : fhit s l t1 = false) : fhit s l t2 = true := by
  have key : ∀ u, t1 < u → u ≤ j → ∃ D, came s l u = came s l t1 ++ D ∧ D.Nodup ∧ l[t1]?.getD 0 ∈ D ∧ ∀ x, x ∈ D → x ∈ U := by
    intro u
    induction u with
    | zero => intro h; omega
    | succ u ih =>
      intro hu huj
      by_cases hut : u = t1
      · subst hut
        exact ⟨[l[u]?.getD 0], came_miss hf, by simp, by simp, fun x hx => by rw [List.mem_singleton.1 hx]; exact hU u h1 (by omega)⟩
      · obtain ⟨D, hD1, hD2, hD3, hD4⟩ := ih (by omega) (by omega)
        cases hh : fhit s l u
        · refine ⟨D ++ [l[u]?.getD 0], by rw [came_miss hh, hD1, List.append_assoc], nodup_behind hD2 fun hm => ?_, List.mem_append_left _ hD3, fun x hx => ?_⟩
          · have hlen : D.length ≤ s := Nat.le_trans (length_le_of_subset hD2 hD4) hUs
            have : l[u]?.getD 0 ∈ lastn s (came s l u) := by
              unfold lastn
              rw [hD1, List.length_append]
              by_cases hc : (came s l t1).length + D.length ≤ s
              · rw [show (came s l t1).length + D.length - s = 0 by omega, List.drop_zero]
                exact List.mem_append_right _ hm
              · rw [List.drop_append_of_le_length (by omega)]
                exact List.mem_append_right _ hm
            unfold fhit at hh
            rw [List.contains_iff_mem.2 this] at hh; cases hh
          · rcases List.mem_append.1 hx with hx | hx
            · exact hD4 x hx
            · rw [List.mem_singleton.1 hx]; exact hU u (by omega) (by omega)
        · exact ⟨D, by rw [came_hit hh]; exact hD1, hD2, hD3, hD4⟩
  obtain ⟨D, hD1, hD2, hD3, hD4⟩ := key t2 h2 (by omega)
  have hlen : D.length ≤ s := Nat.le_trans (length_le_of_subset hD2 hD4) hUs
  unfold fhit
  rw [List.contains_iff_mem, ← he]
  unfold lastn
  rw [hD1, List.length_append]
  by_cases hc : (came s l t1).length + D.length ≤ s
  · rw [show (came s l t1).length + D.length - s = 0 by omega, List.drop_zero]
    exact List.mem_append_right _ hD3
  · rw [List.drop_append_of_le_length (by omega)]
    exact List.mem_append_right _ hD3

/-- The last start ahead of request k. -/
def lst (s : Nat) (l : List Int) : Nat → Nat
  | 0 => 0
  | k + 1 => if begins s l k then k else lst s l k
theorem lst_yes {s k : Nat} {l : List Int} (h : begins s l k = true) : lst s l (k+1) = k := by rw [lst, if_pos h]
theorem lst_no {s k : Nat} {l : List Int} (h : begins s l k = false) : lst s l (k+1) = lst s l k := by rw [lst, if_neg (by rw [h]; simp)]
theorem lst_facts (s : Nat) (l : List Int) : ∀ k, 1 ≤ k → lst s l k < k ∧ begins s l (lst s l k) = true ∧ ∀ t, lst s l k < t → t < k → begins s l t = false
  | 0, h => by omega
  | k + 1, _ => by
    cases hb : begins s l k
    · have hk := begins_pos hb
      obtain ⟨h1, h2, h3⟩ := lst_facts s l k hk
      rw [lst_no hb]
      refine ⟨by omega, h2, fun t ht1 ht2 => ?_⟩
      by_cases he : t = k
      · subst he; exact hb
      · exact h3 t ht1 (by omega)
    · rw [lst_yes hb]
      exact ⟨by omega, hb, fun t h1 h2 => by omega⟩

/-- What is held by who flushes are the pages asked for since the last start. -/
theorem since_seg {s : Nat} {l : List Int} : ∀ k, 1 ≤ k → k ≤ l.length → ∀ q, q ∈ since s l k ↔ ∃ t, lst s l k ≤ t ∧ t < k ∧ l[t]?.getD 0 = q
  | 0, h, _, _ => by omega
  | k + 1, _, hk, q => by
    cases hb : begins s l k
    · have hp := begins_pos hb
      have hk2 : k ≤ l.length := Nat.le_of_succ_le hk
      have ih := since_seg (s := s) k hp hk2 q
      have hl := (lst_facts s l k hp).1
      rw [lst_no hb]
      cases hh : ehit s l k
      · rw [stays_since hb hh, List.mem_append, List.mem_singleton, ih]
        constructor
        · rintro (⟨t, a, b, c⟩ | h)
          · exact ⟨t, a, by omega, c⟩
          · exact ⟨k, by omega, by omega, h.symm⟩
        · rintro ⟨t, a, b, c⟩
          by_cases he : t = k
          · subst he; exact .inr c.symm
          · exact .inl ⟨t, a, by omega, c⟩
      · rw [since_hit hh, ih]
        constructor
        · rintro ⟨t, a, b, c⟩
          exact ⟨t, a, by omega, c⟩
        · rintro ⟨t, a, b, c⟩
          by_cases he : t = k
          · subst he
            have hm : l[t]?.getD 0 ∈ since s l t := List.contains_iff_mem.1 hh
            have := (since_seg t hp (by omega) (l[t]?.getD 0)).1 hm
            rw [← c]; exact this
          · exact ⟨t, a, by omega, c⟩
    · rw [lst_yes hb, begins_since hb, List.mem_singleton]
      constructor
      · intro h; exact ⟨k, Nat.le_refl _, by omega, h.symm⟩
      · rintro ⟨t, a, b, c⟩
        rw [show t = k by omega] at c; exact c.symm
theorem since_nodup {s : Nat} (hs : 1 ≤ s) {l : List Int} {k : Nat} (hk : k ≤ l.length) : (since s l k).Nodup := (sched_flush hs l).nd k hk
theorem since_first {s : Nat} {l : List Int} {k : Nat} (h1 : 1 ≤ k) (hk : k ≤ l.length) : l[lst s l k]?.getD 0 ∈ since s l k :=
  (since_seg k h1 hk _).2 ⟨lst s l k, Nat.le_refl _, (lst_facts s l k h1).1, rfl⟩

/-- By flushing: what was asked for in a phase is there. -/
theorem flush_phase {s : Nat} {l : List Int} {k : Nat} (hk : k < l.length) (hb : begins s l k = false) : ehit s l k = true ↔ ∃ t, lst s l k ≤ t ∧ t < k ∧ l[t]?.getD 0 = l[k]?.getD 0 := by
  unfold ehit
  rw [List.contains_iff_mem]
  exact since_seg k (begins_pos hb) (by omega) _

/-- How many starts there are ahead of request k. -/
def nph (s : Nat) (l : List Int) (k : Nat) : Nat := (starts s l k).length
theorem nph_yes {s k : Nat} {l : List Int} (h : begins s l k = true) : nph s l (k+1) = nph s l k + 1 := by unfold nph; rw [starts_yes h]; simp
theorem nph_no {s k : Nat} {l : List Int} (h : begins s l k = false) : nph s l (k+1) = nph s l k := by unfold nph; rw [starts_no h]
theorem nph_lst {s : Nat} {l : List Int} : ∀ k, 1 ≤ k → nph s l k = nph s l (lst s l k) + 1
  | 0, h => by omega
  | k + 1, _ => by
    cases hb : begins s l k
    · rw [nph_no hb, lst_no hb]; exact nph_lst k (begins_pos hb)
    · rw [nph_yes hb, lst_yes hb]

/-- Few misses in each phase. -/
def FewIn (s : Nat) (l : List Int) (f : Nat → Bool) : Prop := ∀ k, 1 ≤ k → k ≤ l.length → mc f k ≤ mc f (lst s l k) + (since s l k).length
theorem few_lru {s : Nat} (hs : 1 ≤ s) (l : List Int) : FewIn s l (hitAt s l) := fun k h1 hk => by
  have hU : ∀ t, lst s l k ≤ t → t < k → l[t]?.getD 0 ∈ since s l k := fun t a b => (since_seg k h1 hk _).2 ⟨t, a, b, rfl⟩
  exact few_once k (Nat.le_of_lt (lst_facts s l k h1).1) hU fun t1 t2 a b c d _ => lru_once (since_le hs l k) hk hU a b c d
theorem few_fifo {s : Nat} (hs : 1 ≤ s) (l : List Int) : FewIn s l (fhit s l) := fun k h1 hk => by
  have hU : ∀ t, lst s l k ≤ t → t < k → l[t]?.getD 0 ∈ since s l k := fun t a b => (since_seg k h1 hk _).2 ⟨t, a, b, rfl⟩
  exact few_once k (Nat.le_of_lt (lst_facts s l k h1).1) hU fun t1 t2 a b c d e => fifo_once (since_le hs l k) hU a b c d e
theorem lst_in {s : Nat} {l : List Int} {k t : Nat} (h1 : 1 ≤ k) (ht : lst s l k < t) (htk : t ≤ k) : lst s l t = lst s l k := by
  obtain ⟨a, b, c⟩ := lst_facts s l k h1
  obtain ⟨d, e, f⟩ := lst_facts s l t (by omega)
  rcases Nat.lt_trichotomy (lst s l t) (lst s l k) with h | h | h
  · have := f (lst s l k) h ht
    rw [b] at this; cases this
  · exact h
  · have := c (lst s l t) h (by omega)
    rw [e] at this; cases this
theorem few_flush (s : Nat) (l : List Int) : FewIn s l (ehit s l) := fun k h1 hk => by
  have hU : ∀ t, lst s l k ≤ t → t < k → l[t]?.getD 0 ∈ since s l k := fun t a b => (since_seg k h1 hk _).2 ⟨t, a, b, rfl⟩
  refine few_once k (Nat.le_of_lt (lst_facts s l k h1).1) hU fun t1 t2 a b c d _ => ?_
  have hb := (lst_facts s l k h1).2.2 t2 (by omega) c
  exact (flush_phase (by omega) hb).2 ⟨t1, by rw [lst_in h1 (by omega) (by omega)]; exact a, b, d⟩

/-- So many misses as phases times slots, at most. -/
theorem few_all {s : Nat} (hs : 1 ≤ s) {l : List Int} {f : Nat → Bool} (hf : FewIn s l f) : ∀ n k, k ≤ n → k ≤ l.length → mc f k ≤ s * nph s l k
  | 0, k, h, _ => by rw [Nat.le_zero.1 h]; exact Nat.zero_le _
  | n + 1, k, h, hk => by
    by_cases h0 : k = 0
    · subst h0; exact Nat.zero_le _
    · have hl := (lst_facts s l k (by omega)).1
      have h1 := few_all hs hf n (lst s l k) (by omega) (by omega)
      have h2 := hf k (by omega) hk
      have h3 := since_le hs l k
      rw [nph_lst k (by omega), Nat.mul_add]
      omega

/-- Who has h slots: of unlike pages asked for behind request a, but its own, all but h - 1 are missed. -/
theorem window {h : Nat} {l : List Int} {H : Nat → List Int} (hS : Sched h l H) {a k : Nat} (hak : a < k) (hk : k ≤ l.length) {D : List Int} (hD : D.Nodup) (ha : l[a]?.getD 0 ∉ D) (hD2 : ∀ x, x ∈ D → ∃ t, a < t ∧ t < k ∧ l[t]?.getD 0 = x) : D.length + mc (hitOf l H) (a+1) ≤ mc (hitOf l H) k + (h - 1) := by
  have key : ∀ u, a + 1 ≤ u → u ≤ k → ∃ M : List Int, mc (hitOf l H) u = mc (hitOf l H) (a+1) + M.length ∧ (∀ x, x ∈ H u → x ∈ H (a+1) ∨ x ∈ M) ∧ ∀ t, a < t → t < u → l[t]?.getD 0 ∈ H (a+1) ∨ l[t]?.getD 0 ∈ M := by
    intro u
    induction u with
    | zero => intro hu; omega
    | succ u ih =>
      intro hu huk
      by_cases hau : u = a
      · subst hau
        exact ⟨[], rfl, fun x hx => .inl hx, fun t h1 h2 => by omega⟩
      · obtain ⟨M, h1, h2, h3⟩ := ih (by omega) (by omega)
        cases hh : hitOf l H u
        · refine ⟨l[u]?.getD 0 :: M, by rw [mc_miss hh, List.length_cons]; omega, fun x hx => ?_, fun t ht1 ht2 => ?_⟩
          · rcases hS.sub u (by omega) x hx with e | e
            · exact .inr (by rw [e]; simp)
            · rcases h2 x e with e | e
              · exact .inl e
              · exact .inr (List.mem_cons_of_mem _ e)
          · by_cases htu : t = u
            · subst htu; exact .inr (by simp)
            · rcases h3 t ht1 (by omega) with e | e
              · exact .inl e
              · exact .inr (List.mem_cons_of_mem _ e)
        · have hm : l[u]?.getD 0 ∈ H u := List.contains_iff_mem.1 hh
          refine ⟨M, by rw [mc_hit hh]; exact h1, fun x hx => ?_, fun t ht1 ht2 => ?_⟩
          · rcases hS.sub u (by omega) x hx with e | e
            · rw [e]; exact h2 _ hm
            · exact h2 x e
          · by_cases htu : t = u
            · subst htu; exact h2 _ hm
            · exact h3 t ht1 (by omega)
  obtain ⟨M, h1, _, h3⟩ := key k (by omega) (Nat.le_refl _)
  have hg := hS.got a (by omega)
  have hle := hS.le (a+1) (by omega)
  have := length_le_of_subset (B := (H (a+1)).erase (l[a]?.getD 0) ++ M) hD fun x hx => by
    have hne : x ≠ l[a]?.getD 0 := fun e => ha (e ▸ hx)
    obtain ⟨t, t1, t2, t3⟩ := hD2 x hx
    rw [List.mem_append, List.mem_erase_of_ne hne, ← t3]
    exact h3 t t1 t2
  rw [List.length_append, List.length_erase_of_mem hg] at this
  omega

/-- Who has h slots, behind the first request of each phase. -/
theorem best_starts {s h : Nat} {l : List Int} {H : Nat → List Int} (hs : 1 ≤ s) (h1 : 1 ≤ h) (hhs : h ≤ s) (hS : Sched h l H) : ∀ n a, a ≤ n → a < l.length → begins s l a = true → 1 + nph s l a * (s - h + 1) ≤ mc (hitOf l H) (a+1)
  | 0, a, hn, hl, _ => by
    rw [Nat.le_zero.1 hn]
    have : hitOf l H 0 = false := by unfold hitOf; rw [hS.start]; rfl
    rw [mc_miss this]
    simp [nph, starts, mc]
  | n + 1, a, hn, hl, hb => by
    by_cases h0 : a = 0
    · exact best_starts hs h1 hhs hS n a (by omega) hl hb
    · obtain ⟨p1, p2, p3⟩ := lst_facts s l a (by omega)
      have ih := best_starts hs h1 hhs hS n (lst s l a) (by omega) (by omega) p2
      have hm := begins_miss hb
      have hfull : (since s l a).length = s := by
        rw [begins_full (by omega) hm] at hb
        exact beq_iff_eq.1 hb
      have hout : l[a]?.getD 0 ∉ since s l a := out_of_not hm
      have hfirst := since_first (s := s) (l := l) (k := a) (by omega) (by omega)
      have hnd := since_nodup hs (l := l) (k := a) (by omega)
      have w := window hS (a := lst s l a) (k := a + 1) (by omega) (by omega) (D := (since s l a).erase (l[lst s l a]?.getD 0) ++ [l[a]?.getD 0])
        (nodup_behind (hnd.erase _) fun hx => hout (List.mem_of_mem_erase hx))
        (fun hx => by
          rcases List.mem_append.1 hx with hx | hx
          · exact hnd.not_mem_erase hx
          · rw [List.mem_singleton] at hx
            exact hout (hx ▸ hfirst))
        (fun x hx => by
          rcases List.mem_append.1 hx with hx | hx
          · have hne : x ≠ l[lst s l a]?.getD 0 := fun e => hnd.not_mem_erase (e ▸ hx)
            obtain ⟨t, t1, t2, t3⟩ := (since_seg a (by omega) (by omega) x).1 (List.mem_of_mem_erase hx)
            have : t ≠ lst s l a := fun e => hne (by rw [← t3, e])
            exact ⟨t, by omega, by omega, t3⟩
          · exact ⟨a, by omega, by omega, (List.mem_singleton.1 hx).symm⟩)
      rw [List.length_append, List.length_singleton, List.length_erase_of_mem hfirst, hfull] at w
      rw [nph_lst a (by omega), Nat.add_mul, Nat.one_mul]
      omega

/-- In the last phase, too. -/
theorem best_last {s h : Nat} {l : List Int} {H : Nat → List Int} (hs : 1 ≤ s) (h1 : 1 ≤ h) (hhs : h ≤ s) (hS : Sched h l H) {k : Nat} (hk1 : 1 ≤ k) (hk : k ≤ l.length) : (since s l k).length + 1 + nph s l (lst s l k) * (s - h + 1) ≤ mc (hitOf l H) k + h := by
  obtain ⟨p1, p2, p3⟩ := lst_facts s l k hk1
  have h2 := best_starts hs h1 hhs hS _ (lst s l k) (Nat.le_refl _) (by omega) p2
  have hfirst := since_first (s := s) (l := l) (k := k) hk1 hk
  have hnd := since_nodup hs (l := l) (k := k) hk
  have w := window hS (a := lst s l k) (k := k) (by omega) hk (D := (since s l k).erase (l[lst s l k]?.getD 0)) (hnd.erase _) hnd.not_mem_erase
    (fun x hx => by
      have hne : x ≠ l[lst s l k]?.getD 0 := fun e => hnd.not_mem_erase (e ▸ hx)
      obtain ⟨t, t1, t2, t3⟩ := (since_seg k hk1 hk x).1 (List.mem_of_mem_erase hx)
      have : t ≠ lst s l k := fun e => hne (by rw [← t3, e])
      exact ⟨t, by omega, t2, t3⟩)
  rw [List.length_erase_of_mem hfirst] at w
  have := List.length_pos_of_mem hfirst
  omega

/-- Sleator, Tarjan: no worse than the best, as slots go. -/
theorem phase_best {s h : Nat} {l : List Int} {H : Nat → List Int} {f : Nat → Bool} (hs : 1 ≤ s) (h1 : 1 ≤ h) (hhs : h ≤ s) (hS : Sched h l H) (hf : FewIn s l f) : (s - h + 1) * mc f l.length ≤ s * (mc (hitOf l H) l.length + h) := by
  by_cases h0 : l.length = 0
  · rw [h0]; simp [mc]
  · have a := few_all hs hf (lst s l l.length) _ (Nat.le_refl _) (by have := (lst_facts s l l.length (by omega)).1; omega)
    have b := hf l.length (by omega) (Nat.le_refl _)
    have c := best_last hs h1 hhs hS (k := l.length) (by omega) (Nat.le_refl _)
    generalize mc f (lst s l l.length) = x at *
    generalize (since s l l.length).length = r at *
    generalize nph s l (lst s l l.length) = m at *
    generalize mc (hitOf l H) l.length = o at *
    have hd : s - h + 1 ≤ s := by omega
    generalize s - h + 1 = d at *
    have e1 : d * mc f l.length ≤ d * (s * m + r) := Nat.mul_le_mul_left _ (by omega)
    have e2 : d * (s * m + r) = s * (m * d) + d * r := by rw [Nat.mul_add, ← Nat.mul_assoc, Nat.mul_comm d s, Nat.mul_assoc, Nat.mul_comm d m]
    have e3 : s * (m * d) + d * r ≤ s * (m * d) + s * r := Nat.add_le_add_left (Nat.mul_le_mul_right _ hd) _
    have e4 : s * (m * d) + s * r = s * (m * d + r) := (Nat.mul_add ..).symm
    have e5 : s * (m * d + r) ≤ s * (o + h) := Nat.mul_le_mul_left _ (by omega)
    omega
theorem phase_least {s : Nat} {l : List Int} {H : Nat → List Int} (hs : 1 ≤ s) (hS : Sched s l H) : nph s l l.length ≤ mc (hitOf l H) l.length := by
  by_cases h0 : l.length = 0
  · rw [h0]; simp [nph, starts]
  · obtain ⟨p1, p2, p3⟩ := lst_facts s l l.length (by omega)
    have h2 := best_starts hs hs (Nat.le_refl _) hS _ (lst s l l.length) (Nat.le_refl _) p1 p2
    have h3 := mc_mono (hitOf l H) (a := lst s l l.length + 1) (b := l.length) (by omega)
    rw [nph_lst _ (by omega)]
    rw [Nat.sub_self, Nat.zero_add, Nat.mul_one] at h2
    omega
end Go.Proofs.Ytennlinnclcngaa
