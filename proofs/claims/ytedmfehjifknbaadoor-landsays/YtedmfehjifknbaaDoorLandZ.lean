/- Lists alone, for chapter 10: all costs so many times as much; the least is found from state to state. -/
import Derived.Test.YtedmfehjifknbaaDoorLandY
namespace Go.Proofs.YtedmfehjifknbaaDoor

/-- All credits so many times as much. -/
def times (b : Nat) (st : List (Int × Nat)) : List (Int × Nat) := st.map fun x => (x.1, b * x.2)
theorem tenants_times (b : Nat) (st : List (Int × Nat)) : tenants (times b st) = tenants st := by unfold tenants times; rw [List.map_map]; rfl
theorem min_mul (b x y : Nat) : min (b * x) (b * y) = b * min x y := by
  by_cases h : x ≤ y
  · rw [Nat.min_eq_left h, Nat.min_eq_left (Nat.mul_le_mul_left _ h)]
  · have h2 : y ≤ x := by omega
    rw [Nat.min_eq_right h2, Nat.min_eq_right (Nat.mul_le_mul_left b h2)]
theorem leastOf_times (b : Nat) : ∀ st : List (Int × Nat), leastOf (times b st) = b * leastOf st
  | [] => rfl
  | x :: r => by
    have e : times b (x :: r) = (x.1, b * x.2) :: times b r := rfl
    rw [e, leastOf, leastOf]
    by_cases hr : r = []
    · subst hr; rfl
    · have hr2 : times b r ≠ [] := fun h => hr (List.map_eq_nil_iff.1 h)
      rw [if_neg hr, if_neg hr2, leastOf_times b r, min_mul]
theorem eraseP_times {b d : Nat} (hb : 1 ≤ b) : ∀ st : List (Int × Nat), ((times b st).eraseP fun x => x.2 == b * d) = times b (st.eraseP fun x => x.2 == d)
  | [] => rfl
  | x :: r => by
    have e : times b (x :: r) = (x.1, b * x.2) :: times b r := rfl
    rw [e]
    by_cases h : x.2 = d
    · rw [List.eraseP_cons_of_pos (by simp [h]), List.eraseP_cons_of_pos (by simpa using h)]
    · have h2 : ¬ (b * x.2 = b * d) := fun h3 => h (Nat.eq_of_mul_eq_mul_left hb h3)
      rw [List.eraseP_cons_of_neg (by simpa using h2), List.eraseP_cons_of_neg (by simpa using h), eraseP_times hb r]; rfl
theorem lessBy_times (b d : Nat) (st : List (Int × Nat)) : lessBy (b * d) (times b st) = times b (lessBy d st) := by
  unfold lessBy times
  rw [List.map_map, List.map_map]
  refine List.map_congr_left fun x _ => ?_
  simp only [Function.comp, Nat.mul_sub]
theorem letOut_times {b : Nat} (hb : 1 ≤ b) (st : List (Int × Nat)) : letOut (times b st) = times b (letOut st) := by
  unfold letOut
  rw [leastOf_times, eraseP_times hb, lessBy_times]
theorem again_times (b v : Nat) (p : Int) (st : List (Int × Nat)) : again p (b * v) (times b st) = times b (again p v st) := by
  unfold again times
  rw [List.map_map, List.map_map]
  refine List.map_congr_left fun x _ => ?_
  simp only [Function.comp]
  by_cases h : x.1 = p
  · rw [if_pos h, if_pos h]
  · rw [if_neg h, if_neg h]
theorem landS_times {s b : Nat} (hb : 1 ≤ b) (c : Int → Nat) (st : List (Int × Nat)) (p : Int) : landS s (fun q => b * c q) (times b st) p = times b (landS s c st p) := by
  unfold landS
  rw [tenants_times]
  by_cases h : (tenants st).contains p = true
  · rw [if_pos h, if_pos h]; exact again_times b (c p) p st
  · rw [if_neg h, if_neg h]
    have hl : (times b st).length = st.length := by unfold times; rw [List.length_map]
    rw [hl]
    by_cases hf : st.length = s
    · rw [if_pos hf, if_pos hf, letOut_times hb]
      unfold times; rw [List.map_append]; rfl
    · rw [if_neg hf, if_neg hf]
      unfold times; rw [List.map_append]; rfl
/-- Money is money. -/
theorem land_times {s b : Nat} (hb : 1 ≤ b) (c : Int → Nat) (l : List Int) : ∀ k, land s (fun q => b * c q) l k = times b (land s c l k)
  | 0 => rfl
  | k + 1 => by rw [land, land, land_times hb c l k, landS_times hb]
theorem lheld_times {s b : Nat} (hb : 1 ≤ b) (c : Int → Nat) (l : List Int) (k : Nat) : lheld s (fun q => b * c q) l k = lheld s c l k := by
  unfold lheld
  rw [land_times hb, tenants_times]
theorem paid_held {c : Int → Nat} {l : List Int} {A B : Nat → List Int} (h : ∀ k, A k = B k) (n : Nat) : paid c l A n = paid c l B n := by rw [show A = B from funext h]
theorem lpaid_times {s b : Nat} (hb : 1 ≤ b) (c : Int → Nat) (l : List Int) (n : Nat) : lpaid s (fun q => b * c q) l n = b * lpaid s c l n := by
  unfold lpaid
  rw [paid_held (lheld_times hb c l), paid_mul]
/-- A landlord hangs on the costs of what is asked for alone. -/
theorem land_congr {s : Nat} {c d : Int → Nat} {l : List Int} (h : ∀ p, p ∈ l → c p = d p) : ∀ k, k ≤ l.length → land s c l k = land s d l k
  | 0, _ => rfl
  | k + 1, hk => by
    have hl : k < l.length := by omega
    have hp : c (l[k]?.getD 0) = d (l[k]?.getD 0) := h _ (by rw [List.getElem?_eq_getElem hl]; exact List.getElem_mem hl)
    rw [land, land, land_congr h k (by omega)]
    unfold landS
    rw [hp]
theorem lpaid_congr {s : Nat} {c d : Int → Nat} {l : List Int} (h : ∀ p, p ∈ l → c p = d p) : ∀ n, n ≤ l.length → lpaid s c l n = lpaid s d l n
  | 0, _ => rfl
  | n + 1, hn => by
    have hl : n < l.length := by omega
    have ih := lpaid_congr (s := s) h n (by omega)
    have hp : c (l[n]?.getD 0) = d (l[n]?.getD 0) := h _ (by rw [List.getElem?_eq_getElem hl]; exact List.getElem_mem hl)
    unfold lpaid at ih ⊢
    rw [paid, paid, ih, hp]
    unfold hitOf lheld
    rw [land_congr h n (by omega)]
/-- At the end the page that was asked for last is there, with all its cost. -/
theorem land_last {s : Nat} (hs : 1 ≤ s) (c : Int → Nat) (l : List Int) (k : Nat) : l[k]?.getD 0 ∈ tenants (land s c l (k+1)) ∧ ∀ x, x ∈ land s c l (k+1) → x.1 = l[k]?.getD 0 → x.2 = c x.1 := by
  have hi := land_inv hs c l (k+1)
  rw [land] at hi ⊢
  generalize l[k]?.getD 0 = p at *
  generalize land s c l k = st at *
  unfold landS at hi ⊢
  by_cases h : (tenants st).contains p = true
  · rw [if_pos h]
    refine ⟨by rw [tenants_again]; exact List.contains_iff_mem.1 h, fun x hx e => ?_⟩
    obtain ⟨y, hy, rfl⟩ := List.mem_map.1 hx
    by_cases he : y.1 = p
    · rw [if_pos he]; show c p = c y.1; rw [he]
    · rw [if_neg he] at e; exact absurd e he
  · rw [if_neg h] at hi ⊢
    refine ⟨by rw [tenants_snoc]; simp, fun x hx e => ?_⟩
    have h1 := cr_mem hi.nd hx
    have hout : p ∉ tenants (if st.length = s then letOut st else st) := by
      have hb : (tenants (if st.length = s then letOut st else st)).Sublist (tenants st) := by
        split
        · exact letOut_sub st
        · exact List.Sublist.refl _
      exact fun hm => h (List.contains_iff_mem.2 (hb.subset hm))
    rw [cr_snoc hout, if_pos e] at h1
    rw [← h1, e]

/-- Who lets go only where he must: behind n requests he has the pages S, and paid x. -/
inductive Lazy (s : Nat) (c : Int → Nat) (l : List Int) : Nat → List Int → Nat → Prop
  | start : Lazy s c l 0 [] 0
  | there {n S x} : Lazy s c l n S x → n < l.length → l[n]?.getD 0 ∈ S → Lazy s c l (n+1) S x
  | room {n S x} : Lazy s c l n S x → n < l.length → l[n]?.getD 0 ∉ S → S.length < s → Lazy s c l (n+1) (l[n]?.getD 0 :: S) (x + c (l[n]?.getD 0))
  | goes {n S x q} : Lazy s c l n S x → n < l.length → l[n]?.getD 0 ∉ S → S.length = s → q ∈ S → Lazy s c l (n+1) (l[n]?.getD 0 :: S.erase q) (x + c (l[n]?.getD 0))
theorem Lazy.facts {s : Nat} {c : Int → Nat} {l : List Int} {n : Nat} {S : List Int} {x : Nat} (h : Lazy s c l n S x) : n ≤ l.length ∧ S.Nodup ∧ S.length ≤ s ∧ ∀ p, p ∈ S → p ∈ l := by
  have hm : ∀ {n : Nat}, n < l.length → l[n]?.getD 0 ∈ l := fun hn => by rw [List.getElem?_eq_getElem hn]; exact List.getElem_mem hn
  induction h with
  | start => exact ⟨Nat.zero_le _, List.nodup_nil, Nat.zero_le _, fun p hp => by cases hp⟩
  | there _ hn _ ih => exact ⟨hn, ih.2⟩
  | room _ hn ho hr ih =>
    refine ⟨hn, List.nodup_cons.2 ⟨ho, ih.2.1⟩, by rw [List.length_cons]; omega, fun p hp => ?_⟩
    rcases List.mem_cons.1 hp with rfl | hp
    · exact hm hn
    · exact ih.2.2.2 p hp
  | goes _ hn ho hr hq ih =>
    refine ⟨hn, List.nodup_cons.2 ⟨fun h => ho (List.mem_of_mem_erase h), ih.2.1.erase _⟩, ?_, fun p hp => ?_⟩
    · rw [List.length_cons, List.length_erase_of_mem hq]
      have := List.length_pos_of_mem hq
      omega
    · rcases List.mem_cons.1 hp with rfl | hp
      · exact hm hn
      · exact ih.2.2.2 p (List.mem_of_mem_erase hp)
/-- It is a store. -/
theorem Lazy.sched {s : Nat} {c : Int → Nat} {l : List Int} {n : Nat} {S : List Int} {x : Nat} (h : Lazy s c l n S x) : ∃ H, Sched s (l.take n) H ∧ H n = S ∧ paid c l H n = x := by
  have step : ∀ {n : Nat} {S S' : List Int} {H : Nat → List Int}, n < l.length → Sched s (l.take n) H → H n = S → S'.Nodup → S'.length ≤ s → l[n]?.getD 0 ∈ S' → (∀ p, p ∈ S' → p = l[n]?.getD 0 ∨ p ∈ S) →
      Sched s (l.take (n+1)) (fun k => if k ≤ n then H k else S') ∧ paid c l (fun k => if k ≤ n then H k else S') (n+1) = paid c l H n + (if S.contains (l[n]?.getD 0) then 0 else c (l[n]?.getD 0)) := by
    intro n S S' H hn hS hH h1 h2 h3 h4
    have ht : (l.take n).length = n := by rw [List.length_take]; omega
    have hget : ∀ {m k : Nat}, k < m → (l.take m)[k]?.getD 0 = l[k]?.getD 0 := fun h => by rw [List.getElem?_take_of_lt h]
    have hp : ∀ m, m ≤ n → paid c l (fun k => if k ≤ n then H k else S') m = paid c l H m := by
      intro m
      induction m with
      | zero => intro _; rfl
      | succ m ih =>
        intro hm
        rw [paid, paid, ih (by omega)]
        unfold hitOf
        simp only [if_pos (show m ≤ n by omega)]
    refine ⟨Sched.steps (by simp [hS.start]) fun k hk _ _ => ?_, ?_⟩
    · rw [List.length_take] at hk
      rw [hget (by omega)]
      by_cases he : k = n
      · subst he
        simp only [if_pos (Nat.le_refl k), if_neg (show ¬ (k + 1 ≤ k) by omega)]
        exact ⟨h1, h2, h3, fun p hp => by rw [hH]; exact h4 p hp⟩
      · simp only [if_pos (show k ≤ n by omega), if_pos (show k + 1 ≤ n by omega)]
        have hkt : k < (l.take n).length := by omega
        have g := hS.got k hkt
        have u := hS.sub k hkt
        rw [hget (by omega)] at g u
        exact ⟨hS.nd (k+1) (by omega), hS.le (k+1) (by omega), g, u⟩
    · rw [paid, hp n (Nat.le_refl _)]
      unfold hitOf
      simp only [if_pos (Nat.le_refl n), hH]
  induction h with
  | start => exact ⟨fun _ => [], Sched.steps rfl (fun k hk => by simp at hk), rfl, rfl⟩
  | there h hn hp ih =>
    obtain ⟨H, a, b, d⟩ := ih
    have f := h.facts
    obtain ⟨u, v⟩ := step hn a b f.2.1 f.2.2.1 hp fun p hp => .inr hp
    exact ⟨_, u, if_neg (by omega), by rw [v, d, if_pos (List.contains_iff_mem.2 hp)]; rfl⟩
  | room h hn ho hr ih =>
    obtain ⟨H, a, b, d⟩ := ih
    have f := (Lazy.room h hn ho hr).facts
    obtain ⟨u, v⟩ := step hn a b f.2.1 f.2.2.1 (by simp) fun p hp => List.mem_cons.1 hp
    exact ⟨_, u, if_neg (by omega), by rw [v, d, if_neg (fun e => ho (List.contains_iff_mem.1 e))]⟩
  | goes h hn ho hr hq ih =>
    obtain ⟨H, a, b, d⟩ := ih
    have f := (Lazy.goes h hn ho hr hq).facts
    obtain ⟨u, v⟩ := step hn a b f.2.1 f.2.2.1 (by simp) fun p hp => (List.mem_cons.1 hp).imp id fun h => List.mem_of_mem_erase h
    exact ⟨_, u, if_neg (by omega), by rw [v, d, if_neg (fun e => ho (List.contains_iff_mem.1 e))]⟩
/-- Who lets go sooner pays no less. -/
theorem lazy_low {s : Nat} {c : Int → Nat} {l : List Int} {H : Nat → List Int} (hS : Sched s l H) : ∀ n, n ≤ l.length → ∃ S x, Lazy s c l n S x ∧ (∀ p, p ∈ H n → p ∈ S) ∧ x ≤ paid c l H n
  | 0, _ => ⟨[], 0, .start, fun p hp => by rw [hS.start] at hp; exact hp, Nat.le_refl _⟩
  | n + 1, hn => by
    obtain ⟨S, x, hz, hsub, hx⟩ := lazy_low (c := c) hS n (by omega)
    have hl : n < l.length := by omega
    have f := hz.facts
    have e : paid c l H (n+1) = paid c l H n + (if hitOf l H n then 0 else c (l[n]?.getD 0)) := rfl
    by_cases hp : l[n]?.getD 0 ∈ S
    · refine ⟨S, x, .there hz hl hp, fun p hq => ?_, by omega⟩
      rcases hS.sub n hl p hq with rfl | h
      · exact hp
      · exact hsub p h
    · have hh : ¬ (hitOf l H n = true) := fun h => hp (hsub _ (List.contains_iff_mem.1 h))
      rw [if_neg hh] at e
      by_cases hr : S.length < s
      · refine ⟨_, _, .room hz hl hp hr, fun p hq => ?_, by omega⟩
        rcases hS.sub n hl p hq with rfl | h
        · simp
        · exact List.mem_cons_of_mem _ (hsub p h)
      · have hs : S.length = s := by omega
        obtain ⟨q, hq, hqo⟩ : ∃ q, q ∈ S ∧ q ∉ H (n+1) := by
          apply Classical.byContradiction
          intro hno
          have hall : ∀ q, q ∈ S → q ∈ H (n+1) := fun q hq => Classical.byContradiction fun h => hno ⟨q, hq, h⟩
          have := length_le_of_subset (A := l[n]?.getD 0 :: S) (B := H (n+1)) (List.nodup_cons.2 ⟨hp, f.2.1⟩) fun p h => by
            rcases List.mem_cons.1 h with rfl | h
            · exact hS.got n hl
            · exact hall p h
          rw [List.length_cons] at this
          have := hS.le (n+1) hn
          omega
        refine ⟨_, _, .goes hz hl hp hs hq, fun p hq2 => ?_, by omega⟩
        rcases hS.sub n hl p hq2 with rfl | h
        · simp
        · have hne : p ≠ q := fun e => hqo (e ▸ hq2)
          exact List.mem_cons_of_mem _ ((List.mem_erase_of_ne hne).2 (hsub p h))
/-- The least from state to state is the least. -/
theorem least_lazy {s : Nat} {c : Int → Nat} {l : List Int} {x : Nat} (h1 : ∃ S, Lazy s c l l.length S x) (h2 : ∀ S y, Lazy s c l l.length S y → x ≤ y) : IsLeast s c l x := by
  obtain ⟨S, hz⟩ := h1
  obtain ⟨H, a, _, d⟩ := hz.sched
  rw [List.take_length] at a
  refine ⟨⟨H, a, d⟩, fun B hB => ?_⟩
  obtain ⟨T, y, hy, _, hle⟩ := lazy_low (c := c) hB l.length (Nat.le_refl _)
  exact Nat.le_trans (h2 T y hy) hle
/-- Some state there always is. -/
theorem can_some {s : Nat} (hs : 1 ≤ s) (c : Int → Nat) (l : List Int) : ∀ n, n ≤ l.length → ∃ S x, Lazy s c l n S x
  | 0, _ => ⟨[], 0, .start⟩
  | n + 1, hn => by
    obtain ⟨S, x, h⟩ := can_some hs c l n (by omega)
    have hl : n < l.length := by omega
    by_cases hp : l[n]?.getD 0 ∈ S
    · exact ⟨S, x, .there h hl hp⟩
    · by_cases hr : S.length < s
      · exact ⟨_, _, .room h hl hp hr⟩
      · have := h.facts.2.2.1
        have h0 : S ≠ [] := fun e => by rw [e] at hr; simp at hr; omega
        obtain ⟨q, r, rfl⟩ := List.exists_cons_of_ne_nil h0
        exact ⟨_, _, .goes h hl hp (by omega) (List.mem_cons_self)⟩
end Go.Proofs.YtedmfehjifknbaaDoor
