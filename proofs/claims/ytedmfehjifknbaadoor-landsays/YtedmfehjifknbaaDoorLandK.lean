/- Lists and numbers alone, for chapter 10: what is wrong with requests and costs; what the program's own steps come to. -/
import Derived.Test.YtedmfehjifknbaaDoorBase
import Derived.Test.YtedmfehjifknbaaDoorLists
namespace Go.Proofs.YtedmfehjifknbaaDoor

def badC (c : Int) : Bool := decide (c < 0) || decide (20 < c)
def badP (n : Nat) (p : Int) : Bool := decide (p < 0) || decide ((n : Int) ≤ p)
/-- What is wrong with requests, costs, slots. -/
def chkC (l c : List Int) (s : Int) : Nat :=
  if 40 < l.length ∨ 6 < c.length then 4 else if c.any badC then 1 else if l.any (badP c.length) then 1 else if s < 1 ∨ 8 < s then 1 else 0

theorem any_succ {f : Int → Bool} {l : List Int} {k : Nat} (h : k < l.length) (h0 : (l.take k).any f = false) (hb : f (l[k]?.getD 0) = false) : (l.take (k+1)).any f = false := by
  rw [List.take_succ_eq_append_getElem h, List.any_append, h0]
  simp [List.getElem?_eq_getElem h] at hb ⊢
  exact hb
theorem any_here {f : Int → Bool} {l : List Int} {k : Nat} (h : k < l.length) (hb : f (l[k]?.getD 0) = true) : l.any f = true := by
  rw [List.any_eq_true]
  exact ⟨l[k], List.getElem_mem h, by simpa [List.getElem?_eq_getElem h] using hb⟩
theorem chkC_long {l c : List Int} {s : Int} (h : 40 < l.length ∨ 6 < c.length) : chkC l c s = 4 := by simp only [chkC, h, if_true]
theorem chkC_cost {l c : List Int} {s : Int} (h : l.length ≤ 40) (h2 : c.length ≤ 6) (hb : c.any badC = true) : chkC l c s = 1 := by
  have : ¬ (40 < l.length ∨ 6 < c.length) := by omega
  simp [chkC, this, hb]
theorem chkC_page {l c : List Int} {s : Int} (h : l.length ≤ 40) (h2 : c.length ≤ 6) (hb : l.any (badP c.length) = true) : chkC l c s = 1 := by
  have : ¬ (40 < l.length ∨ 6 < c.length) := by omega
  simp [chkC, this, hb]
theorem chkC_slots {l c : List Int} {s : Int} (h : l.length ≤ 40) (h2 : c.length ≤ 6) (hb : s < 1 ∨ 8 < s) : chkC l c s = 1 := by
  have : ¬ (40 < l.length ∨ 6 < c.length) := by omega
  simp [chkC, this, hb]
theorem chkC_ok {l c : List Int} {s : Int} (h : l.length ≤ 40) (h2 : c.length ≤ 6) (hc : c.any badC = false) (hp : l.any (badP c.length) = false) (hs : 1 ≤ s ∧ s ≤ 8) : chkC l c s = 0 := by
  have h1 : ¬ (40 < l.length ∨ 6 < c.length) := by omega
  have h3 : ¬ (s < 1 ∨ 8 < s) := by omega
  simp [chkC, h1, hc, hp, h3]
theorem chkC_cases (l c : List Int) (s : Int) : chkC l c s = 0 ∨ chkC l c s = 1 ∨ chkC l c s = 4 := by
  unfold chkC
  repeat' split
  all_goals simp
structure FineC (l c : List Int) (s : Int) : Prop where
  reqs : l.length ≤ 40
  costs : c.length ≤ 6
  cost : ∀ k, k < c.length → 0 ≤ c[k]?.getD 0 ∧ c[k]?.getD 0 ≤ 20
  page : ∀ k, k < l.length → 0 ≤ l[k]?.getD 0 ∧ l[k]?.getD 0 < c.length
  slots : 1 ≤ s ∧ s ≤ 8
theorem chkC_zero {l c : List Int} {s : Int} (h : chkC l c s = 0) : FineC l c s := by
  by_cases h1 : 40 < l.length ∨ 6 < c.length
  · rw [chkC_long h1] at h; cases h
  have h40 : l.length ≤ 40 := by omega
  have h6 : c.length ≤ 6 := by omega
  cases hc : c.any badC with
  | true => rw [chkC_cost h40 h6 hc] at h; cases h
  | false =>
    cases hp : l.any (badP c.length) with
    | true => rw [chkC_page h40 h6 hp] at h; cases h
    | false =>
      by_cases hs : s < 1 ∨ 8 < s
      · rw [chkC_slots h40 h6 hs] at h; cases h
      · refine ⟨h40, h6, fun k hk => ?_, fun k hk => ?_, by omega⟩
        · have := List.any_eq_false.1 hc (c[k]) (List.getElem_mem hk)
          rw [List.getElem?_eq_getElem hk]
          simp [badC] at this ⊢; omega
        · have := List.any_eq_false.1 hp (l[k]) (List.getElem_mem hk)
          rw [List.getElem?_eq_getElem hk]
          simp [badP] at this ⊢; omega
/-- What a page costs. -/
def cf (c : List Int) (p : Int) : Nat := (c[p.toNat]?.getD 0).toNat
theorem cf_le {l c : List Int} {s : Int} (h : FineC l c s) (p : Int) : cf c p ≤ 20 := by
  unfold cf
  by_cases hp : p.toNat < c.length
  · have := h.cost _ hp; omega
  · rw [List.getElem?_eq_none (by omega)]; simp
theorem cf_get {l c : List Int} {s : Int} (h : FineC l c s) {p : Int} (hp : p.toNat < c.length) : c[p.toNat]?.getD 0 = (cf c p : Int) := by
  have := h.cost _ hp
  unfold cf; omega

/-! The tenants, as the program has them. -/
def tenAt (st : List (Int × Nat)) (k : Nat) : Int × Nat := st[k]?.getD (0, 0)
theorem tenAt_lt {st : List (Int × Nat)} {k : Nat} (h : k < st.length) : tenAt st k = st[k] := by simp [tenAt, h]
theorem tenAt_mem {st : List (Int × Nat)} {k : Nat} (h : k < st.length) : tenAt st k ∈ st := by rw [tenAt_lt h]; exact List.getElem_mem h
/-- The place of a page among the tenants, or -1. -/
def placeT (st : List (Int × Nat)) (q : Int × Nat → Bool) : Int := if st.any q then ((st.findIdx q : Nat) : Int) else -1
theorem placeT_hit {st : List (Int × Nat)} {q : Int × Nat → Bool} {k : Nat} (hk : k < st.length) (h : q (tenAt st k) = true) (ha : ∀ j, j < k → q (tenAt st j) = false) : placeT st q = k := by
  have hm : st.any q = true := List.any_eq_true.2 ⟨_, tenAt_mem hk, h⟩
  unfold placeT
  rw [if_pos hm]
  have h1 : st.findIdx q < st.length := List.findIdx_lt_length.2 ⟨_, tenAt_mem hk, h⟩
  congr 1
  rcases Nat.lt_trichotomy (st.findIdx q) k with h2 | h2 | h2
  · have := ha _ h2
    rw [tenAt_lt h1, List.findIdx_getElem (w := h1)] at this; simp at this
  · exact h2
  · have := List.not_of_lt_findIdx (xs := st) (p := q) (i := k) h2
    rw [tenAt_lt hk] at h
    simp [h] at this
theorem placeT_miss {st : List (Int × Nat)} {q : Int × Nat → Bool} (ha : ∀ j, j < st.length → q (tenAt st j) = false) : placeT st q = -1 := by
  unfold placeT
  rw [if_neg]
  intro h
  obtain ⟨x, hx, hq⟩ := List.any_eq_true.1 h
  obtain ⟨j, hj, rfl⟩ := List.getElem_of_mem hx
  have := ha j hj
  rw [tenAt_lt hj, hq] at this; cases this

/-- The least of the first k, and the first. -/
def leastTo (st : List (Int × Nat)) : Nat → Nat
  | 0 => (tenAt st 0).2
  | k + 1 => min (leastTo st k) (tenAt st k).2
theorem leastTo_le {st : List (Int × Nat)} : ∀ {k j : Nat}, j < k → leastTo st k ≤ (tenAt st j).2
  | k + 1, j, h => by
    unfold leastTo
    by_cases e : j = k
    · subst e; exact Nat.min_le_right _ _
    · exact Nat.le_trans (Nat.min_le_left _ _) (leastTo_le (by omega))
theorem leastTo_mem {st : List (Int × Nat)} (h0 : 0 < st.length) : ∀ {k : Nat}, k ≤ st.length → ∃ x, x ∈ st ∧ x.2 = leastTo st k
  | 0, _ => ⟨_, tenAt_mem h0, rfl⟩
  | k + 1, h => by
    unfold leastTo
    rcases Nat.le_total (leastTo st k) (tenAt st k).2 with h1 | h1
    · rw [Nat.min_eq_left h1]; exact leastTo_mem h0 (by omega)
    · rw [Nat.min_eq_right h1]; exact ⟨_, tenAt_mem (by omega), rfl⟩
theorem leastTo_all {st : List (Int × Nat)} (h0 : 0 < st.length) : leastTo st st.length = leastOf st := by
  obtain ⟨x, hx, e⟩ := leastTo_mem h0 (Nat.le_refl st.length)
  obtain ⟨y, hy, e2⟩ := leastOf_mem (st := st) (by intro e; rw [e] at h0; simp at h0)
  have h1 := leastOf_le hx
  obtain ⟨j, hj, rfl⟩ := List.getElem_of_mem hy
  have h2 := leastTo_le (st := st) hj
  rw [tenAt_lt hj] at h2
  omega
/-- Less by d, the first k of them. -/
def lessTo (d : Nat) (st : List (Int × Nat)) (k : Nat) : List (Int × Nat) := lessBy d (st.take k) ++ st.drop k
theorem lessTo_length (d : Nat) (st : List (Int × Nat)) {k : Nat} (h : k ≤ st.length) : (lessTo d st k).length = st.length := by simp [lessTo, lessBy]; omega
theorem lessTo_zero (d : Nat) (st : List (Int × Nat)) : lessTo d st 0 = st := by simp [lessTo, lessBy]
theorem lessTo_all (d : Nat) (st : List (Int × Nat)) : lessTo d st st.length = lessBy d st := by simp [lessTo]
theorem lessTo_at {d : Nat} {st : List (Int × Nat)} {k : Nat} (h : k < st.length) : tenAt (lessTo d st k) k = tenAt st k := by
  unfold lessTo tenAt
  rw [List.getElem?_append_right (by simp [lessBy]; omega)]
  simp [lessBy, Nat.min_eq_left (Nat.le_of_lt h)]
theorem lessTo_succ {d : Nat} {st : List (Int × Nat)} {k : Nat} (h : k < st.length) : (lessTo d st k).set k ((tenAt st k).1, (tenAt st k).2 - d) = lessTo d st (k+1) := by
  unfold lessTo
  have hl : (lessBy d (st.take k)).length = k := by simp [lessBy]; omega
  rw [List.set_append_right _ _ (by omega), hl, Nat.sub_self, List.drop_eq_getElem_cons h, List.set_cons_zero, List.take_succ_eq_append_getElem h, tenAt_lt h]
  unfold lessBy
  rw [List.map_append, List.append_assoc]
  rfl
/-- Who goes: the first that has nothing left. -/
theorem out_any {st : List (Int × Nat)} (h0 : 0 < st.length) : (lessBy (leastOf st) st).any (fun x => x.2 == 0) = true := by
  obtain ⟨x, hx, e⟩ := leastOf_mem (st := st) (by intro e; rw [e] at h0; simp at h0)
  refine List.any_eq_true.2 ⟨(x.1, x.2 - leastOf st), List.mem_map.2 ⟨x, hx, rfl⟩, ?_⟩
  simp; omega
theorem out_find {st : List (Int × Nat)} : ∀ (A : List (Int × Nat)) (d : Nat), (∀ x, x ∈ A → d ≤ x.2) → (lessBy d A).findIdx (fun x => x.2 == 0) = A.findIdx (fun x => x.2 == d)
  | [], _, _ => rfl
  | x :: A, d, h => by
    have ih := out_find (st := st) A d fun y hy => h y (List.mem_cons_of_mem _ hy)
    have hx := h x List.mem_cons_self
    show ((x.1, x.2 - d) :: lessBy d A).findIdx _ = _
    rw [List.findIdx_cons, List.findIdx_cons, ih]
    have : ((x.2 - d == 0) : Bool) = (x.2 == d) := by rw [Bool.eq_iff_iff]; simp; omega
    simp only [this]
theorem letOut_is {st : List (Int × Nat)} (h0 : 0 < st.length) : (lessBy (leastOf st) st).eraseIdx ((lessBy (leastOf st) st).findIdx fun x => x.2 == 0) = letOut st := by
  rw [out_find (st := st) st _ fun x hx => leastOf_le hx]
  unfold letOut lessBy
  rw [List.eraseP_eq_eraseIdx]
  obtain ⟨x, hx, e⟩ := leastOf_mem (st := st) (by intro e; rw [e] at h0; simp at h0)
  have h1 : st.findIdx (fun x => x.2 == leastOf st) < st.length := List.findIdx_lt_length.2 ⟨x, hx, by simp [e]⟩
  rw [List.findIdx?_eq_some_iff_findIdx_eq.2 ⟨h1, rfl⟩]
  simp only []
  rw [List.eraseIdx_eq_take_drop_succ, List.eraseIdx_eq_take_drop_succ, List.map_append, List.map_take, List.map_drop]
theorem out_lt {st : List (Int × Nat)} (h0 : 0 < st.length) : ((lessBy (leastOf st) st).findIdx fun x => x.2 == 0) < st.length := by
  have := out_any h0
  obtain ⟨x, hx, e⟩ := List.any_eq_true.1 this
  have := List.findIdx_lt_length (p := fun x : Int × Nat => x.2 == 0).2 ⟨x, hx, e⟩
  simpa [lessBy] using this
theorem again_set {st : List (Int × Nat)} (hn : (tenants st).Nodup) {p : Int} (h : p ∈ tenants st) (v : Nat) : st.set (st.findIdx fun x => x.1 == p) (p, v) = again p v st := by
  induction st with
  | nil => rfl
  | cons x st ih =>
    rw [List.findIdx_cons]
    by_cases e : x.1 = p
    · have hno : p ∉ tenants st := by
        have := (List.nodup_cons.1 (show (x.1 :: tenants st).Nodup from hn)).1
        rwa [e] at this
      simp only [e, beq_self_eq_true, cond_true, List.set_cons_zero]
      show _ = (if x.1 = p then (x.1, v) else x) :: again p v st
      rw [if_pos e, again_out hno, e]
    · have : (x.1 == p) = false := by simpa using e
      simp only [this, cond_false, List.set_cons_succ]
      show _ = (if x.1 = p then (x.1, v) else x) :: again p v st
      rw [if_neg e, ih (List.nodup_cons.1 (show (x.1 :: tenants st).Nodup from hn)).2]
      rcases List.mem_cons.1 (show p ∈ x.1 :: tenants st from h) with h1 | h1
      · exact absurd h1.symm e
      · exact h1
theorem any_ten {st : List (Int × Nat)} {p : Int} : (st.any fun x => x.1 == p) = true ↔ p ∈ tenants st := by
  rw [List.any_eq_true]
  constructor
  · rintro ⟨x, hx, e⟩; exact List.mem_map.2 ⟨x, hx, by simpa using e⟩
  · intro h
    obtain ⟨x, hx, e⟩ := List.mem_map.1 h
    exact ⟨x, hx, by simpa using e⟩
def creds (st : List (Int × Nat)) : List Int := st.map fun x => (x.2 : Int)
end Go.Proofs.YtedmfehjifknbaaDoor
