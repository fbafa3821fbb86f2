/- Lists and numbers alone, for chapter 11: the document's table of rows, as a row of numbers. -/
import Derived.Test.YtjafedijbainbaaDoorRefRows
import Derived.Test.YtjafedijbainbaaDoorOMid
namespace Go.Proofs.YtjafedijbainbaaDoor
set_option maxRecDepth 100000

/-- A cost, or none. -/
def vN : Option Nat → Int
  | none => -1
  | some x => x
def minO : Option Nat → Nat → Option Nat
  | none, y => some y
  | some z, y => if y < z then some y else some z
/-- A row of R numbers that tells T. -/
def rowR (R : Nat) (T : Nat → Option Nat) : List Int := (List.range R).map fun m => vN (T m)
def updO (T : Nat → Option Nat) (k : Nat) (o : Option Nat) : Nat → Option Nat := fun m => if m = k then o else T m
theorem rowR_length (R : Nat) (T : Nat → Option Nat) : (rowR R T).length = R := by unfold rowR; rw [List.length_map, List.length_range]
theorem rowR_get {R : Nat} (T : Nat → Option Nat) {m : Nat} (h : m < R) : (rowR R T)[m]?.getD 0 = vN (T m) := by
  unfold rowR
  rw [List.getElem?_map, List.getElem?_range h]; rfl
theorem rowR_set (R : Nat) (T : Nat → Option Nat) (k : Nat) (o : Option Nat) : (rowR R T).set k (vN o) = rowR R (updO T k o) := by
  refine List.ext_getElem? fun i => ?_
  rw [List.getElem?_set]
  unfold rowR
  rw [List.getElem?_map, List.getElem?_map, List.length_map, List.length_range]
  by_cases hi : i < R
  · rw [List.getElem?_range hi]
    by_cases e : k = i
    · subst e; rw [if_pos rfl, if_pos hi]; simp [updO]
    · rw [if_neg e]; simp [updO, Ne.symm e]
  · rw [List.getElem?_eq_none (by rw [List.length_range]; omega)]
    by_cases e : k = i
    · subst e; rw [if_pos rfl, if_neg hi]; rfl
    · rw [if_neg e]; rfl
theorem rowR_zero (R : Nat) : List.replicate R 0 = rowR R (fun _ => some 0) := by
  unfold rowR
  refine List.ext_getElem? fun i => ?_
  rw [List.getElem?_map, List.getElem?_replicate]
  by_cases hi : i < R
  · rw [List.getElem?_range hi, if_pos hi]; rfl
  · rw [List.getElem?_eq_none (by rw [List.length_range]; omega), if_neg hi]; rfl
theorem rowR_congr {R : Nat} {T T' : Nat → Option Nat} (h : ∀ m, m < R → T m = T' m) : rowR R T = rowR R T' := by
  unfold rowR
  exact List.map_congr_left fun m hm => by rw [h m (List.mem_range.1 hm)]
/-- The least of the first k. -/
def lowN (T : Nat → Option Nat) : Nat → Option Nat
  | 0 => none
  | k + 1 => match T k with
    | none => lowN T k
    | some x => minO (lowN T k) x
theorem lowN_none {T : Nat → Option Nat} {k : Nat} (h : T k = none) : lowN T (k+1) = lowN T k := by rw [lowN, h]
theorem lowN_some {T : Nat → Option Nat} {k x : Nat} (h : T k = some x) : lowN T (k+1) = minO (lowN T k) x := by rw [lowN, h]
theorem lowN_facts (T : Nat → Option Nat) : ∀ k, (∀ z, lowN T k = some z → ∃ m, m < k ∧ T m = some z) ∧ ∀ m x, m < k → T m = some x → ∃ z, lowN T k = some z ∧ z ≤ x
  | 0 => ⟨fun _ h => (by cases h), fun _ _ h => absurd h (Nat.not_lt_zero _)⟩
  | k + 1 => by
    obtain ⟨h1, h2⟩ := lowN_facts T k
    unfold lowN
    cases hT : T k with
    | none =>
      refine ⟨fun z e => ?_, fun m x hm e => ?_⟩
      · obtain ⟨m, hm, r⟩ := h1 z e; exact ⟨m, by omega, r⟩
      · have : m ≠ k := fun e2 => by subst e2; rw [hT] at e; cases e
        exact h2 m x (by omega) e
    | some y =>
      simp only []
      cases hl : lowN T k with
      | none =>
        refine ⟨fun z e => ?_, fun m x hm e => ?_⟩
        · simp [minO] at e; subst e; exact ⟨k, by omega, hT⟩
        · by_cases e2 : m = k
          · subst e2; rw [hT] at e; cases e; exact ⟨y, rfl, Nat.le_refl _⟩
          · obtain ⟨z, hz, _⟩ := h2 m x (by omega) e
            rw [hl] at hz; cases hz
      | some z0 =>
        refine ⟨fun z e => ?_, fun m x hm e => ?_⟩
        · simp only [minO] at e
          split at e
          · simp at e; subst e; exact ⟨k, by omega, hT⟩
          · simp at e; subst e
            obtain ⟨m, hm, r⟩ := h1 z0 hl; exact ⟨m, by omega, r⟩
        · simp only [minO]
          by_cases e2 : m = k
          · subst e2; rw [hT] at e; cases e
            split
            · exact ⟨y, rfl, Nat.le_refl _⟩
            · exact ⟨z0, rfl, by omega⟩
          · obtain ⟨z, hz, hle⟩ := h2 m x (by omega) e
            rw [hl] at hz; cases hz
            split
            · exact ⟨y, rfl, by omega⟩
            · exact ⟨z0, rfl, hle⟩

/- All rows, by their numbers. -/
def chkRows (n : Nat) : Bool := decide (rowsL n).Nodup && ((rowsL n).all fun r => (perms n).any fun s => s.row n == r) && ((perms n).all fun s => (rowsL n).contains (s.row n)) && ((rowsL n).all fun r => (swp r (Un n) n == 0) == (r == Un n)) && decide (1 ≤ (rowsL n).length)
theorem rows_ok {n : Nat} (h1 : 1 ≤ n) (h4 : n ≤ 4) : chkRows n = true := by
  rcases four_n h1 h4 with rfl | rfl | rfl | rfl <;> decide +kernel
theorem rowsL_nodup {n : Nat} (h1 : 1 ≤ n) (h4 : n ≤ 4) : (rowsL n).Nodup := by
  have := rows_ok h1 h4
  unfold chkRows at this
  simp only [Bool.and_eq_true, decide_eq_true_iff] at this
  exact this.1.1.1.1
theorem rowsL_row {n : Nat} (h1 : 1 ≤ n) (h4 : n ≤ 4) {B : List Int} : B ∈ rowsL n ↔ Row (Un n) B := by
  have := rows_ok h1 h4
  unfold chkRows at this
  simp only [Bool.and_eq_true] at this
  constructor
  · intro hB
    obtain ⟨s, hs, e⟩ := List.any_eq_true.1 (List.all_eq_true.1 this.1.1.1.2 B hB)
    have e2 : s.row n = B := by simpa using e
    exact e2 ▸ row_perm h1 h4 hs
  · intro hB
    obtain ⟨s, hs, e⟩ := row_of h4 hB
    have := List.all_eq_true.1 this.1.1.2 s hs
    rw [e] at this
    exact List.contains_iff_mem.1 this
theorem rowsL_swp {n : Nat} (h1 : 1 ≤ n) (h4 : n ≤ 4) {B : List Int} (h : B ∈ rowsL n) : swp B (Un n) n = 0 ↔ B = Un n := by
  have := rows_ok h1 h4
  unfold chkRows at this
  simp only [Bool.and_eq_true] at this
  have h2 := List.all_eq_true.1 this.1.2 B h
  have h3 : (swp B (Un n) n == 0) = (B == Un n) := by simpa using h2
  constructor
  · intro e
    rw [e] at h3
    simpa using h3.symm
  · intro e
    have : (B == Un n) = true := by simpa using e
    rw [this] at h3
    simpa using h3
theorem rowAt_idx {L : List (List Int)} {B : List Int} (h : B ∈ L) : L.idxOf B < L.length ∧ rowAt L (L.idxOf B) = B := by
  have h1 := List.idxOf_lt_length_iff.2 h
  refine ⟨h1, ?_⟩
  unfold rowAt
  rw [List.getElem?_eq_getElem h1, Option.getD_some, List.getElem_idxOf]
theorem rowAt_inj {L : List (List Int)} (hn : L.Nodup) {i j : Nat} (hi : i < L.length) (hj : j < L.length) (h : rowAt L i = rowAt L j) : i = j := by
  unfold rowAt at h
  rw [List.getElem?_eq_getElem hi, List.getElem?_eq_getElem hj] at h
  exact (List.getElem_inj hn).1 h
/-- What numbers tell of rows. -/
def TI (n : Nat) (N : Nat → Option Nat) (B : List Int) : Option Nat := if B ∈ rowsL n then N ((rowsL n).idxOf B) else none
theorem TI_at {n : Nat} (h1 : 1 ≤ n) (h4 : n ≤ 4) {N : Nat → Option Nat} {k : Nat} (hk : k < (rowsL n).length) : TI n N (rowAt (rowsL n) k) = N k := by
  unfold TI
  rw [if_pos (rowAt_mem hk)]
  have h := rowAt_idx (rowAt_mem hk)
  rw [rowAt_inj (rowsL_nodup h1 h4) h.1 hk h.2]
theorem TI_some {n : Nat} {N : Nat → Option Nat} {B : List Int} {x : Nat} (h : TI n N B = some x) : ∃ k, k < (rowsL n).length ∧ rowAt (rowsL n) k = B ∧ N k = some x := by
  unfold TI at h
  split at h
  · rename_i hB
    have := rowAt_idx hB
    exact ⟨_, this.1, this.2, h⟩
  · cases h
/-- The table of numbers behind k requests. -/
def ITab (n : Nat) (l : List Int) (k : Nat) (N : Nat → Option Nat) : Prop := LTab (Un n) l k (TI n N)
theorem itab_start {n : Nat} (h1 : 1 ≤ n) (h4 : n ≤ 4) (l : List Int) {N : Nat → Option Nat} (h : ∀ k, k < (rowsL n).length → N k = if swp (rowAt (rowsL n) k) (Un n) n = 0 then some 0 else none) : ITab n l 0 N := by
  have hU : Un n ∈ rowsL n := (rowsL_row h1 h4).2 ⟨Un_nodup n, fun _ => Iff.rfl⟩
  refine ltab_start ?_ fun B hB => ?_
  · have hi := rowAt_idx hU
    rw [← hi.2, TI_at h1 h4 hi.1, h _ hi.1, hi.2, if_pos ((rowsL_swp h1 h4 hU).2 rfl)]
  · cases e : TI n N B with
    | none => rfl
    | some x =>
      obtain ⟨k, hk, hB2, hx⟩ := TI_some e
      rw [h k hk, if_neg] at hx
      · cases hx
      · intro e2
        exact hB (hB2.symm.trans ((rowsL_swp h1 h4 (rowAt_mem hk)).1 e2))
/-- In the midst of a request: from each row to that one. -/
def midG (n : Nat) (N : Nat → Option Nat) (k j : Nat) : Option Nat := (N j).map fun x => x + swp (rowAt (rowsL n) j) (rowAt (rowsL n) k) n
/-- Behind it. -/
def fwG (n : Nat) (x : Int) (M : Nat → Nat) (k j : Nat) : Option Nat := if fwB (rowAt (rowsL n) j) (rowAt (rowsL n) k) x = true then some (M j + pos (rowAt (rowsL n) j) x + 1) else none
theorem row_swp {n : Nat} (h1 : 1 ≤ n) (h4 : n ≤ 4) {A B : List Int} (hA : A ∈ rowsL n) : swp A B n = turn2 (Un n) A B := by
  have := swp_turn (B := B) (Un_nodup n) ((rowsL_row h1 h4).1 hA)
  rwa [(rowsL_few h4).2 A hA] at this
theorem fwB_fwd {A B : List Int} {x : Int} : fwB A B x = true ↔ Forward A B x := by
  unfold fwB
  simp only [Bool.and_eq_true, beq_iff_eq, decide_eq_true_iff]
  exact ⟨fun h => ⟨h.1, h.2⟩, fun h => ⟨h.rest, h.le⟩⟩
theorem itab_succ {n : Nat} (h1 : 1 ≤ n) (h4 : n ≤ 4) {l : List Int} {i : Nat} (hi : i < l.length) {x : Int} (hx : l[i]?.getD 0 = x) {N T : Nat → Option Nat} (M : Nat → Nat) (h : ITab n l i N)
    (hM : ∀ k, k < (rowsL n).length → lowN (midG n N k) (rowsL n).length = some (M k)) (hT : ∀ k, k < (rowsL n).length → T k = lowN (fwG n x M k) (rowsL n).length) : ITab n l (i+1) T := by
  refine ltab_succ hi h (fun C z e => ?_) fun B y A C hB hA hC hf => ?_
  · obtain ⟨k, hk, rfl, hz⟩ := TI_some e
    rw [hT k hk] at hz
    obtain ⟨j, hj, hg⟩ := (lowN_facts _ _).1 z hz
    unfold fwG at hg
    split at hg
    · rename_i hf
      obtain ⟨b, hb, hgb⟩ := (lowN_facts _ _).1 _ (hM j hj)
      unfold midG at hgb
      obtain ⟨y, hy, hyM⟩ := Option.map_eq_some_iff.1 hgb
      refine ⟨rowAt (rowsL n) b, y, rowAt (rowsL n) j, by rw [TI_at h1 h4 hb]; exact hy, (rowsL_row h1 h4).1 (rowAt_mem hj), (rowsL_row h1 h4).1 (rowAt_mem hk), by rw [hx]; exact fwB_fwd.1 hf, ?_⟩
      rw [hx, ← row_swp h1 h4 (rowAt_mem hb), hyM]
      exact (Option.some.inj hg).symm
    · cases hg
  · obtain ⟨b, hb, rfl, hy⟩ := TI_some hB
    obtain ⟨ha, hA2⟩ := rowAt_idx ((rowsL_row h1 h4).2 hA)
    obtain ⟨hc, hC2⟩ := rowAt_idx ((rowsL_row h1 h4).2 hC)
    rw [hx] at hf ⊢
    obtain ⟨m, hm, hmle⟩ := (lowN_facts (midG n N ((rowsL n).idxOf A)) _).2 b _ hb (by unfold midG; rw [hy]; rfl)
    rw [hM _ ha] at hm
    have hMm := Option.some.inj hm
    rw [hA2] at hmle
    have hmle : m ≤ y + swp (rowAt (rowsL n) b) A n := hmle
    obtain ⟨z, hz, hzle⟩ := (lowN_facts (fwG n x M ((rowsL n).idxOf C)) (rowsL n).length).2 ((rowsL n).idxOf A) _ ha (by unfold fwG; rw [hA2, hC2, if_pos (fwB_fwd.2 hf)])
    refine ⟨z, by rw [← hC2, TI_at h1 h4 hc, hT _ hc]; exact hz, ?_⟩
    rw [← row_swp h1 h4 (rowAt_mem hb)]
    omega
theorem itab_some {n : Nat} {l : List Int} (hl : ∀ p, p ∈ l → p ∈ Un n) {k : Nat} (hk : k ≤ l.length) {N : Nat → Option Nat} (h : ITab n l k N) : ∃ j x, j < (rowsL n).length ∧ N j = some x := by
  have hw := way_looks (f := fun a => a) (fun _ => Nat.le_refl _) (Un_nodup n) hl k hk
  obtain ⟨y, hy, _⟩ := h.2 _ _ hw
  obtain ⟨j, hj, _, hx⟩ := TI_some hy
  exact ⟨j, y, hj, hx⟩
theorem itab_lt {n : Nat} (h1 : 1 ≤ n) (h4 : n ≤ 4) {l : List Int} (hl : ∀ p, p ∈ l → p ∈ Un n) {k : Nat} {N : Nat → Option Nat} (h : ITab n l k N) : ∀ j x, j < (rowsL n).length → N j = some x → x ≤ 20 * k := fun j x hj e =>
  looks_most h4 hl (h.1 (rowAt (rowsL n) j) x (by rw [TI_at h1 h4 hj]; exact e))
theorem mid_some {n : Nat} {l : List Int} (hl : ∀ p, p ∈ l → p ∈ Un n) {k : Nat} (hk : k ≤ l.length) {N : Nat → Option Nat} (h : ITab n l k N) : ∃ M : Nat → Nat, ∀ j, j < (rowsL n).length → lowN (midG n N j) (rowsL n).length = some (M j) := by
  obtain ⟨b, x, hb, hx⟩ := itab_some hl hk h
  refine ⟨fun j => (lowN (midG n N j) (rowsL n).length).getD 0, fun j hj => ?_⟩
  obtain ⟨z, hz, _⟩ := (lowN_facts (midG n N j) (rowsL n).length).2 b _ hb (by unfold midG; rw [hx]; rfl)
  exact hz.trans (by show some z = some ((lowN (midG n N j) (rowsL n).length).getD 0); rw [hz]; rfl)
theorem itab_least {n : Nat} (h1 : 1 ≤ n) (h4 : n ≤ 4) {l : List Int} (hl : ∀ p, p ∈ l → p ∈ Un n) {N : Nat → Option Nat} (h : ITab n l l.length N) : ∃ x, lowN N (rowsL n).length = some x ∧ LeastLook (Un n) l x := by
  obtain ⟨b, y, hb, hy⟩ := itab_some hl (Nat.le_refl _) h
  obtain ⟨x, hx, _⟩ := (lowN_facts N (rowsL n).length).2 b y hb hy
  refine ⟨x, hx, ltab_least h ?_ fun B z hz => ?_⟩
  · obtain ⟨m, hm, e⟩ := (lowN_facts N _).1 x hx
    exact ⟨rowAt (rowsL n) m, by rw [TI_at h1 h4 hm]; exact e⟩
  · obtain ⟨j, hj, _, hz2⟩ := TI_some hz
    obtain ⟨x2, hx2, hle⟩ := (lowN_facts N _).2 j z hj hz2
    rw [hx] at hx2
    cases hx2
    exact hle
end Go.Proofs.YtjafedijbainbaaDoor
