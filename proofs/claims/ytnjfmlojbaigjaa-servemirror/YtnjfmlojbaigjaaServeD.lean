/- Lists alone, for chapter 14: how the program lets servers go, step by step, on a rising list; it is to go from both sides, or the nearest one goes. -/
import Derived.Test.YtnjfmlojbaigjaaServeN
namespace Go.Proofs.Ytnjfmlojbaigjaa

def zle (x y : Int) : Bool := decide (x ≤ y)
/-- A rising list. -/
def Ris (l : List Int) : Prop := l.Pairwise (· ≤ ·)
/-- How many stand ahead of a place. -/
def posS (l : List Int) (r : Int) : Nat := l.countP fun t => decide (t < r)
theorem posS_le (l : List Int) (r : Int) : posS l r ≤ l.length := List.countP_le_length
theorem posS_iff (r : Int) : ∀ {l : List Int}, Ris l → ∀ i, i < l.length → (i < posS l r ↔ l[i]?.getD 0 < r)
  | [], _, i, h => absurd h (Nat.not_lt_zero _)
  | t :: l, h, i, hi => by
    have hr := List.pairwise_cons.1 h
    by_cases ht : t < r
    · have e : posS (t :: l) r = posS l r + 1 := List.countP_cons_of_pos (by simpa using ht)
      rw [e]
      cases i with
      | zero => simpa using ht
      | succ i =>
        have := posS_iff r hr.2 i (by simpa using hi)
        rw [List.getElem?_cons_succ, ← this]; omega
    · have e0 : posS (t :: l) r = 0 := by
        unfold posS
        rw [List.countP_eq_zero]
        intro x hx
        rcases List.mem_cons.1 hx with rfl | hx
        · simpa using ht
        · have := hr.1 x hx
          simp; omega
      rw [e0]
      have hm : t ≤ (t :: l)[i]?.getD 0 := by
        cases i with
        | zero => simp
        | succ i =>
          have hi2 : i < l.length := by simpa using hi
          rw [List.getElem?_cons_succ, List.getElem?_eq_getElem hi2, Option.getD_some]
          exact hr.1 _ (List.getElem_mem hi2)
      constructor
      · intro h; omega
      · intro h; omega
theorem ris_get {l : List Int} (h : Ris l) {i j : Nat} (hij : i ≤ j) (hj : j < l.length) : l[i]?.getD 0 ≤ l[j]?.getD 0 := by
  rw [List.getElem?_eq_getElem hj, List.getElem?_eq_getElem (show i < l.length by omega), Option.getD_some, Option.getD_some]
  by_cases e : i = j
  · subst e; exact Int.le_refl _
  · exact List.pairwise_iff_getElem.1 h i j (by omega) hj (by omega)
theorem get_mem {l : List Int} {i : Nat} (hi : i < l.length) : l[i]?.getD 0 ∈ l := by
  rw [List.getElem?_eq_getElem hi]; exact List.getElem_mem hi
theorem mem_get {l : List Int} {z : Int} (h : z ∈ l) : ∃ i, i < l.length ∧ l[i]?.getD 0 = z := by
  obtain ⟨i, hi, e⟩ := List.getElem_of_mem h
  exact ⟨i, hi, by rw [List.getElem?_eq_getElem hi]; exact e⟩
theorem set_get {l : List Int} {i : Nat} (v : Int) (hi : i < l.length) (j : Nat) : (l.set i v)[j]?.getD 0 = if j = i then v else l[j]?.getD 0 := by
  rw [List.getElem?_set]
  by_cases e : i = j
  · subst e; rw [if_pos rfl, if_pos hi, if_pos rfl]; rfl
  · rw [if_neg e, if_neg (Ne.symm e)]
theorem ris_of {l : List Int} (h : ∀ i, i + 1 < l.length → l[i]?.getD 0 ≤ l[i+1]?.getD 0) : Ris l := by
  unfold Ris
  rw [List.pairwise_iff_getElem]
  have step : ∀ d i, i + d < l.length → l[i]?.getD 0 ≤ l[i+d]?.getD 0 := by
    intro d
    induction d with
    | zero => intro i _; exact Int.le_refl _
    | succ d ih =>
      intro i hi
      have h1 := ih i (by omega)
      have h2 := h (i + d) (by omega)
      rw [Nat.add_assoc] at h2
      omega
  intro i j hi hj hij
  have := step (j - i) i (by omega)
  rw [show i + (j - i) = j by omega, List.getElem?_eq_getElem hi, List.getElem?_eq_getElem hj] at this
  exact this
theorem ris_set {l : List Int} (h : Ris l) {i : Nat} (hi : i < l.length) (v : Int) (h1 : 0 < i → l[i-1]?.getD 0 ≤ v) (h2 : i + 1 < l.length → v ≤ l[i+1]?.getD 0) : Ris (l.set i v) := by
  refine ris_of fun j hj => ?_
  rw [List.length_set] at hj
  rw [set_get v hi, set_get v hi]
  by_cases e1 : j = i
  · subst e1
    rw [if_pos rfl, if_neg (by omega)]
    exact h2 hj
  · rw [if_neg e1]
    by_cases e2 : j + 1 = i
    · rw [if_pos e2]
      have := h1 (by omega)
      rwa [show i - 1 = j by omega] at this
    · rw [if_neg e2]
      exact ris_get h (Nat.le_succ _) hj

/-- Those between whom an ask lies go: both, as far as the nearer one has to, or the nearer one. -/
def goBetw (dbl : Bool) (l : List Int) (p : Nat) (r : Int) : List Int × Int :=
  if dbl then ((l.set (p-1) (l[p-1]?.getD 0 + min (r - l[p-1]?.getD 0) (l[p]?.getD 0 - r))).set p (l[p]?.getD 0 - min (r - l[p-1]?.getD 0) (l[p]?.getD 0 - r)), 2 * min (r - l[p-1]?.getD 0) (l[p]?.getD 0 - r))
  else if r - l[p-1]?.getD 0 ≤ l[p]?.getD 0 - r then (l.set (p-1) r, zabs (l[p-1]?.getD 0 - r)) else (l.set p r, zabs (l[p]?.getD 0 - r))
/-- One ask. -/
def goStep (dbl : Bool) (l : List Int) (r : Int) : List Int × Int :=
  if l.contains r then (l, 0)
  else if posS l r = 0 then (l.set 0 r, zabs (l[0]?.getD 0 - r))
  else if posS l r = l.length then (l.set (posS l r - 1) r, zabs (l[posS l r - 1]?.getD 0 - r))
  else goBetw dbl l (posS l r) r
/-- Where they are behind n asks. -/
def goRow (dbl : Bool) (s asks : List Int) : Nat → List Int
  | 0 => s.mergeSort zle
  | n + 1 => (goStep dbl (goRow dbl s asks n) (asks[n]?.getD 0)).1
/-- How far all went. -/
def goCost (dbl : Bool) (s asks : List Int) : Nat → Int
  | 0 => 0
  | n + 1 => goCost dbl s asks n + (goStep dbl (goRow dbl s asks n) (asks[n]?.getD 0)).2
theorem goStep_length (dbl : Bool) (l : List Int) (r : Int) : (goStep dbl l r).1.length = l.length := by
  unfold goStep goBetw
  repeat' split
  all_goals simp
theorem goRow_length (dbl : Bool) (s asks : List Int) : ∀ n, (goRow dbl s asks n).length = s.length
  | 0 => List.length_mergeSort _
  | n + 1 => by rw [goRow, goStep_length, goRow_length dbl s asks n]
/-- What a step from both sides is, or one of the nearest. -/
structure StepOk (dbl : Bool) (l : List Int) (r : Int) : Prop where
  ris : Ris (goStep dbl l r).1
  cost : 0 ≤ (goStep dbl l r).2 ∧ (goStep dbl l r).2 ≤ 12
  both : dbl = true → DStep l r (goStep dbl l r).1 (goStep dbl l r).2
  near : dbl = false → ∃ q, q ∈ l ∧ (goStep dbl l r).1.Perm (r :: l.erase q) ∧ (goStep dbl l r).2 = zabs (q - r) ∧ ∀ z, z ∈ l → zabs (q - r) ≤ zabs (z - r)
theorem stepOk (dbl : Bool) {l : List Int} {r : Int} (hl : Ris l) (h0 : l ≠ []) (hx : onLine l) (hr : 0 ≤ r ∧ r ≤ 12) : StepOk dbl l r := by
  have hpos : 0 < l.length := List.length_pos_iff.2 h0
  have hple := posS_le l r
  have hlt : ∀ i, i < posS l r → l[i]?.getD 0 < r := fun i hi => (posS_iff r hl i (by omega)).1 hi
  have hge : ∀ i, posS l r ≤ i → i < l.length → r ≤ l[i]?.getD 0 := fun i h1 h2 => by
    have h3 : ¬ l[i]?.getD 0 < r := fun h => by have := (posS_iff r hl i h2).2 h; omega
    omega
  have hl12 : ∀ i, i < l.length → 0 ≤ l[i]?.getD 0 ∧ l[i]?.getD 0 ≤ 12 := fun i hi => hx _ (get_mem hi)
  by_cases hc : r ∈ l
  · have e : goStep dbl l r = (l, 0) := by unfold goStep; rw [if_pos (by simpa using hc)]
    refine ⟨by rw [e]; exact hl, by rw [e]; exact ⟨Int.le_refl _, by simp⟩, fun _ => by rw [e]; exact .there hc (List.Perm.refl _), fun _ => ⟨r, hc, ?_⟩⟩
    rw [e]
    exact ⟨List.perm_cons_erase hc, by unfold zabs; simp, fun z _ => by unfold zabs; omega⟩
  have hne : ∀ i, i < l.length → l[i]?.getD 0 ≠ r := fun i hi e => hc (e ▸ get_mem hi)
  have hnc : l.contains r = false := by simpa using hc
  generalize hp : posS l r = p at *
  by_cases hp0 : p = 0
  · subst hp0
    have e : goStep dbl l r = (l.set 0 r, zabs (l[0]?.getD 0 - r)) := by unfold goStep; rw [hnc, hp]; simp
    have hg := hge 0 (Nat.le_refl _) hpos
    have hn := hne 0 hpos
    have h12 := hl12 0 hpos
    have hall : ∀ z, z ∈ l → l[0]?.getD 0 ≤ z := fun z hz => by
      obtain ⟨i, hi, rfl⟩ := mem_get hz
      exact ris_get hl (Nat.zero_le _) hi
    have hz : zabs (l[0]?.getD 0 - r) = l[0]?.getD 0 - r := by unfold zabs; omega
    refine ⟨?_, ?_, fun _ => ?_, fun _ => ⟨l[0]?.getD 0, get_mem hpos, ?_⟩⟩
    · rw [e]
      refine ris_set hl hpos r (fun h => absurd h (Nat.lt_irrefl _)) fun h => ?_
      exact hge _ (Nat.zero_le _) h
    · rw [e]
      show 0 ≤ zabs _ ∧ zabs _ ≤ 12
      unfold zabs; omega
    · rw [e, hz]
      exact .low (get_mem hpos) hall (by omega) (set_perm r hpos)
    · rw [e]
      refine ⟨set_perm r hpos, rfl, fun z hzm => ?_⟩
      have := hall z hzm
      unfold zabs; omega
  · have hp1 : p - 1 < l.length := by omega
    have ha := hlt (p-1) (by omega)
    have ha12 := hl12 (p-1) hp1
    have hlow : ∀ z, z ∈ l → z ≤ l[p-1]?.getD 0 ∨ r < z := fun z hz => by
      obtain ⟨i, hi, rfl⟩ := mem_get hz
      by_cases hip : i < p
      · exact .inl (ris_get hl (by omega) hp1)
      · have := hge i (by omega) hi
        have := hne i hi
        exact .inr (by omega)
    by_cases hpl : p = l.length
    · have e : goStep dbl l r = (l.set (p-1) r, zabs (l[p-1]?.getD 0 - r)) := by unfold goStep; rw [hnc, if_neg (by simp), hp, if_neg hp0, if_pos hpl]
      have hall : ∀ z, z ∈ l → z ≤ l[p-1]?.getD 0 := fun z hz => by
        obtain ⟨i, hi, rfl⟩ := mem_get hz
        exact ris_get hl (by omega) hp1
      have hz : zabs (l[p-1]?.getD 0 - r) = r - l[p-1]?.getD 0 := by unfold zabs; omega
      refine ⟨?_, ?_, fun _ => ?_, fun _ => ⟨l[p-1]?.getD 0, get_mem hp1, ?_⟩⟩
      · rw [e]
        refine ris_set hl hp1 r (fun h => ?_) fun h => by omega
        have := hlt (p - 1 - 1) (by omega)
        omega
      · rw [e]
        show 0 ≤ zabs _ ∧ zabs _ ≤ 12
        unfold zabs; omega
      · rw [e, hz]
        exact .high (get_mem hp1) hall ha (set_perm r hp1)
      · rw [e]
        refine ⟨set_perm r hp1, rfl, fun z hzm => ?_⟩
        have := hall z hzm
        unfold zabs; omega
    · have hpL : p < l.length := by omega
      have e : goStep dbl l r = goBetw dbl l p r := by unfold goStep; rw [hnc, if_neg (by simp), hp, if_neg hp0, if_neg hpl]
      have hb := hge p (Nat.le_refl _) hpL
      have hbn := hne p hpL
      have hb12 := hl12 p hpL
      have hhigh : ∀ z, z ∈ l → z ≤ l[p-1]?.getD 0 ∨ l[p]?.getD 0 ≤ z := fun z hz => by
        obtain ⟨i, hi, rfl⟩ := mem_get hz
        by_cases hip : i < p
        · exact .inl (ris_get hl (by omega) hp1)
        · exact .inr (ris_get hl (by omega) hi)
      cases dbl with
      | true =>
        obtain ⟨d, hd⟩ : ∃ d, min (r - l[p-1]?.getD 0) (l[p]?.getD 0 - r) = d := ⟨_, rfl⟩
        have e2 : goStep true l r = ((l.set (p-1) (l[p-1]?.getD 0 + d)).set p (l[p]?.getD 0 - d), 2 * d) := by rw [e]; unfold goBetw; rw [if_pos rfl, hd]
        have hpL2 : p < (l.set (p-1) (l[p-1]?.getD 0 + d)).length := by rw [List.length_set]; exact hpL
        have hr1 : Ris (l.set (p-1) (l[p-1]?.getD 0 + d)) := by
          refine ris_set hl hp1 _ (fun h => ?_) fun h => ?_
          · have := ris_get hl (show p - 1 - 1 ≤ p - 1 by omega) hp1
            omega
          · rw [show p - 1 + 1 = p by omega]; omega
        refine ⟨?_, ?_, fun _ => ?_, fun h => (by cases h)⟩
        · rw [e2]
          refine ris_set hr1 hpL2 _ (fun _ => ?_) fun h => ?_
          · rw [set_get _ hp1, if_pos rfl]; omega
          · rw [List.length_set] at h
            rw [set_get _ hp1, if_neg (by omega)]
            have := ris_get hl (show p ≤ p + 1 by omega) h
            omega
        · rw [e2]
          show 0 ≤ 2 * d ∧ 2 * d ≤ 12
          omega
        · rw [e2]
          refine .both (get_mem hp1) (get_mem hpL) ha (by omega) hhigh hd.symm ?_
          have q1 := set_perm (l[p]?.getD 0 - d) hpL2
          rw [set_get _ hp1, if_neg (by omega)] at q1
          have q2 := (set_perm (l[p-1]?.getD 0 + d) hp1).erase (l[p]?.getD 0)
          rw [List.erase_cons_tail (by simp; omega)] at q2
          exact q1.trans ((q2.cons _).trans (List.Perm.swap _ _ _))
      | false =>
        by_cases hlr : r - l[p-1]?.getD 0 ≤ l[p]?.getD 0 - r
        · have e2 : goStep false l r = (l.set (p-1) r, zabs (l[p-1]?.getD 0 - r)) := by rw [e]; unfold goBetw; rw [if_neg (by simp), if_pos hlr]
          refine ⟨?_, ?_, fun h => (by cases h), fun _ => ⟨l[p-1]?.getD 0, get_mem hp1, ?_⟩⟩
          · rw [e2]
            refine ris_set hl hp1 r (fun h => ?_) fun h => ?_
            · have := hlt (p - 1 - 1) (by omega)
              omega
            · rw [show p - 1 + 1 = p by omega]; exact hb
          · rw [e2]
            show 0 ≤ zabs _ ∧ zabs _ ≤ 12
            unfold zabs; omega
          · rw [e2]
            refine ⟨set_perm r hp1, rfl, fun z hz => ?_⟩
            have := hhigh z hz
            unfold zabs; omega
        · have e2 : goStep false l r = (l.set p r, zabs (l[p]?.getD 0 - r)) := by rw [e]; unfold goBetw; rw [if_neg (by simp), if_neg hlr]
          refine ⟨?_, ?_, fun h => (by cases h), fun _ => ⟨l[p]?.getD 0, get_mem hpL, ?_⟩⟩
          · rw [e2]
            refine ris_set hl hpL r (fun h => ?_) fun h => ?_
            · omega
            · have := ris_get hl (show p ≤ p + 1 by omega) h
              omega
          · rw [e2]
            show 0 ≤ zabs _ ∧ zabs _ ≤ 12
            unfold zabs; omega
          · rw [e2]
            refine ⟨set_perm r hpL, rfl, fun z hz => ?_⟩
            have := hhigh z hz
            unfold zabs; omega
theorem zle_trans (a b c : Int) (h1 : zle a b = true) (h2 : zle b c = true) : zle a c = true := by simp [zle] at *; omega
theorem zle_total (a b : Int) : (zle a b || zle b a) = true := by simp [zle]; omega
theorem ris_sort (s : List Int) : Ris (s.mergeSort zle) := (List.pairwise_mergeSort zle_trans zle_total s).imp fun h => by simpa [zle] using h
theorem sort_perm (s : List Int) : (s.mergeSort zle).Perm s := List.mergeSort_perm s zle
theorem ris_unique {a b : List Int} (ha : Ris a) (hb : Ris b) (h : a.Perm b) : a = b :=
  List.Perm.eq_of_pairwise (le := fun x y => x ≤ y) (fun _ _ _ _ h1 h2 => Int.le_antisymm h1 h2) ha hb h
/-- What holds behind n asks. -/
structure RowOk (dbl : Bool) (s asks : List Int) (n : Nat) : Prop where
  ris : Ris (goRow dbl s asks n)
  line : onLine (goRow dbl s asks n)
  cost : 0 ≤ goCost dbl s asks n ∧ goCost dbl s asks n ≤ 12 * n
theorem rowOk (dbl : Bool) {s asks : List Int} (h0 : s ≠ []) (hs : onLine s) (ha : onLine asks) : ∀ n, n ≤ asks.length → RowOk dbl s asks n
  | 0, _ => ⟨ris_sort s, fun p hp => hs p ((sort_perm s).mem_iff.1 hp), by unfold goCost; omega⟩
  | n + 1, hn => by
    obtain ⟨h1, h2, h3⟩ := rowOk dbl h0 hs ha n (by omega)
    have hne : goRow dbl s asks n ≠ [] := fun e => by
      have := goRow_length dbl s asks n
      rw [e] at this
      exact h0 (List.eq_nil_of_length_eq_zero this.symm)
    have S := stepOk dbl h1 hne h2 (ask_in ha (show n < asks.length by omega))
    refine ⟨S.ris, ?_, ?_⟩
    · cases dbl with
      | true => exact ((S.both rfl).facts h2 (ask_in ha (by omega))).2.1
      | false =>
        obtain ⟨q, hq, hp, _⟩ := S.near rfl
        intro z hz
        rcases List.mem_cons.1 (hp.mem_iff.1 hz) with rfl | hz
        · exact ask_in ha (by omega)
        · exact h2 z (List.mem_of_mem_erase hz)
    · have := S.cost
      show 0 ≤ _ + _ ∧ _ + _ ≤ _
      omega
theorem rowNe (dbl : Bool) {s : List Int} (asks : List Int) (h0 : s ≠ []) (n : Nat) : goRow dbl s asks n ≠ [] := fun e => by
  have := goRow_length dbl s asks n
  rw [e] at this
  exact h0 (List.eq_nil_of_length_eq_zero this.symm)
/-- It is to go from both sides. -/
theorem row_both {s asks : List Int} (h0 : s ≠ []) (hs : onLine s) (ha : onLine asks) : ∀ n, n ≤ asks.length → Both s asks n (goRow true s asks n) (goCost true s asks n)
  | 0, _ => .start (sort_perm s)
  | n + 1, hn => by
    have R := rowOk true h0 hs ha n (by omega)
    exact .go (row_both h0 hs ha n (by omega)) (by omega) ((stepOk true R.ris (rowNe true asks h0 n) R.line (ask_in ha (by omega))).both rfl)
/-- The nearest one goes. -/
theorem row_near {s asks : List Int} (h0 : s ≠ []) (hs : onLine s) (ha : onLine asks) : ∀ n, n ≤ asks.length → ∃ y, y.Perm (goRow false s asks n) ∧ Goes s asks n y (goCost false s asks n)
  | 0, _ => ⟨s, (sort_perm s).symm, .start⟩
  | n + 1, hn => by
    obtain ⟨y, hy, hg⟩ := row_near h0 hs ha n (by omega)
    have R := rowOk false h0 hs ha n (by omega)
    obtain ⟨q, hq, hp, hc, _⟩ := (stepOk false R.ris (rowNe false asks h0 n) R.line (ask_in ha (show n < asks.length by omega))).near rfl
    refine ⟨goRow false s asks (n+1), List.Perm.refl _, ?_⟩
    have h2 : goCost false s asks (n+1) = goCost false s asks n + zabs (q - asks[n]?.getD 0) := by show _ + _ = _; rw [hc]
    rw [h2]
    exact .go hg (by omega) (hy.mem_iff.2 hq) (hp.trans ((hy.erase q).symm.cons _))
/-- Somebody is where it was asked for last. -/
theorem row_there (dbl : Bool) {s asks : List Int} (h0 : s ≠ []) (hs : onLine s) (ha : onLine asks) {n : Nat} (hn : n < asks.length) (hd : dbl = true ∨ dbl = false) : asks[n]?.getD 0 ∈ goRow dbl s asks (n+1) := by
  have R := rowOk dbl h0 hs ha n (by omega)
  have S := stepOk dbl R.ris (rowNe dbl asks h0 n) R.line (ask_in ha (show n < asks.length by omega))
  cases dbl with
  | true => exact ((S.both rfl).facts R.line (ask_in ha hn)).2.2.2
  | false =>
    obtain ⟨q, _, hp, _⟩ := S.near rfl
    exact hp.mem_iff.2 List.mem_cons_self
end Go.Proofs.Ytnjfmlojbaigjaa
