/- Several texts in one. -/
import Derived.Test.YtnjfmlojbaigjabKeep
/- Lists alone, for chapter 13: messages that wait till it is told; to wait for as much as telling costs is no more than twice the least. -/
namespace Go.Proofs.Ytnjfmlojbaigjab

/-- How long messages wait, together, up to a time. -/
def late : List Int → Int → Int
  | [], _ => 0
  | t :: r, a => (if t < a then a - t else 0) + late r a
theorem late_nonneg : ∀ (ts : List Int) (a : Int), 0 ≤ late ts a
  | [], _ => Int.le_refl _
  | t :: r, a => by
    have := late_nonneg r a
    rw [late]; split <;> omega
theorem late_mono {a b : Int} (h : a ≤ b) : ∀ ts : List Int, late ts a ≤ late ts b
  | [] => Int.le_refl _
  | t :: r => by
    have := late_mono h r
    rw [late, late]; split <;> split <;> omega
theorem late_append (A B : List Int) (a : Int) : late (A ++ B) a = late A a + late B a := by
  induction A with
  | nil => rw [List.nil_append, late]; omega
  | cons x A ih => rw [List.cons_append, late, late, ih]; omega
theorem late_none {ts : List Int} {a : Int} (h : ∀ t, t ∈ ts → a ≤ t) : late ts a = 0 := by
  induction ts with
  | nil => rfl
  | cons x r ih =>
    rw [late, ih fun t ht => h t (by simp [ht]), if_neg (by have := h x (by simp); omega)]; rfl
theorem late_head {t d : Int} (r : List Int) : d ≤ late (t :: r) (t + d) := by
  have := late_nonneg r (t + d)
  rw [late]; split <;> omega

/-- From a time on: the latest one up to which no more than the price was waited. -/
def tellAt (p : Int) (ts : List Int) : Nat → Int → Int
  | 0, a => a
  | f + 1, a => if late ts (a + 1) ≤ p then tellAt p ts f (a + 1) else a
structure TellAt (p : Int) (ts : List Int) (t a : Int) : Prop where
  from_ : t ≤ a
  now : late ts a ≤ p
  next : p < late ts (a + 1)
theorem tellAt_spec {p : Int} {ts : List Int} {t : Int} (hh : ∀ d : Int, 0 ≤ d → d ≤ late ts (t + d)) : ∀ (f : Nat) (a : Int), t ≤ a → late ts a ≤ p → p < a - t + f → TellAt p ts t (tellAt p ts f a)
  | 0, a, h1, h2, h3 => by
    have := hh (a - t) (by omega)
    rw [show t + (a - t) = a by omega] at this
    exact absurd h3 (by omega)
  | f + 1, a, h1, h2, h3 => by
    rw [tellAt]
    by_cases h : late ts (a + 1) ≤ p
    · rw [if_pos h]
      exact tellAt_spec hh f (a + 1) (by omega) h (by omega)
    · rw [if_neg h]
      exact ⟨h1, h2, by omega⟩
theorem tellAt_unique {p : Int} {ts : List Int} {t a b : Int} (ha : TellAt p ts t a) (hb : TellAt p ts t b) : a = b := by
  rcases Int.lt_trichotomy a b with h | h | h
  · have := late_mono (show a + 1 ≤ b by omega) ts
    have := ha.next
    have := hb.now
    omega
  · exact h
  · have := late_mono (show b + 1 ≤ a by omega) ts
    have := hb.next
    have := ha.now
    omega
/-- When it is told first. -/
def firstAt (p : Int) : List Int → Int
  | [] => 0
  | t :: r => tellAt p (t :: r) (p.toNat + 1) t
def rising (ts : List Int) : Prop := ts.Pairwise (· ≤ ·)
theorem firstAt_spec {p : Int} (hp : 0 ≤ p) {t : Int} {r : List Int} (hr : rising (t :: r)) : TellAt p (t :: r) t (firstAt p (t :: r)) := by
  have h0 : late (t :: r) t = 0 := late_none fun x hx => by
    rcases List.mem_cons.1 hx with rfl | hx
    · exact Int.le_refl _
    · exact (List.pairwise_cons.1 hr).1 x hx
  exact tellAt_spec (fun d _ => late_head r) _ t (Int.le_refl _) (by omega) (by omega)

def upto (a : Int) (ts : List Int) : List Int := ts.filter fun t => decide (t ≤ a)
def past (a : Int) (ts : List Int) : List Int := ts.filter fun t => decide (a < t)
theorem past_le (a : Int) (ts : List Int) : (past a ts).length ≤ ts.length := List.length_filter_le _ _
theorem parts {a : Int} : ∀ {ts : List Int}, rising ts → ts = upto a ts ++ past a ts
  | [], _ => rfl
  | t :: r, h => by
    have hr := List.pairwise_cons.1 h
    by_cases ht : t ≤ a
    · unfold upto past
      rw [List.filter_cons_of_pos (by simpa using ht), List.filter_cons_of_neg (by simp; omega), List.cons_append]
      exact congrArg (t :: ·) (parts hr.2)
    · have h1 : upto a (t :: r) = [] := List.filter_eq_nil_iff.2 fun x hx => by
        rcases List.mem_cons.1 hx with rfl | hx
        · simpa using ht
        · have := hr.1 x hx
          simp; omega
      have h2 : past a (t :: r) = t :: r := List.filter_eq_self.2 fun x hx => by
        rcases List.mem_cons.1 hx with rfl | hx
        · simp; omega
        · have := hr.1 x hx
          simp; omega
      rw [h1, h2]; rfl
theorem past_rising {a : Int} {ts : List Int} (h : rising ts) : rising (past a ts) := h.sublist List.filter_sublist
theorem past_head {p : Int} (hp : 0 ≤ p) {t : Int} {r : List Int} (hr : rising (t :: r)) : (past (firstAt p (t :: r)) (t :: r)).length ≤ r.length := by
  have h := (firstAt_spec hp hr).from_
  unfold past
  rw [List.filter_cons_of_neg (by simp; omega)]
  exact List.length_filter_le _ _
theorem late_upto {a b : Int} {ts : List Int} (hr : rising ts) (h : b ≤ a + 1) : late (upto a ts) b = late ts b := by
  conv => rhs; rw [parts (a := a) hr, late_append]
  rw [late_none (ts := past a ts) fun t ht => by
    have := (List.mem_filter.1 ht).2
    simp at this; omega]
  omega

/-- The times when it is told. -/
def told (p : Int) : Nat → List Int → List Int
  | 0, _ => []
  | _ + 1, [] => []
  | f + 1, t :: r => firstAt p (t :: r) :: told p f (past (firstAt p (t :: r)) (t :: r))
def tcost (p : Int) : Nat → List Int → Int
  | 0, _ => 0
  | _ + 1, [] => 0
  | f + 1, t :: r => p + late (upto (firstAt p (t :: r)) (t :: r)) (firstAt p (t :: r)) + tcost p f (past (firstAt p (t :: r)) (t :: r))
theorem told_fuel {p : Int} (hp : 0 ≤ p) : ∀ (f : Nat) (ts : List Int), rising ts → ts.length ≤ f → told p f ts = told p ts.length ts ∧ tcost p f ts = tcost p ts.length ts
  | 0, ts, _, h => by
    rw [List.eq_nil_of_length_eq_zero (Nat.le_zero.1 h)]; exact ⟨rfl, rfl⟩
  | f + 1, [], _, _ => ⟨rfl, rfl⟩
  | f + 1, t :: r, hr, h => by
    have hl := past_head hp hr
    have hpr := past_rising (a := firstAt p (t :: r)) hr
    rw [List.length_cons] at h
    have a := told_fuel hp f _ hpr (by omega)
    have b := told_fuel hp r.length _ hpr hl
    rw [List.length_cons, told, told, tcost, tcost, a.1, a.2, b.1, b.2]
    exact ⟨rfl, rfl⟩
/-- How often it is told. -/
def gc (p : Int) (ts : List Int) : Nat := (told p ts.length ts).length
def tc (p : Int) (ts : List Int) : Int := tcost p ts.length ts
theorem gc_cons {p : Int} (hp : 0 ≤ p) {t : Int} {r : List Int} (hr : rising (t :: r)) : gc p (t :: r) = gc p (past (firstAt p (t :: r)) (t :: r)) + 1 := by
  unfold gc
  rw [List.length_cons, told, List.length_cons, (told_fuel hp r.length _ (past_rising hr) (past_head hp hr)).1]
theorem tc_cons {p : Int} (hp : 0 ≤ p) {t : Int} {r : List Int} (hr : rising (t :: r)) : tc p (t :: r) = p + late (upto (firstAt p (t :: r)) (t :: r)) (firstAt p (t :: r)) + tc p (past (firstAt p (t :: r)) (t :: r)) := by
  unfold tc
  rw [List.length_cons, tcost, (told_fuel hp r.length _ (past_rising hr) (past_head hp hr)).2]
/-- Each telling costs no more than twice the price. -/
theorem tc_le {p : Int} (hp : 0 ≤ p) : ∀ (n : Nat) (ts : List Int), rising ts → ts.length ≤ n → tc p ts ≤ 2 * p * gc p ts
  | _, [], _, _ => by show (0 : Int) ≤ 2 * p * ((0 : Nat) : Int); simp
  | 0, t :: r, _, h => by simp at h
  | n + 1, t :: r, hr, h => by
    have hs := firstAt_spec hp hr
    have ih := tc_le hp n _ (past_rising (a := firstAt p (t :: r)) hr) (by have := past_head hp hr; rw [List.length_cons] at h; omega)
    rw [tc_cons hp hr, gc_cons hp hr, late_upto hr (by omega)]
    have := hs.now
    rw [Int.natCast_add, Int.mul_add]
    simp only [Int.natCast_one, Int.mul_one]
    omega
/-- Without the first ones it is told no more often. -/
theorem gc_drop {p : Int} (hp : 0 ≤ p) : ∀ (n : Nat) (ts : List Int), rising ts → ts.length ≤ n → ∀ C B : List Int, ts = C ++ B → gc p B ≤ gc p ts
  | _, [], _, _, C, B, h => by
    have : B = [] := (List.append_eq_nil_iff.1 h.symm).2
    rw [this]; exact Nat.le_refl _
  | 0, t :: r, _, h, _, _, _ => by simp at h
  | n + 1, t :: r, hr, h, C, B, hCB => by
    have hs := firstAt_spec hp hr
    have hl := past_head hp hr
    have hpt := parts (a := firstAt p (t :: r)) hr
    have hpr := past_rising (a := firstAt p (t :: r)) hr
    rw [List.length_cons] at h
    rw [gc_cons hp hr]
    have hBr : rising B := by
      have : rising (C ++ B) := hCB ▸ hr
      exact (List.pairwise_append.1 this).2.1
    cases hB : B with
    | nil => exact Nat.zero_le _
    | cons b B' =>
      rw [← hB]
      by_cases hin : b ≤ firstAt p (t :: r)
      · -- the rest begins within the first ones
        have hBr2 : rising (b :: B') := hB ▸ hBr
        have hsB := firstAt_spec hp hBr2
        have hle : firstAt p (t :: r) ≤ firstAt p (b :: B') := by
          apply Classical.byContradiction
          intro hno
          have h1 := late_mono (show firstAt p (b :: B') + 1 ≤ firstAt p (t :: r) by omega) (b :: B')
          have h2 : late (b :: B') (firstAt p (t :: r)) ≤ late (t :: r) (firstAt p (t :: r)) := by
            rw [hCB, late_append, hB]
            have := late_nonneg C (firstAt p (t :: r))
            rw [← hB, ← hCB]
            omega
          have := hs.now
          have := hsB.next
          omega
        rw [hB, gc_cons hp hBr2]
        have hsub : ∃ D, past (firstAt p (t :: r)) (t :: r) = D ++ past (firstAt p (b :: B')) (b :: B') := by
          have e1 : past (firstAt p (b :: B')) (past (firstAt p (t :: r)) (t :: r)) = past (firstAt p (b :: B')) (t :: r) := by
            unfold past
            rw [List.filter_filter]
            refine List.filter_congr fun x _ => ?_
            by_cases hx : firstAt p (b :: B') < x
            · rw [decide_eq_true hx, decide_eq_true (show firstAt p (t :: r) < x by omega)]; rfl
            · rw [decide_eq_false hx]; rfl
          have e2 : past (firstAt p (b :: B')) (t :: r) = past (firstAt p (b :: B')) C ++ past (firstAt p (b :: B')) (b :: B') := by
            conv => lhs; rw [hCB, hB]
            unfold past
            rw [List.filter_append]
          have e3 : past (firstAt p (b :: B')) C = [] := List.filter_eq_nil_iff.2 fun x hx => by
            have hC : rising (C ++ B) := hCB ▸ hr
            have := (List.pairwise_append.1 hC).2.2 x hx b (by rw [hB]; simp)
            have := hsB.from_
            simp; omega
          rw [e3, List.nil_append] at e2
          refine ⟨upto (firstAt p (b :: B')) (past (firstAt p (t :: r)) (t :: r)), ?_⟩
          conv => lhs; rw [parts (a := firstAt p (b :: B')) hpr]
          rw [e1, e2]
        obtain ⟨D, hD⟩ := hsub
        have := gc_drop hp n _ hpr (by omega) D _ hD
        omega
      · -- the rest lies behind the first ones
        have e : past (firstAt p (t :: r)) (t :: r) = past (firstAt p (t :: r)) C ++ B := by
          have h1 : past (firstAt p (t :: r)) B = B := List.filter_eq_self.2 fun x hx => by
            rw [hB] at hx
            rcases List.mem_cons.1 hx with rfl | hx
            · simp; omega
            · have := (List.pairwise_cons.1 (hB ▸ hBr : rising (b :: B'))).1 x hx
              simp; omega
          generalize firstAt p (t :: r) = a at *
          conv => rhs; rw [← h1]
          rw [hCB]
          unfold past
          rw [List.filter_append]
        have := gc_drop hp n _ hpr (by omega) _ B e
        omega
/-- Of one group of messages that somebody tells together, and the rest. -/
theorem gc_group {p : Int} (hp : 0 ≤ p) : ∀ (n : Nat) (ts : List Int), rising ts → ts.length ≤ n → ∀ (A B : List Int) (e : Int), ts = A ++ B → (∀ x, x ∈ A → x ≤ e) → (∀ x, x ∈ B → e ≤ x) → A ≠ [] → p * gc p ts ≤ p + late A e + p * gc p B
  | _, [], _, _, A, B, e, h, _, _, hA => absurd (List.append_eq_nil_iff.1 h.symm).1 hA
  | 0, t :: r, _, h, _, _, _, _, _, _, _ => by simp at h
  | n + 1, t :: r, hr, h, A, B, e, hAB, hAe, hBe, hA => by
    have hs := firstAt_spec hp hr
    have hl := past_head hp hr
    have hpt := parts (a := firstAt p (t :: r)) hr
    have hpr := past_rising (a := firstAt p (t :: r)) hr
    rw [List.length_cons] at h
    rw [gc_cons hp hr, Int.natCast_add, Int.mul_add, Int.natCast_one, Int.mul_one]
    have hln := late_nonneg A e
    have hABr : rising (A ++ B) := hAB ▸ hr
    by_cases hin : e ≤ firstAt p (t :: r)
    · -- it is told within the first ones
      have hB2 : past (firstAt p (t :: r)) A = [] := List.filter_eq_nil_iff.2 fun x hx => by
        have := hAe x hx
        simp; omega
      have e1 : past (firstAt p (t :: r)) (t :: r) = past (firstAt p (t :: r)) B := by
        generalize firstAt p (t :: r) = a at *
        rw [hAB]
        unfold past at hB2 ⊢
        rw [List.filter_append, hB2, List.nil_append]
      have hBr : rising B := (List.pairwise_append.1 hABr).2.1
      have h1 : gc p (past (firstAt p (t :: r)) B) ≤ gc p B := gc_drop hp B.length B hBr (Nat.le_refl _) (upto (firstAt p (t :: r)) B) _ (parts hBr)
      rw [e1]
      have h2 : p * (gc p (past (firstAt p (t :: r)) B) : Int) ≤ p * (gc p B : Int) := Int.mul_le_mul_of_nonneg_left (by omega) hp
      omega
    · -- the first ones wait longer than the price
      have hAr : rising A := (List.pairwise_append.1 hABr).1
      have hA2 := parts (a := firstAt p (t :: r)) hAr
      have hB1 : past (firstAt p (t :: r)) B = B := List.filter_eq_self.2 fun x hx => by
        have := hBe x hx
        simp; omega
      have hB0 : upto (firstAt p (t :: r)) B = [] := List.filter_eq_nil_iff.2 fun x hx => by
        have := hBe x hx
        simp; omega
      have e1 : past (firstAt p (t :: r)) (t :: r) = past (firstAt p (t :: r)) A ++ B := by
        generalize firstAt p (t :: r) = a at *
        conv => rhs; rw [← hB1]
        rw [hAB]
        unfold past
        rw [List.filter_append]
      have e0 : upto (firstAt p (t :: r)) (t :: r) = upto (firstAt p (t :: r)) A := by
        generalize firstAt p (t :: r) = a at *
        rw [hAB]
        unfold upto at hB0 ⊢
        rw [List.filter_append, hB0, List.append_nil]
      have hw : p < late (upto (firstAt p (t :: r)) A) e := by
        have h1 := late_mono (show firstAt p (t :: r) + 1 ≤ e by omega) (upto (firstAt p (t :: r)) A)
        have h2 := late_upto hr (a := firstAt p (t :: r)) (Int.le_refl _)
        rw [e0] at h2
        have := hs.next
        omega
      have hsum : late A e = late (upto (firstAt p (t :: r)) A) e + late (past (firstAt p (t :: r)) A) e := by
        conv => lhs; rw [hA2]
        exact late_append _ _ _
      by_cases hA' : past (firstAt p (t :: r)) A = []
      · rw [e1, hA', List.nil_append]
        have := late_nonneg (past (firstAt p (t :: r)) A) e
        omega
      · have ih := gc_group hp n _ hpr (by omega) (past (firstAt p (t :: r)) A) B e e1 (fun x hx => hAe x (List.mem_filter.1 hx).1) hBe hA'
        omega

/-- Somebody tells: the messages that are left, group by group, each at a time that is not ahead of its last message. -/
inductive Tells (p : Int) : List Int → Int → Prop
  | done : Tells p [] 0
  | tell {A B : List Int} {e y : Int} : A ≠ [] → (∀ x, x ∈ A → x ≤ e) → (∀ x, x ∈ B → e ≤ x) → Tells p B y → Tells p (A ++ B) (p + late A e + y)
/-- Who tells anyhow pays the price as often as it is told here. -/
theorem tells_gc {p : Int} (hp : 0 ≤ p) {ts : List Int} {y : Int} (h : Tells p ts y) : rising ts → p * gc p ts ≤ y := by
  induction h with
  | done => intro _; show p * ((0 : Nat) : Int) ≤ 0; simp
  | @tell A B e y hA hAe hBe h ih =>
    intro hr
    have hB : rising B := (List.pairwise_append.1 hr).2.1
    have h1 := gc_group hp (A ++ B).length (A ++ B) hr (Nat.le_refl _) A B e rfl hAe hBe hA
    have h2 := ih hB
    omega
/-- Dooly, Goldman, Scott. -/
theorem tells_twice {p : Int} (hp : 0 ≤ p) {ts : List Int} {y : Int} (hr : rising ts) (h : Tells p ts y) : tc p ts ≤ 2 * y := by
  have h1 := tc_le hp ts.length ts hr (Nat.le_refl _)
  have h2 := tells_gc hp h hr
  rw [Int.mul_assoc] at h1
  omega
/-- It is a way to tell. -/
theorem tells_run {p : Int} (hp : 0 ≤ p) : ∀ (n : Nat) (ts : List Int), rising ts → ts.length ≤ n → Tells p ts (tc p ts)
  | _, [], _, _ => .done
  | 0, t :: r, _, h => by simp at h
  | n + 1, t :: r, hr, h => by
    have hs := firstAt_spec hp hr
    have hl := past_head hp hr
    have hpr := past_rising (a := firstAt p (t :: r)) hr
    rw [List.length_cons] at h
    have ih := tells_run hp n _ hpr (by omega)
    rw [tc_cons hp hr]
    have := Tells.tell (p := p) (A := upto (firstAt p (t :: r)) (t :: r)) (e := firstAt p (t :: r)) (by
      unfold upto
      rw [List.filter_cons_of_pos (by have := hs.from_; simpa using this)]; simp)
      (fun x hx => by have := (List.mem_filter.1 hx).2; simpa using this)
      (fun x hx => by have := (List.mem_filter.1 hx).2; simp at this; omega) ih
    rwa [← parts hr] at this
end Go.Proofs.Ytnjfmlojbaigjab

/- Lists alone, for chapter 13: the least that telling costs; at whatever times; so much later. -/
namespace Go.Proofs.Ytnjfmlojbaigjab

/-- x is the least that telling costs. -/
structure LeastTell (p : Int) (ts : List Int) (x : Int) : Prop where
  some : Tells p ts x
  all : ∀ y, Tells p ts y → x ≤ y
theorem leastTell_unique {p : Int} {ts : List Int} {x y : Int} (hx : LeastTell p ts x) (hy : LeastTell p ts y) : x = y := by
  have := hx.all y hy.some
  have := hy.all x hx.some
  omega
theorem tells_nil {p y : Int} (h : Tells p [] y) : y = 0 := by
  generalize hts : ([] : List Int) = ts at h
  cases h with
  | done => rfl
  | tell hA _ _ _ => exact absurd (List.append_eq_nil_iff.1 hts.symm).1 hA
theorem leastTell_nil (p : Int) : LeastTell p [] 0 := ⟨.done, fun y h => by rw [tells_nil h]; exact Int.le_refl _⟩
/-- Of the first messages told together, and of the rest. -/
theorem leastTell_step {p : Int} {ts : List Int} (hr : rising ts) (h0 : ts ≠ []) {b : Nat → Int} (hb : ∀ k, k < ts.length → LeastTell p (ts.drop (k+1)) (b k)) {x : Int}
    (h1 : ∃ k, k < ts.length ∧ x = p + late (ts.take (k+1)) (ts[k]?.getD 0) + b k) (h2 : ∀ k, k < ts.length → x ≤ p + late (ts.take (k+1)) (ts[k]?.getD 0) + b k) : LeastTell p ts x := by
  have hsort : ∀ {i j : Nat}, i ≤ j → j < ts.length → ts[i]?.getD 0 ≤ ts[j]?.getD 0 := fun {i j} hij hj => by
    rw [List.getElem?_eq_getElem (by omega : i < ts.length), List.getElem?_eq_getElem hj]
    by_cases e : i = j
    · subst e; exact Int.le_refl _
    · exact List.pairwise_iff_getElem.1 hr i j (by omega) hj (by omega)
  refine ⟨?_, fun y hy => ?_⟩
  · obtain ⟨k, hk, e⟩ := h1
    have := Tells.tell (p := p) (A := ts.take (k+1)) (B := ts.drop (k+1)) (e := ts[k]?.getD 0) (y := b k) (fun h => by
      have := congrArg List.length h
      rw [List.length_take, List.length_nil] at this
      omega)
      (fun z hz => by
        obtain ⟨i, hi, e⟩ := List.mem_iff_getElem.1 hz
        rw [List.length_take] at hi
        rw [List.getElem_take] at e
        have := hsort (i := i) (j := k) (by omega) hk
        rw [List.getElem?_eq_getElem (by omega : i < ts.length), Option.getD_some, e] at this
        exact this)
      (fun z hz => by
        obtain ⟨i, hi, e⟩ := List.mem_iff_getElem.1 hz
        rw [List.length_drop] at hi
        rw [List.getElem_drop] at e
        have := hsort (i := k) (j := k + 1 + i) (by omega) (by omega)
        rw [List.getElem?_eq_getElem (by omega : k + 1 + i < ts.length), Option.getD_some, e] at this
        exact this) (hb k hk).some
    rw [List.take_append_drop] at this
    rw [e]; exact this
  · generalize hts : ts = us at hy
    cases hy with
    | done => exact absurd hts h0
    | @tell A B e y hA hAe hBe hB =>
      have hl : 0 < A.length := List.length_pos_iff.2 hA
      have hlen : ts.length = A.length + B.length := by rw [hts, List.length_append]
      have hk : A.length - 1 < ts.length := by omega
      have et : ts.take (A.length - 1 + 1) = A := by rw [hts, show A.length - 1 + 1 = A.length by omega]; exact List.take_left
      have ed : ts.drop (A.length - 1 + 1) = B := by rw [hts, show A.length - 1 + 1 = A.length by omega]; exact List.drop_left
      have h3 := h2 _ hk
      have h4 := (hb _ hk).all y (by rw [ed]; exact hB)
      rw [et] at h3
      have h5 : ts[A.length - 1]?.getD 0 ≤ e := by
        refine hAe _ ?_
        rw [hts, List.getElem?_append_left (by omega), List.getElem?_eq_getElem (by omega), Option.getD_some]
        exact List.getElem_mem _
      have h6 := late_mono h5 A
      omega

/-- At whatever times it is told. -/
def anyCost (p : Int) : List Int → List Int → Int
  | [], _ => 0
  | a :: T, left => late (upto a left) a + p + anyCost p T (past a left)
def anyLeft : List Int → List Int → List Int
  | [], left => left
  | a :: T, left => anyLeft T (past a left)
theorem any_tells {p : Int} (hp : 0 ≤ p) : ∀ (T left : List Int), rising left → anyLeft T left = [] → ∃ y, Tells p left y ∧ y ≤ anyCost p T left
  | [], left, _, h => by
    rw [anyLeft] at h
    subst h
    exact ⟨0, .done, Int.le_refl _⟩
  | a :: T, left, hr, h => by
    rw [anyLeft] at h
    obtain ⟨y, h1, h2⟩ := any_tells hp T _ (past_rising (a := a) hr) h
    rw [anyCost]
    by_cases hn : upto a left = []
    · have e : past a left = left := by
        have := parts (a := a) hr
        rw [hn, List.nil_append] at this
        exact this.symm
      rw [e] at h1 h2
      refine ⟨y, h1, ?_⟩
      rw [e]
      have := late_nonneg (upto a left) a
      omega
    · have := Tells.tell (p := p) (e := a) hn (fun x hx => by have := (List.mem_filter.1 hx).2; simpa using this) (fun x hx => by have := (List.mem_filter.1 hx).2; simp at this; omega) h1
      rw [← parts hr] at this
      exact ⟨_, this, by omega⟩
theorem any_least {p : Int} (hp : 0 ≤ p) {T ts : List Int} (hr : rising ts) (h : anyLeft T ts = []) {x : Int} (hx : LeastTell p ts x) : x ≤ anyCost p T ts := by
  obtain ⟨y, h1, h2⟩ := any_tells hp T ts hr h
  have := hx.all y h1
  omega
theorem least_run {p : Int} (hp : 0 ≤ p) {ts : List Int} (hr : rising ts) {x : Int} (hx : LeastTell p ts x) : x ≤ tc p ts ∧ tc p ts ≤ 2 * x :=
  ⟨hx.all _ (tells_run hp ts.length ts hr (Nat.le_refl _)), tells_twice hp hr hx.some⟩

/-- So much later. -/
def later (b : Int) (ts : List Int) : List Int := ts.map (· + b)
theorem late_later (b : Int) (ts : List Int) (a : Int) : late (later b ts) (a + b) = late ts a := by
  induction ts with
  | nil => rfl
  | cons t r ih =>
    have e : later b (t :: r) = (t + b) :: later b r := rfl
    rw [e, late, late, ih]
    by_cases h : t < a
    · rw [if_pos h, if_pos (by omega)]; omega
    · rw [if_neg h, if_neg (by omega)]
theorem tellAt_later (p b : Int) (ts : List Int) : ∀ (f : Nat) (a : Int), tellAt p (later b ts) f (a + b) = tellAt p ts f a + b
  | 0, _ => rfl
  | f + 1, a => by
    rw [tellAt, tellAt, show a + b + 1 = (a + 1) + b by omega, late_later]
    split
    · exact tellAt_later p b ts f (a + 1)
    · rfl
theorem firstAt_later (p b : Int) {t : Int} {r : List Int} : firstAt p (later b (t :: r)) = firstAt p (t :: r) + b := tellAt_later p b (t :: r) _ t
theorem upto_later (a b : Int) (ts : List Int) : upto (a + b) (later b ts) = later b (upto a ts) := by
  unfold upto later
  rw [List.filter_map]
  congr 1
  refine List.filter_congr fun x _ => ?_
  simp only [Function.comp]
  rw [decide_eq_decide]; omega
theorem past_later (a b : Int) (ts : List Int) : past (a + b) (later b ts) = later b (past a ts) := by
  unfold past later
  rw [List.filter_map]
  congr 1
  refine List.filter_congr fun x _ => ?_
  simp only [Function.comp]
  rw [decide_eq_decide]; omega
theorem told_later (p b : Int) : ∀ (f : Nat) (ts : List Int), told p f (later b ts) = later b (told p f ts) ∧ tcost p f (later b ts) = tcost p f ts
  | 0, _ => ⟨rfl, rfl⟩
  | f + 1, [] => ⟨rfl, rfl⟩
  | f + 1, t :: r => by
    have ih := told_later p b f (past (firstAt p (t :: r)) (t :: r))
    have e0 : later b (t :: r) = (t + b) :: later b r := rfl
    have e1 := firstAt_later p b (t := t) (r := r)
    have e2 := past_later (firstAt p (t :: r)) b (t :: r)
    have e3 := upto_later (firstAt p (t :: r)) b (t :: r)
    rw [e0] at e1 e2 e3 ⊢
    rw [told, tcost, told, tcost, e1, e2, e3, ih.1, ih.2, late_later]
    exact ⟨rfl, rfl⟩
theorem later_length (b : Int) (ts : List Int) : (later b ts).length = ts.length := by unfold later; rw [List.length_map]
theorem later_append (b : Int) (A B : List Int) : later b (A ++ B) = later b A ++ later b B := by unfold later; rw [List.map_append]
theorem tells_later {p : Int} (b : Int) {ts : List Int} {y : Int} (h : Tells p ts y) : Tells p (later b ts) y := by
  induction h with
  | done => exact .done
  | @tell A B e y hA hAe hBe _ ih =>
    have := Tells.tell (p := p) (A := later b A) (B := later b B) (e := e + b) (by
      intro h
      exact hA (List.map_eq_nil_iff.1 h)) (fun x hx => by
        obtain ⟨z, hz, rfl⟩ := List.mem_map.1 hx
        have := hAe z hz
        omega) (fun x hx => by
        obtain ⟨z, hz, rfl⟩ := List.mem_map.1 hx
        have := hBe z hz
        omega) ih
    rw [late_later, ← later_append] at this
    exact this
theorem later_back (b : Int) (ts : List Int) : later (-b) (later b ts) = ts := by
  unfold later
  rw [List.map_map]
  conv => rhs; rw [← List.map_id ts]
  refine List.map_congr_left fun x _ => ?_
  simp only [Function.comp, id]; omega
theorem leastTell_later {p b : Int} {ts : List Int} {x : Int} (hx : LeastTell p ts x) : LeastTell p (later b ts) x :=
  ⟨tells_later b hx.some, fun y hy => hx.all y (by have := tells_later (-b) hy; rwa [later_back] at this)⟩
end Go.Proofs.Ytnjfmlojbaigjab

/- Lists alone, for chapter 13: what is wrong with times and a price; how many messages came up to a time. -/
namespace Go.Proofs.Ytnjfmlojbaigjab

def badT (t : Int) : Bool := decide (t < 0) || decide (1000 < t)
instance (l : List Int) : Decidable (rising l) := inferInstanceAs (Decidable (l.Pairwise (· ≤ ·)))
def chkA (l : List Int) (p : Int) : Nat := if 20 < l.length then 4 else if l.any badT then 1 else if p < 1 ∨ 20 < p then 1 else if rising l then 0 else 6
theorem chkA_long {l : List Int} {p : Int} (h : 20 < l.length) : chkA l p = 4 := by simp only [chkA, h, if_true]
theorem chkA_time {l : List Int} {p : Int} (h : l.length ≤ 20) (hb : l.any badT = true) : chkA l p = 1 := by
  have : ¬ 20 < l.length := by omega
  simp [chkA, this, hb]
theorem chkA_price {l : List Int} {p : Int} (h : l.length ≤ 20) (hp : p < 1 ∨ 20 < p) : chkA l p = 1 := by
  have : ¬ 20 < l.length := by omega
  simp [chkA, this, hp]
theorem chkA_ok {l : List Int} {p : Int} (h : l.length ≤ 20) (hb : l.any badT = false) (hp : 1 ≤ p ∧ p ≤ 20) (hr : rising l) : chkA l p = 0 := by
  have h1 : ¬ 20 < l.length := by omega
  have h2 : ¬ (p < 1 ∨ 20 < p) := by omega
  simp [chkA, h1, hb, h2, hr]
theorem chkA_clash {l : List Int} {p : Int} (h : l.length ≤ 20) (hb : l.any badT = false) (hp : 1 ≤ p ∧ p ≤ 20) (hr : ¬ rising l) : chkA l p = 6 := by
  have h1 : ¬ 20 < l.length := by omega
  have h2 : ¬ (p < 1 ∨ 20 < p) := by omega
  simp [chkA, h1, hb, h2, hr]
theorem chkA_cases (l : List Int) (p : Int) : chkA l p = 0 ∨ chkA l p = 1 ∨ chkA l p = 4 ∨ chkA l p = 6 := by
  unfold chkA
  repeat' split
  all_goals simp
/-- What Check lets through. -/
structure FineA (ts : List Int) (p : Int) : Prop where
  many : ts.length ≤ 20
  times : ∀ x, x ∈ ts → 0 ≤ x ∧ x ≤ 1000
  price : 1 ≤ p ∧ p ≤ 20
  rise : rising ts
theorem chkA_zero {l : List Int} {p : Int} (h : chkA l p = 0) : FineA l p := by
  by_cases h1 : 20 < l.length
  · rw [chkA_long h1] at h; cases h
  have h20 : l.length ≤ 20 := by omega
  cases hb : l.any badT with
  | true => rw [chkA_time h20 hb] at h; cases h
  | false =>
    by_cases hp : p < 1 ∨ 20 < p
    · rw [chkA_price h20 hp] at h; cases h
    · by_cases hr : rising l
      · refine ⟨h20, fun x hx => ?_, by omega, hr⟩
        have := List.any_eq_false.1 hb x hx
        simp [badT] at this; omega
      · rw [chkA_clash h20 hb (by omega) hr] at h; cases h
theorem any_nextA {f : Int → Bool} {l : List Int} {k : Nat} (h : k < l.length) (h0 : (l.take k).any f = false) (hb : f (l[k]?.getD 0) = false) : (l.take (k+1)).any f = false := by
  rw [List.take_succ_eq_append_getElem h, List.any_append, h0]
  simp [List.getElem?_eq_getElem h] at hb ⊢
  exact hb
theorem any_hereA {f : Int → Bool} {l : List Int} {k : Nat} (h : k < l.length) (hb : f (l[k]?.getD 0) = true) : l.any f = true := by
  rw [List.any_eq_true]
  exact ⟨l[k], List.getElem_mem h, by simpa [List.getElem?_eq_getElem h] using hb⟩
theorem adj_rising {l : List Int} (h : ∀ m, m + 1 < l.length → l[m]?.getD 0 ≤ l[m+1]?.getD 0) : rising l := by
  have key : ∀ d i, i + d < l.length → l[i]?.getD 0 ≤ l[i+d]?.getD 0 := by
    intro d
    induction d with
    | zero => intro i _; exact Int.le_refl _
    | succ d ih =>
      intro i hi
      have h1 := ih i (by omega)
      have h2 := h (i + d) (by omega)
      rw [show i + (d + 1) = i + d + 1 by omega]
      omega
  refine List.pairwise_iff_getElem.2 fun i j hi hj hij => ?_
  have := key (j - i) i (by omega)
  rw [show i + (j - i) = j by omega, List.getElem?_eq_getElem hi, List.getElem?_eq_getElem hj] at this
  exact this
theorem rising_adj {l : List Int} (h : rising l) {m : Nat} (hm : m + 1 < l.length) : l[m]?.getD 0 ≤ l[m+1]?.getD 0 := by
  rw [List.getElem?_eq_getElem (by omega : m < l.length), List.getElem?_eq_getElem hm]
  exact List.pairwise_iff_getElem.1 h m (m+1) (by omega) hm (by omega)

/-- How many messages came up to a time. -/
def cameN (l : List Int) (a : Int) : Nat := l.countP fun t => decide (t < a + 1)
theorem cameN_le (l : List Int) (a : Int) : cameN l a ≤ l.length := List.countP_le_length
theorem came_split (a : Int) : ∀ {l : List Int}, rising l → l.take (cameN l a) = upto a l ∧ l.drop (cameN l a) = past a l
  | [], _ => ⟨rfl, rfl⟩
  | t :: r, h => by
    have hr := List.pairwise_cons.1 h
    obtain ⟨i1, i2⟩ := came_split a (l := r) hr.2
    by_cases ht : t ≤ a
    · have e : cameN (t :: r) a = cameN r a + 1 := List.countP_cons_of_pos (by simp; omega)
      rw [e, List.take_succ_cons, List.drop_succ_cons, i1, i2]
      unfold upto past
      rw [List.filter_cons_of_pos (by simpa using ht), List.filter_cons_of_neg (by simp; omega)]
      exact ⟨rfl, rfl⟩
    · have h0 : ∀ x, x ∈ t :: r → ¬ x ≤ a := fun x hx => by
        rcases List.mem_cons.1 hx with rfl | hx
        · exact ht
        · have := hr.1 x hx; omega
      have e : cameN (t :: r) a = 0 := List.countP_eq_zero.2 fun x hx => by have := h0 x hx; simp; omega
      rw [e, List.take_zero, List.drop_zero]
      unfold upto past
      rw [List.filter_eq_nil_iff.2 fun x hx => by have := h0 x hx; simp; omega, List.filter_eq_self.2 fun x hx => by have := h0 x hx; simp; omega]
      exact ⟨rfl, rfl⟩
theorem came_at {l : List Int} {a : Int} (hr : rising l) {k : Nat} (hk : k < cameN l a) : l[k]?.getD 0 ≤ a := by
  have hl := cameN_le l a
  have hm : l[k]?.getD 0 ∈ l.take (cameN l a) := by
    rw [List.getElem?_eq_getElem (by omega : k < l.length), Option.getD_some]
    have := List.getElem_mem (l := l.take (cameN l a)) (n := k) (by rw [List.length_take]; omega)
    rwa [List.getElem_take] at this
  rw [(came_split a hr).1] at hm
  have := (List.mem_filter.1 hm).2
  simpa using this
theorem late_came {l : List Int} (hr : rising l) (a : Int) : late (l.take (cameN l a)) a = late l a := by
  rw [(came_split a hr).1]
  exact late_upto hr (by omega)
theorem late_take {l : List Int} {a : Int} {k : Nat} (hk : k < l.length) (h : l[k]?.getD 0 ≤ a) : late (l.take (k+1)) a = late (l.take k) a + (a - l[k]?.getD 0) := by
  rw [List.take_succ_eq_append_getElem hk, late_append, late, late]
  rw [List.getElem?_eq_getElem hk, Option.getD_some] at h ⊢
  split <;> omega
theorem late_le : ∀ {l : List Int} {a m : Int}, 0 ≤ m → (∀ x, x ∈ l → a - x ≤ m) → late l a ≤ l.length * m
  | [], _, _, _, _ => by rw [late]; simp
  | t :: r, a, m, h0, h => by
    have h1 := late_le (l := r) h0 fun x hx => h x (List.mem_cons_of_mem _ hx)
    have h2 := h t List.mem_cons_self
    rw [late, List.length_cons, Int.natCast_add, Int.add_mul, Int.natCast_one, Int.one_mul]
    split <;> omega
theorem came_first {l : List Int} {a : Int} {t : Int} {r : List Int} (e : l = t :: r) (h : t ≤ a) : 0 < cameN l a := by
  subst e
  unfold cameN
  rw [List.countP_cons_of_pos (by simp; omega)]; omega
end Go.Proofs.Ytnjfmlojbaigjab

/- Lists alone, for chapter 13: from message to message, who waits, and what was paid so far; the least of that is the least that telling costs. -/
namespace Go.Proofs.Ytnjfmlojbaigjab

/-- Of the first k messages those from j on wait for the next one; x was paid. -/
inductive Wait (p : Int) (ts : List Int) : Nat → Nat → Int → Prop
  | start : Wait p ts 0 0 0
  | tell {k j : Nat} {x : Int} : Wait p ts k j x → k < ts.length → Wait p ts (k+1) (k+1) (x + p)
  | go {k j : Nat} {x : Int} : Wait p ts k j x → k + 1 < ts.length → Wait p ts (k+1) j (x + ((k + 1 - j : Nat) : Int) * (ts[k+1]?.getD 0 - ts[k]?.getD 0))
theorem Wait.le {p : Int} {ts : List Int} {k j : Nat} {x : Int} (h : Wait p ts k j x) : j ≤ k ∧ k ≤ ts.length := by
  induction h with
  | start => exact ⟨Nat.le_refl _, Nat.zero_le _⟩
  | tell _ h ih => exact ⟨Nat.le_refl _, h⟩
  | go _ h ih => exact ⟨by omega, by omega⟩
theorem Wait.atEnd {p : Int} {ts : List Int} {k j : Nat} {x : Int} (h : Wait p ts k j x) (hk : k = ts.length) : j = k := by
  cases h with
  | start => rfl
  | tell _ h => rfl
  | go _ h => omega
def seg (ts : List Int) (j k : Nat) : List Int := (ts.drop j).take (k - j)
theorem seg_none (ts : List Int) (j : Nat) : seg ts j j = [] := by unfold seg; rw [Nat.sub_self, List.take_zero]
theorem seg_succ {ts : List Int} {j k : Nat} (hj : j ≤ k) (hk : k < ts.length) : seg ts j (k+1) = seg ts j k ++ [ts[k]?.getD 0] := by
  unfold seg
  rw [show k + 1 - j = (k - j) + 1 by omega, List.take_add_one, List.getElem?_drop, show j + (k - j) = k by omega, List.getElem?_eq_getElem hk]
  rfl
theorem seg_length {ts : List Int} {j k : Nat} (hk : k ≤ ts.length) (hj : j ≤ k) : (seg ts j k).length = k - j := by
  unfold seg
  rw [List.length_take, List.length_drop]; omega
theorem sorted_at {ts : List Int} (hr : rising ts) {i j : Nat} (hij : i ≤ j) (hj : j < ts.length) : ts[i]?.getD 0 ≤ ts[j]?.getD 0 := by
  rw [List.getElem?_eq_getElem (by omega : i < ts.length), List.getElem?_eq_getElem hj]
  by_cases e : i = j
  · subst e; exact Int.le_refl _
  · exact List.pairwise_iff_getElem.1 hr i j (by omega) hj (by omega)
theorem seg_le {ts : List Int} (hr : rising ts) {j k m : Nat} (hk : k ≤ m + 1) (hm : m < ts.length) {x : Int} (hx : x ∈ seg ts j k) : x ≤ ts[m]?.getD 0 := by
  unfold seg at hx
  obtain ⟨i, hi, e⟩ := List.mem_iff_getElem.1 hx
  rw [List.length_take, List.length_drop] at hi
  rw [List.getElem_take, List.getElem_drop] at e
  have := sorted_at hr (i := j + i) (j := m) (by omega) hm
  rw [List.getElem?_eq_getElem (by omega : j + i < ts.length), Option.getD_some, e] at this
  exact this
theorem late_shift {a b : Int} (hab : a ≤ b) : ∀ {A : List Int}, (∀ x, x ∈ A → x ≤ a) → late A b = late A a + (A.length : Int) * (b - a)
  | [], _ => by rw [late, late]; simp
  | x :: A, h => by
    have ih := late_shift hab (A := A) fun y hy => h y (List.mem_cons_of_mem _ hy)
    have hx := h x List.mem_cons_self
    rw [late, late, ih, List.length_cons, Int.natCast_add, Int.add_mul, Int.natCast_one, Int.one_mul]
    split <;> split <;> omega
theorem seg_late {ts : List Int} (hr : rising ts) {j k : Nat} (hj : j ≤ k) (hk : k + 1 < ts.length) :
    late (seg ts j (k+1)) (ts[k+1]?.getD 0) = late (seg ts j k) (ts[k]?.getD 0) + ((k + 1 - j : Nat) : Int) * (ts[k+1]?.getD 0 - ts[k]?.getD 0) := by
  rw [late_shift (sorted_at hr (i := k) (j := k + 1) (by omega) hk) (A := seg ts j (k+1)) fun x hx => seg_le hr (Nat.le_refl _) (by omega) hx, seg_length (by omega) (by omega)]
  rw [seg_succ hj (by omega), late_append, late_none (ts := [ts[k]?.getD 0]) fun t ht => by rw [List.mem_singleton.1 ht]; exact Int.le_refl _, Int.add_zero]
theorem wait_tells {p : Int} {ts : List Int} (hr : rising ts) {k j : Nat} {x : Int} (h : Wait p ts k j x) :
    ∃ c, x = c + late (seg ts j k) (ts[k]?.getD 0) ∧ ∀ y, Tells p (ts.drop j) y → Tells p ts (c + y) := by
  induction h with
  | start => exact ⟨0, by rw [seg_none]; rfl, fun y hy => by rw [List.drop_zero] at hy; rw [Int.zero_add]; exact hy⟩
  | @tell k j x h hk ih =>
    obtain ⟨c, rfl, hc⟩ := ih
    have hle := h.le
    refine ⟨c + late (seg ts j k) (ts[k]?.getD 0) + p, by rw [seg_none, late]; omega, fun y hy => ?_⟩
    have := Tells.tell (p := p) (A := seg ts j (k+1)) (B := ts.drop (k+1)) (e := ts[k]?.getD 0) (y := y) (fun h => by
      have := congrArg List.length h
      rw [seg_length (by omega) (by omega), List.length_nil] at this
      omega) (fun z hz => seg_le hr (Nat.le_refl _) hk hz) (fun z hz => by
        obtain ⟨i, hi, e⟩ := List.mem_iff_getElem.1 hz
        rw [List.length_drop] at hi
        rw [List.getElem_drop] at e
        have := sorted_at hr (i := k) (j := k + 1 + i) (by omega) (by omega)
        rw [List.getElem?_eq_getElem (by omega : k + 1 + i < ts.length), Option.getD_some, e] at this
        exact this) hy
    rw [show seg ts j (k+1) ++ ts.drop (k+1) = ts.drop j by
      unfold seg
      conv => rhs; rw [← List.take_append_drop (k + 1 - j) (ts.drop j), List.drop_drop, show j + (k + 1 - j) = k + 1 by omega]] at this
    have h2 := hc _ this
    rw [seg_succ hle.1 hk, late_append, late_none (ts := [ts[k]?.getD 0]) fun t ht => by rw [List.mem_singleton.1 ht]; exact Int.le_refl _] at h2
    rw [show c + late (seg ts j k) (ts[k]?.getD 0) + p + y = c + (p + (late (seg ts j k) (ts[k]?.getD 0) + 0) + y) by omega]
    exact h2
  | @go k j x h hk ih =>
    obtain ⟨c, rfl, hc⟩ := ih
    exact ⟨c, by rw [seg_late hr h.le.1 hk]; omega, hc⟩
theorem wait_on {p : Int} {ts : List Int} (hr : rising ts) {j : Nat} {c : Int} (h : Wait p ts j j c) : ∀ m, j + m < ts.length → Wait p ts (j+m) j (c + late (seg ts j (j+m)) (ts[j+m]?.getD 0))
  | 0, _ => by rw [Nat.add_zero, seg_none, late, Int.add_zero]; exact h
  | m + 1, hm => by
    have ih := wait_on hr h m (by omega)
    have := Wait.go ih (by omega)
    have e := seg_late hr (j := j) (k := j + m) (by omega) (by omega)
    rw [← Nat.add_assoc, e, ← Int.add_assoc]
    exact this
theorem wait_some {p : Int} {ts : List Int} (hr : rising ts) {us : List Int} {y : Int} (h : Tells p us y) : ∀ (j : Nat) (c : Int), us = ts.drop j → Wait p ts j j c → ∃ x, Wait p ts ts.length ts.length x ∧ x ≤ c + y := by
  induction h with
  | done =>
    intro j c e h
    have := congrArg List.length e
    rw [List.length_nil, List.length_drop] at this
    have hle := h.le
    obtain rfl : j = ts.length := by omega
    exact ⟨c, h, by omega⟩
  | @tell A B e y hA hAe hBe _ ih =>
    intro j c e1 h
    have hl : 0 < A.length := List.length_pos_iff.2 hA
    have hlen := congrArg List.length e1
    rw [List.length_append, List.length_drop] at hlen
    obtain ⟨m, hm⟩ : ∃ m, A.length = m + 1 := ⟨A.length - 1, by omega⟩
    have hw := wait_on hr h m (by omega)
    have ht := Wait.tell hw (by omega)
    have eB : B = ts.drop (j + m + 1) := by
      have := congrArg (List.drop (m + 1)) e1
      rw [← hm, List.drop_left, hm, List.drop_drop] at this
      rw [this]; congr 1
    have eA : A = seg ts j (j + m + 1) := by
      have := congrArg (List.take (m + 1)) e1
      rw [← hm, List.take_left, hm] at this
      unfold seg
      rw [show j + m + 1 - j = m + 1 by omega]; exact this
    obtain ⟨x, hx, hle⟩ := ih _ _ eB ht
    refine ⟨x, hx, ?_⟩
    have h5 : ts[j+m]?.getD 0 ≤ e := by
      refine hAe _ ?_
      rw [eA, seg_succ (by omega) (by omega)]
      simp
    have h6 := late_mono h5 A
    rw [eA] at h6 ⊢
    conv at h6 => lhs; rw [seg_succ (by omega) (by omega), late_append, late_none (ts := [ts[j+m]?.getD 0]) fun t ht => by rw [List.mem_singleton.1 ht]; exact Int.le_refl _]
    omega
theorem wait_bound {p : Int} {ts : List Int} (hr : rising ts) (hp : 0 ≤ p ∧ p ≤ 20) (hn : ts.length ≤ 20) (h01 : ∀ x, x ∈ ts → 0 ≤ x ∧ x ≤ 1000) {k j : Nat} {x : Int} (h : Wait p ts k j x) : 0 ≤ x ∧ x ≤ 20 * k + 20 * (if k < ts.length then ts[k]?.getD 0 else 1000) := by
  have hat : ∀ k, k < ts.length → 0 ≤ ts[k]?.getD 0 ∧ ts[k]?.getD 0 ≤ 1000 := fun k hk => by
    rw [List.getElem?_eq_getElem hk]; exact h01 _ (List.getElem_mem hk)
  induction h with
  | start =>
    refine ⟨Int.le_refl _, ?_⟩
    split
    · rename_i h; have := hat 0 h; omega
    · omega
  | @tell k j x h hk ih =>
    rw [if_pos hk] at ih
    have := hat k hk
    refine ⟨by omega, ?_⟩
    split
    · rename_i h2
      have := sorted_at hr (i := k) (j := k + 1) (by omega) h2
      omega
    · omega
  | @go k j x h hk ih =>
    rw [if_pos (by omega)] at ih
    rw [if_pos hk]
    have h1 := sorted_at hr (i := k) (j := k + 1) (by omega) hk
    have h2 : ((k + 1 - j : Nat) : Int) ≤ 20 := by omega
    have h3 := Int.mul_le_mul_of_nonneg_right h2 (show 0 ≤ ts[k+1]?.getD 0 - ts[k]?.getD 0 by omega)
    have h4 := Int.mul_nonneg (show (0 : Int) ≤ ((k + 1 - j : Nat) : Int) by omega) (show 0 ≤ ts[k+1]?.getD 0 - ts[k]?.getD 0 by omega)
    have : (20 : Int) * (ts[k+1]?.getD 0 - ts[k]?.getD 0) = 20 * ts[k+1]?.getD 0 - 20 * ts[k]?.getD 0 := Int.mul_sub _ _ _
    omega
/-- The least that was paid at the end is the least that telling costs. -/
theorem wait_least {p : Int} {ts : List Int} (hr : rising ts) {x : Int} (h1 : Wait p ts ts.length ts.length x) (h2 : ∀ y, Wait p ts ts.length ts.length y → x ≤ y) : LeastTell p ts x := by
  refine ⟨?_, fun y hy => ?_⟩
  · obtain ⟨c, hc, hall⟩ := wait_tells hr h1
    have := hall 0 (by rw [List.drop_length]; exact .done)
    rw [seg_none, late] at hc
    rw [hc]; exact this
  · obtain ⟨z, hz, hle⟩ := wait_some hr hy 0 0 (by rw [List.drop_zero]) .start
    have := h2 z hz
    omega
end Go.Proofs.Ytnjfmlojbaigjab
