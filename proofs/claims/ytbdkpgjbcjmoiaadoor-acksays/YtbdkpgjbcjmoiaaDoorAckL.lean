/- Lists alone, for chapter 13: messages that wait till it is told; to wait for as much as telling costs is no more than twice the least. -/
import Derived.Test.YtbdkpgjbcjmoiaaDoorKeep
namespace Go.Proofs.YtbdkpgjbcjmoiaaDoor

/-- How long messages wait, together, up to a time. -/
def late : List Int → Int → Int
  | [], _ => 0
  | t :: r, a => (if t < a then a - t else 0) + late r a
theorem late_nonneg : ∀ (ts : List Int) (a : Int), 0 ≤ late ts a
  | [], _ => Int.le_refl _
  | t :: r, a => by
    have := late_nonneg r a
    rw [late]; split <;> omega
theorem late_mono {a b : Int} (h : a ≤ b) : ∀ ts : List Int, late ts a ≤ late ts b
  | [] => Int.le_refl _
  | t :: r => by
    have := late_mono h r
    rw [late, late]; split <;> split <;> omega
theorem late_append (A B : List Int) (a : Int) : late (A ++ B) a = late A a + late B a := by
  induction A with
  | nil => rw [List.nil_append, late]; omega
  | cons x A ih => rw [List.cons_append, late, late, ih]; omega
theorem late_none {ts : List Int} {a : Int} (h : ∀ t, t ∈ ts → a ≤ t) : late ts a = 0 := by
  induction ts with
  | nil => rfl
  | cons x r ih =>
    rw [late, ih fun t ht => h t (by simp [ht]), if_neg (by have := h x (by simp); omega)]; rfl
theorem late_head {t d : Int} (r : List Int) : d ≤ late (t :: r) (t + d) := by
  have := late_nonneg r (t + d)
  rw [late]; split <;> omega

/-- From a time on: the latest one up to which no more than the price was waited. -/
def tellAt (p : Int) (ts : List Int) : Nat → Int → Int
  | 0, a => a
  | f + 1, a => if late ts (a + 1) ≤ p then tellAt p ts f (a + 1) else a
structure TellAt (p : Int) (ts : List Int) (t a : Int) : Prop where
  from_ : t ≤ a
  now : late ts a ≤ p
  next : p < late ts (a + 1)
theorem tellAt_spec {p : Int} {ts : List Int} {t : Int} (hh : ∀ d : Int, 0 ≤ d → d ≤ late ts (t + d)) : ∀ (f : Nat) (a : Int), t ≤ a → late ts a ≤ p → p < a - t + f → TellAt p ts t (tellAt p ts f a)
  | 0, a, h1, h2, h3 => by
    have := hh (a - t) (by omega)
    rw [show t + (a - t) = a by omega] at this
    exact absurd h3 (by omega)
  | f + 1, a, h1, h2, h3 => by
    rw [tellAt]
    by_cases h : late ts (a + 1) ≤ p
    · rw [if_pos h]
      exact tellAt_spec hh f (a + 1) (by omega) h (by omega)
    · rw [if_neg h]
      exact ⟨h1, h2, by omega⟩
theorem tellAt_unique {p : Int} {ts : List Int} {t a b : Int} (ha : TellAt p ts t a) (hb : TellAt p ts t b) : a = b := by
  rcases Int.lt_trichotomy a b with h | h | h
  · have := late_mono (show a + 1 ≤ b by omega) ts
    have := ha.next
    have := hb.now
    omega
  · exact h
  · have := late_mono (show b + 1 ≤ a by omega) ts
    have := hb.next
    have := ha.now
    omega
/-- When it is told first. -/
def firstAt (p : Int) : List Int → Int
  | [] => 0
  | t :: r => tellAt p (t :: r) (p.toNat + 1) t
def rising (ts : List Int) : Prop := ts.Pairwise (· ≤ ·)
theorem firstAt_spec {p : Int} (hp : 0 ≤ p) {t : Int} {r : List Int} (hr : rising (t :: r)) : TellAt p (t :: r) t (firstAt p (t :: r)) := by
  have h0 : late (t :: r) t = 0 := late_none fun x hx => by
    rcases List.mem_cons.1 hx with rfl | hx
    · exact Int.le_refl _
    · exact (List.pairwise_cons.1 hr).1 x hx
  exact tellAt_spec (fun d _ => late_head r) _ t (Int.le_refl _) (by omega) (by omega)

def upto (a : Int) (ts : List Int) : List Int := ts.filter fun t => decide (t ≤ a)
def past (a : Int) (ts : List Int) : List Int := ts.filter fun t => decide (a < t)
theorem past_le (a : Int) (ts : List Int) : (past a ts).length ≤ ts.length := List.length_filter_le _ _
theorem parts {a : Int} : ∀ {ts : List Int}, rising ts → ts = upto a ts ++ past a ts
  | [], _ => rfl
  | t :: r, h => by
    have hr := List.pairwise_cons.1 h
    by_cases ht : t ≤ a
    · unfold upto past
      rw [List.filter_cons_of_pos (by simpa using ht), List.filter_cons_of_neg (by simp; omega), List.cons_append]
      exact congrArg (t :: ·) (parts hr.2)
    · have h1 : upto a (t :: r) = [] := List.filter_eq_nil_iff.2 fun x hx => by
        rcases List.mem_cons.1 hx with rfl | hx
        · simpa using ht
        · have := hr.1 x hx
          simp; omega
      have h2 : past a (t :: r) = t :: r := List.filter_eq_self.2 fun x hx => by
        rcases List.mem_cons.1 hx with rfl | hx
        · simp; omega
        · have := hr.1 x hx
          simp; omega
      rw [h1, h2]; rfl
theorem past_rising {a : Int} {ts : List Int} (h : rising ts) : rising (past a ts) := h.sublist List.filter_sublist
theorem past_head {p : Int} (hp : 0 ≤ p) {t : Int} {r : List Int} (hr : rising (t :: r)) : (past (firstAt p (t :: r)) (t :: r)).length ≤ r.length := by
  have h := (firstAt_spec hp hr).from_
  unfold past
  rw [List.filter_cons_of_neg (by simp; omega)]
  exact List.length_filter_le _ _
theorem late_upto {a b : Int} {ts : List Int} (hr : rising ts) (h : b ≤ a + 1) : late (upto a ts) b = late ts b := by
  conv => rhs; rw [parts (a := a) hr, late_append]
  rw [late_none (ts := past a ts) fun t ht => by
    have := (List.mem_filter.1 ht).2
    simp at this; omega]
  omega

/-- The times when it is told. -/
def told (p : Int) : Nat → List Int → List Int
  | 0, _ => []
  | _ + 1, [] => []
  | f + 1, t :: r => firstAt p (t :: r) :: told p f (past (firstAt p (t :: r)) (t :: r))
def tcost (p : Int) : Nat → List Int → Int
  | 0, _ => 0
  | _ + 1, [] => 0
  | f + 1, t :: r => p + late (upto (firstAt p (t :: r)) (t :: r)) (firstAt p (t :: r)) + tcost p f (past (firstAt p (t :: r)) (t :: r))
theorem told_fuel {p : Int} (hp : 0 ≤ p) : ∀ (f : Nat) (ts : List Int), rising ts → ts.length ≤ f → told p f ts = told p ts.length ts ∧ tcost p f ts = tcost p ts.length ts
  | 0, ts, _, h => by
    rw [List.eq_nil_of_length_eq_zero (Nat.le_zero.1 h)]; exact ⟨rfl, rfl⟩
  | f + 1, [], _, _ => ⟨rfl, rfl⟩
  | f + 1, t :: r, hr, h => by
    have hl := past_head hp hr
    have hpr := past_rising (a := firstAt p (t :: r)) hr
    rw [List.length_cons] at h
    have a := told_fuel hp f _ hpr (by omega)
    have b := told_fuel hp r.length _ hpr hl
    rw [List.length_cons, told, told, tcost, tcost, a.1, a.2, b.1, b.2]
    exact ⟨rfl, rfl⟩
/-- How often it is told. -/
def gc (p : Int) (ts : List Int) : Nat := (told p ts.length ts).length
def tc (p : Int) (ts : List Int) : Int := tcost p ts.length ts
theorem gc_cons {p : Int} (hp : 0 ≤ p) {t : Int} {r : List Int} (hr : rising (t :: r)) : gc p (t :: r) = gc p (past (firstAt p (t :: r)) (t :: r)) + 1 := by
  unfold gc
  rw [List.length_cons, told, List.length_cons, (told_fuel hp r.length _ (past_rising hr) (past_head hp hr)).1]
theorem tc_cons {p : Int} (hp : 0 ≤ p) {t : Int} {r : List Int} (hr : rising (t :: r)) : tc p (t :: r) = p + late (upto (firstAt p (t :: r)) (t :: r)) (firstAt p (t :: r)) + tc p (past (firstAt p (t :: r)) (t :: r)) := by
  unfold tc
  rw [List.length_cons, tcost, (told_fuel hp r.length _ (past_rising hr) (past_head hp hr)).2]
/-- Each telling costs no more than twice the price. -/
theorem tc_le {p : Int} (hp : 0 ≤ p) : ∀ (n : Nat) (ts : List Int), rising ts → ts.length ≤ n → tc p ts ≤ 2 * p * gc p ts
  | _, [], _, _ => by show (0 : Int) ≤ 2 * p * ((0 : Nat) : Int); simp
  | 0, t :: r, _, h => by simp at h
  | n + 1, t :: r, hr, h => by
    have hs := firstAt_spec hp hr
    have ih := tc_le hp n _ (past_rising (a := firstAt p (t :: r)) hr) (by have := past_head hp hr; rw [List.length_cons] at h; omega)
    rw [tc_cons hp hr, gc_cons hp hr, late_upto hr (by omega)]
    have := hs.now
    rw [Int.natCast_add, Int.mul_add]
    simp only [Int.natCast_one, Int.mul_one]
    omega
/-- Without the first ones it is told no more often. -/
theorem gc_drop {p : Int} (hp : 0 ≤ p) : ∀ (n : Nat) (ts : List Int), rising ts → ts.length ≤ n → ∀ C B : List Int, ts = C ++ B → gc p B ≤ gc p ts
  | _, [], _, _, C, B, h => by
    have : B = [] := (List.append_eq_nil_iff.1 h.symm).2
    rw [this]; exact Nat.le_refl _
  | 0, t :: r, _, h, _, _, _ => by simp at h
  | n + 1, t :: r, hr, h, C, B, hCB => by
    have hs := firstAt_spec hp hr
    have hl := past_head hp hr
    have hpt := parts (a := firstAt p (t :: r)) hr
    have hpr := past_rising (a := firstAt p (t :: r)) hr
    rw [List.length_cons] at h
    rw [gc_cons hp hr]
    have hBr : rising B := by
      have : rising (C ++ B) := hCB ▸ hr
      exact (List.pairwise_append.1 this).2.1
    cases hB : B with
    | nil => exact Nat.zero_le _
    | cons b B' =>
      rw [← hB]
      by_cases hin : b ≤ firstAt p (t :: r)
      · -- the rest begins within the first ones
        have hBr2 : rising (b :: B') := hB ▸ hBr
        have hsB := firstAt_spec hp hBr2
        have hle : firstAt p (t :: r) ≤ firstAt p (b :: B') := by
          apply Classical.byContradiction
          intro hno
          have h1 := late_mono (show firstAt p (b :: B') + 1 ≤ firstAt p (t :: r) by omega) (b :: B')
          have h2 : late (b :: B') (firstAt p (t :: r)) ≤ late (t :: r) (firstAt p (t :: r)) := by
            rw [hCB, late_append, hB]
            have := late_nonneg C (firstAt p (t :: r))
            rw [← hB, ← hCB]
            omega
          have := hs.now
          have := hsB.next
          omega
        rw [hB, gc_cons hp hBr2]
        have hsub : ∃ D, past (firstAt p (t :: r)) (t :: r) = D ++ past (firstAt p (b :: B')) (b :: B') := by
          have e1 : past (firstAt p (b :: B')) (past (firstAt p (t :: r)) (t :: r)) = past (firstAt p (b :: B')) (t :: r) := by
            unfold past
            rw [List.filter_filter]
            refine List.filter_congr fun x _ => ?_
            by_cases hx : firstAt p (b :: B') < x
            · rw [decide_eq_true hx, decide_eq_true (show firstAt p (t :: r) < x by omega)]; rfl
            · rw [decide_eq_false hx]; rfl
          have e2 : past (firstAt p (b :: B')) (t :: r) = past (firstAt p (b :: B')) C ++ past (firstAt p (b :: B')) (b :: B') := by
            conv => lhs; rw [hCB, hB]
            unfold past
            rw [List.filter_append]
          have e3 : past (firstAt p (b :: B')) C = [] := List.filter_eq_nil_iff.2 fun x hx => by
            have hC : rising (C ++ B) := hCB ▸ hr
            have := (List.pairwise_append.1 hC).2.2 x hx b (by rw [hB]; simp)
            have := hsB.from_
            simp; omega
          rw [e3, List.nil_append] at e2
          refine ⟨upto (firstAt p (b :: B')) (past (firstAt p (t :: r)) (t :: r)), ?_⟩
          conv => lhs; rw [parts (a := firstAt p (b :: B')) hpr]
          rw [e1, e2]
        obtain ⟨D, hD⟩ := hsub
        have := gc_drop hp n _ hpr (by omega) D _ hD
        omega
      · -- the rest lies behind the first ones
        have e : past (firstAt p (t :: r)) (t :: r) = past (firstAt p (t :: r)) C ++ B := by
          have h1 : past (firstAt p (t :: r)) B = B := List.filter_eq_self.2 fun x hx => by
            rw [hB] at hx
            rcases List.mem_cons.1 hx with rfl | hx
            · simp; omega
            · have := (List.pairwise_cons.1 (hB ▸ hBr : rising (b :: B'))).1 x hx
              simp; omega
          generalize firstAt p (t :: r) = a at *
          conv => rhs; rw [← h1]
          rw [hCB]
          unfold past
          rw [List.filter_append]
        have := gc_drop hp n _ hpr (by omega) _ B e
        omega
/-- Of one group of messages that somebody tells together, and the rest. -/
theorem gc_group {p : Int} (hp : 0 ≤ p) : ∀ (n : Nat) (ts : List Int), rising ts → ts.length ≤ n → ∀ (A B : List Int) (e : Int), ts = A ++ B → (∀ x, x ∈ A → x ≤ e) → (∀ x, x ∈ B → e ≤ x) → A ≠ [] → p * gc p ts ≤ p + late A e + p * gc p B
  | _, [], _, _, A, B, e, h, _, _, hA => absurd (List.append_eq_nil_iff.1 h.symm).1 hA
  | 0, t :: r, _, h, _, _, _, _, _, _, _ => by simp at h
  | n + 1, t :: r, hr, h, A, B, e, hAB, hAe, hBe, hA => by
    have hs := firstAt_spec hp hr
    have hl := past_head hp hr
    have hpt := parts (a := firstAt p (t :: r)) hr
    have hpr := past_rising (a := firstAt p (t :: r)) hr
    rw [List.length_cons] at h
    rw [gc_cons hp hr, Int.natCast_add, Int.mul_add, Int.natCast_one, Int.mul_one]
    have hln := late_nonneg A e
    have hABr : rising (A ++ B) := hAB ▸ hr
    by_cases hin : e ≤ firstAt p (t :: r)
    · -- it is told within the first ones
      have hB2 : past (firstAt p (t :: r)) A = [] := List.filter_eq_nil_iff.2 fun x hx => by
        have := hAe x hx
        simp; omega
      have e1 : past (firstAt p (t :: r)) (t :: r) = past (firstAt p (t :: r)) B := by
        generalize firstAt p (t :: r) = a at *
        rw [hAB]
        unfold past at hB2 ⊢
        rw [List.filter_append, hB2, List.nil_append]
      have hBr : rising B := (List.pairwise_append.1 hABr).2.1
      have h1 : gc p (past (firstAt p (t :: r)) B) ≤ gc p B := gc_drop hp B.length B hBr (Nat.le_refl _) (upto (firstAt p (t :: r)) B) _ (parts hBr)
      rw [e1]
      have h2 : p * (gc p (past (firstAt p (t :: r)) B) : Int) ≤ p * (gc p B : Int) := Int.mul_le_mul_of_nonneg_left (by omega) hp
      omega
    · -- the first ones wait longer than the price
      have hAr : rising A := (List.pairwise_append.1 hABr).1
      have hA2 := parts (a := firstAt p (t :: r)) hAr
      have hB1 : past (firstAt p (t :: r)) B = B := List.filter_eq_self.2 fun x hx => by
        have := hBe x hx
        simp; omega
      have hB0 : upto (firstAt p (t :: r)) B = [] := List.filter_eq_nil_iff.2 fun x hx => by
        have := hBe x hx
        simp; omega
      have e1 : past (firstAt p (t :: r)) (t :: r) = past (firstAt p (t :: r)) A ++ B := by
        generalize firstAt p (t :: r) = a at *
        conv => rhs; rw [← hB1]
        rw [hAB]
        unfold past
        rw [List.filter_append]
      have e0 : upto (firstAt p (t :: r)) (t :: r) = upto (firstAt p (t :: r)) A := by
        generalize firstAt p (t :: r) = a at *
        rw [hAB]
        unfold upto at hB0 ⊢
        rw [List.filter_append, hB0, List.append_nil]
      have hw : p < late (upto (firstAt p (t :: r)) A) e := by
        have h1 := late_mono (show firstAt p (t :: r) + 1 ≤ e by omega) (upto (firstAt p (t :: r)) A)
        have h2 := late_upto hr (a := firstAt p (t :: r)) (Int.le_refl _)
        rw [e0] at h2
        have := hs.next
        omega
      have hsum : late A e = late (upto (firstAt p (t :: r)) A) e + late (past (firstAt p (t :: r)) A) e := by
        conv => lhs; rw [hA2]
        exact late_append _ _ _
      by_cases hA' : past (firstAt p (t :: r)) A = []
      · rw [e1, hA', List.nil_append]
        have := late_nonneg (past (firstAt p (t :: r)) A) e
        omega
      · have ih := gc_group hp n _ hpr (by omega) (past (firstAt p (t :: r)) A) B e e1 (fun x hx => hAe x (List.mem_filter.1 hx).1) hBe hA'
        omega

/-- Somebody tells: the messages that are left, group by group, each at a time that is not ahead of its last message. -/
inductive Tells (p : Int) : List Int → Int → Prop
  | done : Tells p [] 0
  | tell {A B : List Int} {e y : Int} : A ≠ [] → (∀ x, x ∈ A → x ≤ e) → (∀ x, x ∈ B → e ≤ x) → Tells p B y → Tells p (A ++ B) (p + late A e + y)
/-- Who tells anyhow pays the price as often as it is told here. -/
theorem tells_gc {p : Int} (hp : 0 ≤ p) {ts : List Int} {y : Int} (h : Tells p ts y) : rising ts → p * gc p ts ≤ y := by
  induction h with
  | done => intro _; show p * ((0 : Nat) : Int) ≤ 0; simp
  | @tell A B e y hA hAe hBe h ih =>
    intro hr
    have hB : rising B := (List.pairwise_append.1 hr).2.1
    have h1 := gc_group hp (A ++ B).length (A ++ B) hr (Nat.le_refl _) A B e rfl hAe hBe hA
    have h2 := ih hB
    omega
/-- Dooly, Goldman, Scott. -/
theorem tells_twice {p : Int} (hp : 0 ≤ p) {ts : List Int} {y : Int} (hr : rising ts) (h : Tells p ts y) : tc p ts ≤ 2 * y := by
  have h1 := tc_le hp ts.length ts hr (Nat.le_refl _)
  have h2 := tells_gc hp h hr
  rw [Int.mul_assoc] at h1
  omega
/-- It is a way to tell. -/
theorem tells_run {p : Int} (hp : 0 ≤ p) : ∀ (n : Nat) (ts : List Int), rising ts → ts.length ≤ n → Tells p ts (tc p ts)
  | _, [], _, _ => .done
  | 0, t :: r, _, h => by simp at h
  | n + 1, t :: r, hr, h => by
    have hs := firstAt_spec hp hr
    have hl := past_head hp hr
    have hpr := past_rising (a := firstAt p (t :: r)) hr
    rw [List.length_cons] at h
    have ih := tells_run hp n _ hpr (by omega)
    rw [tc_cons hp hr]
    have := Tells.tell (p := p) (A := upto (firstAt p (t :: r)) (t :: r)) (e := firstAt p (t :: r)) (by
      unfold upto
      rw [List.filter_cons_of_pos (by have := hs.from_; simpa using this)]; simp)
      (fun x hx => by have := (List.mem_filter.1 hx).2; simpa using this)
      (fun x hx => by have := (List.mem_filter.1 hx).2; simp at this; omega) ih
    rwa [← parts hr] at this
end Go.Proofs.YtbdkpgjbcjmoiaaDoor
