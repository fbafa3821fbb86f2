/- Lists alone, for chapter 13: what is wrong with times and a price; how many messages came up to a time. -/
import Derived.Test.YtbdkpgjbcjmoiaaDoorAckM
namespace Go.Proofs.YtbdkpgjbcjmoiaaDoor

def badT (t : Int) : Bool := decide (t < 0) || decide (1000 < t)
instance (l : List Int) : Decidable (rising l) := inferInstanceAs (Decidable (l.Pairwise (· ≤ ·)))
def chkA (l : List Int) (p : Int) : Nat := if 20 < l.length then 4 else if l.any badT then 1 else if p < 1 ∨ 20 < p then 1 else if rising l then 0 else 6
theorem chkA_long {l : List Int} {p : Int} (h : 20 < l.length) : chkA l p = 4 := by simp only [chkA, h, if_true]
theorem chkA_time {l : List Int} {p : Int} (h : l.length ≤ 20) (hb : l.any badT = true) : chkA l p = 1 := by
  have : ¬ 20 < l.length := by omega
  simp [chkA, this, hb]
theorem chkA_price {l : List Int} {p : Int} (h : l.length ≤ 20) (hp : p < 1 ∨ 20 < p) : chkA l p = 1 := by
  have : ¬ 20 < l.length := by omega
  simp [chkA, this, hp]
theorem chkA_ok {l : List Int} {p : Int} (h : l.length ≤ 20) (hb : l.any badT = false) (hp : 1 ≤ p ∧ p ≤ 20) (hr : rising l) : chkA l p = 0 := by
  have h1 : ¬ 20 < l.length := by omega
  have h2 : ¬ (p < 1 ∨ 20 < p) := by omega
  simp [chkA, h1, hb, h2, hr]
theorem chkA_clash {l : List Int} {p : Int} (h : l.length ≤ 20) (hb : l.any badT = false) (hp : 1 ≤ p ∧ p ≤ 20) (hr : ¬ rising l) : chkA l p = 6 := by
  have h1 : ¬ 20 < l.length := by omega
  have h2 : ¬ (p < 1 ∨ 20 < p) := by omega
  simp [chkA, h1, hb, h2, hr]
theorem chkA_cases (l : List Int) (p : Int) : chkA l p = 0 ∨ chkA l p = 1 ∨ chkA l p = 4 ∨ chkA l p = 6 := by
  unfold chkA
  repeat' split
  all_goals simp
/-- What Check lets through. -/
structure FineA (ts : List Int) (p : Int) : Prop where
  many : ts.length ≤ 20
  times : ∀ x, x ∈ ts → 0 ≤ x ∧ x ≤ 1000
  price : 1 ≤ p ∧ p ≤ 20
  rise : rising ts
theorem chkA_zero {l : List Int} {p : Int} (h : chkA l p = 0) : FineA l p := by
  by_cases h1 : 20 < l.length
  · rw [chkA_long h1] at h; cases h
  have h20 : l.length ≤ 20 := by omega
  cases hb : l.any badT with
  | true => rw [chkA_time h20 hb] at h; cases h
  | false =>
    by_cases hp : p < 1 ∨ 20 < p
    · rw [chkA_price h20 hp] at h; cases h
    · by_cases hr : rising l
      · refine ⟨h20, fun x hx => ?_, by omega, hr⟩
        have := List.any_eq_false.1 hb x hx
        simp [badT] at this; omega
      · rw [chkA_clash h20 hb (by omega) hr] at h; cases h
theorem any_nextA {f : Int → Bool} {l : List Int} {k : Nat} (h : k < l.length) (h0 : (l.take k).any f = false) (hb : f (l[k]?.getD 0) = false) : (l.take (k+1)).any f = false := by
  rw [List.take_succ_eq_append_getElem h, List.any_append, h0]
  simp [List.getElem?_eq_getElem h] at hb ⊢
  exact hb
theorem any_hereA {f : Int → Bool} {l : List Int} {k : Nat} (h : k < l.length) (hb : f (l[k]?.getD 0) = true) : l.any f = true := by
  rw [List.any_eq_true]
  exact ⟨l[k], List.getElem_mem h, by simpa [List.getElem?_eq_getElem h] using hb⟩
theorem adj_rising {l : List Int} (h : ∀ m, m + 1 < l.length → l[m]?.getD 0 ≤ l[m+1]?.getD 0) : rising l := by
  have key : ∀ d i, i + d < l.length → l[i]?.getD 0 ≤ l[i+d]?.getD 0 := by
    intro d
    induction d with
    | zero => intro i _; exact Int.le_refl _
    | succ d ih =>
      intro i hi
      have h1 := ih i (by omega)
      have h2 := h (i + d) (by omega)
      rw [show i + (d + 1) = i + d + 1 by omega]
      omega
  refine List.pairwise_iff_getElem.2 fun i j hi hj hij => ?_
  have := key (j - i) i (by omega)
  rw [show i + (j - i) = j by omega, List.getElem?_eq_getElem hi, List.getElem?_eq_getElem hj] at this
  exact this
theorem rising_adj {l : List Int} (h : rising l) {m : Nat} (hm : m + 1 < l.length) : l[m]?.getD 0 ≤ l[m+1]?.getD 0 := by
  rw [List.getElem?_eq_getElem (by omega : m < l.length), List.getElem?_eq_getElem hm]
  exact List.pairwise_iff_getElem.1 h m (m+1) (by omega) hm (by omega)

/-- How many messages came up to a time. -/
def cameN (l : List Int) (a : Int) : Nat := l.countP fun t => decide (t < a + 1)
theorem cameN_le (l : List Int) (a : Int) : cameN l a ≤ l.length := List.countP_le_length
theorem came_split (a : Int) : ∀ {l : List Int}, rising l → l.take (cameN l a) = upto a l ∧ l.drop (cameN l a) = past a l
  | [], _ => ⟨rfl, rfl⟩
  | t :: r, h => by
    have hr := List.pairwise_cons.1 h
    obtain ⟨i1, i2⟩ := came_split a (l := r) hr.2
    by_cases ht : t ≤ a
    · have e : cameN (t :: r) a = cameN r a + 1 := List.countP_cons_of_pos (by simp; omega)
      rw [e, List.take_succ_cons, List.drop_succ_cons, i1, i2]
      unfold upto past
      rw [List.filter_cons_of_pos (by simpa using ht), List.filter_cons_of_neg (by simp; omega)]
      exact ⟨rfl, rfl⟩
    · have h0 : ∀ x, x ∈ t :: r → ¬ x ≤ a := fun x hx => by
        rcases List.mem_cons.1 hx with rfl | hx
        · exact ht
        · have := hr.1 x hx; omega
      have e : cameN (t :: r) a = 0 := List.countP_eq_zero.2 fun x hx => by have := h0 x hx; simp; omega
      rw [e, List.take_zero, List.drop_zero]
      unfold upto past
      rw [List.filter_eq_nil_iff.2 fun x hx => by have := h0 x hx; simp; omega, List.filter_eq_self.2 fun x hx => by have := h0 x hx; simp; omega]
      exact ⟨rfl, rfl⟩
theorem came_at {l : List Int} {a : Int} (hr : rising l) {k : Nat} (hk : k < cameN l a) : l[k]?.getD 0 ≤ a := by
  have hl := cameN_le l a
  have hm : l[k]?.getD 0 ∈ l.take (cameN l a) := by
    rw [List.getElem?_eq_getElem (by omega : k < l.length), Option.getD_some]
    have := List.getElem_mem (l := l.take (cameN l a)) (n := k) (by rw [List.length_take]; omega)
    rwa [List.getElem_take] at this
  rw [(came_split a hr).1] at hm
  have := (List.mem_filter.1 hm).2
  simpa using this
theorem late_came {l : List Int} (hr : rising l) (a : Int) : late (l.take (cameN l a)) a = late l a := by
  rw [(came_split a hr).1]
  exact late_upto hr (by omega)
theorem late_take {l : List Int} {a : Int} {k : Nat} (hk : k < l.length) (h : l[k]?.getD 0 ≤ a) : late (l.take (k+1)) a = late (l.take k) a + (a - l[k]?.getD 0) := by
  rw [List.take_succ_eq_append_getElem hk, late_append, late, late]
  rw [List.getElem?_eq_getElem hk, Option.getD_some] at h ⊢
  split <;> omega
theorem late_le : ∀ {l : List Int} {a m : Int}, 0 ≤ m → (∀ x, x ∈ l → a - x ≤ m) → late l a ≤ l.length * m
  | [], _, _, _, _ => by rw [late]; simp
  | t :: r, a, m, h0, h => by
    have h1 := late_le (l := r) h0 fun x hx => h x (List.mem_cons_of_mem _ hx)
    have h2 := h t List.mem_cons_self
    rw [late, List.length_cons, Int.natCast_add, Int.add_mul, Int.natCast_one, Int.one_mul]
    split <;> omega
theorem came_first {l : List Int} {a : Int} {t : Int} {r : List Int} (e : l = t :: r) (h : t ≤ a) : 0 < cameN l a := by
  subst e
  unfold cameN
  rw [List.countP_cons_of_pos (by simp; omega)]; omega
end Go.Proofs.YtbdkpgjbcjmoiaaDoor
