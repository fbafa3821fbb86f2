/- Lists alone, for chapter 14: servers on a line; to go from both sides. -/
import Derived.Test.YtnjfmlojbaigjaaSched
namespace Go.Proofs.Ytnjfmlojbaigjaa

def zabs (a : Int) : Int := max a (-a)
def sumZ (f : Int → Int) : List Int → Int
  | [] => 0
  | t :: L => f t + sumZ f L
theorem sumZ_le {f g : Int → Int} : ∀ {L : List Int}, (∀ t, t ∈ L → f t ≤ g t) → sumZ f L ≤ sumZ g L
  | [], _ => Int.le_refl _
  | x :: L, h => by
    have := sumZ_le (f := f) (g := g) (L := L) fun t ht => h t (by simp [ht])
    have := h x (by simp)
    rw [sumZ, sumZ]; omega
theorem sumZ_congr {f g : Int → Int} {L : List Int} (h : ∀ t, t ∈ L → f t = g t) : sumZ f L = sumZ g L :=
  Int.le_antisymm (sumZ_le fun t ht => Int.le_of_eq (h t ht)) (sumZ_le fun t ht => Int.le_of_eq (h t ht).symm)
theorem sumZ_add (f g : Int → Int) (L : List Int) : sumZ (fun t => f t + g t) L = sumZ f L + sumZ g L := by
  induction L with
  | nil => rfl
  | cons x L ih => rw [sumZ, sumZ, sumZ, ih]; omega
theorem sumZ_mul (k : Int) (f : Int → Int) (L : List Int) : sumZ (fun t => k * f t) L = k * sumZ f L := by
  induction L with
  | nil => simp [sumZ]
  | cons x L ih => rw [sumZ, sumZ, ih, Int.mul_add]
theorem sumZ_erase {f : Int → Int} {p : Int} : ∀ {L : List Int}, p ∈ L → sumZ f L = f p + sumZ f (L.erase p)
  | [], h => by simp at h
  | x :: L, h => by
    by_cases hx : x = p
    · subst hx; rw [List.erase_cons_head, sumZ]
    · rw [List.erase_cons_tail (by simpa using hx), sumZ, sumZ, sumZ_erase (L := L) (by simpa [Ne.symm hx] using h)]
      omega
/-- A sum in which one thing changes. -/
theorem sumZ_one {f g : Int → Int} {L : List Int} (hn : L.Nodup) {p : Int} (hp : p ∈ L) (h : ∀ t, t ∈ L → t ≠ p → f t = g t) : sumZ f L + g p = sumZ g L + f p := by
  rw [sumZ_erase (f := f) hp, sumZ_erase (f := g) hp, sumZ_congr (f := f) (g := g) (L := L.erase p) fun t ht => h t (List.mem_of_mem_erase ht) fun e => hn.not_mem_erase (e ▸ ht)]
  omega
theorem sumZ_two {f g : Int → Int} {L : List Int} (hn : L.Nodup) {p q : Int} (hp : p ∈ L) (hq : q ∈ L) (hne : p ≠ q) (h : ∀ t, t ∈ L → t ≠ p → t ≠ q → f t = g t) : sumZ f L + g p + g q = sumZ g L + f p + f q := by
  have hq2 : q ∈ L.erase p := (List.mem_erase_of_ne (Ne.symm hne)).2 hq
  have := sumZ_one (f := f) (g := g) (hn.erase p) hq2 fun t ht htq => h t (List.mem_of_mem_erase ht) (fun e => hn.not_mem_erase (e ▸ ht)) htq
  rw [sumZ_erase (f := f) hp, sumZ_erase (f := g) hp]
  omega

/-- The gaps between places. -/
def line : List Int := (List.range 12).map fun i : Nat => (i : Int)
theorem line_mem {t : Int} : t ∈ line ↔ 0 ≤ t ∧ t < 12 := by
  unfold line
  rw [List.mem_map]
  constructor
  · rintro ⟨i, hi, rfl⟩
    have := List.mem_range.1 hi
    omega
  · intro h
    exact ⟨t.toNat, List.mem_range.2 (by omega), by omega⟩
theorem line_nodup : line.Nodup := by decide
def at_le (q t : Int) : Int := if q ≤ t then 1 else 0
/-- How many stand at a place or ahead of it. -/
def cn (x : List Int) (t : Int) : Int := (many (fun p => decide (p ≤ t)) x : Nat)
theorem cn_cons (p : Int) (x : List Int) (t : Int) : cn (p :: x) t = at_le p t + cn x t := by
  unfold cn at_le
  rw [many_cons]
  by_cases h : p ≤ t
  · rw [if_pos h, if_pos (by simpa using h)]; omega
  · rw [if_neg h, if_neg (by simpa using h)]; omega
theorem cn_nil (t : Int) : cn [] t = 0 := rfl
theorem cn_erase {q : Int} {x : List Int} (h : q ∈ x) (t : Int) : cn x t = at_le q t + cn (x.erase q) t := by
  rw [← cn_cons]
  unfold cn
  rw [many_erase h, many_cons]
theorem cn_perm {x y : List Int} (h : x.Perm y) (t : Int) : cn x t = cn y t := by
  unfold cn many
  rw [(h.filter _).length_eq]
theorem cn_nonneg (x : List Int) (t : Int) : 0 ≤ cn x t := by unfold cn; omega
theorem cn_le (x : List Int) (t : Int) : cn x t ≤ x.length := by
  unfold cn
  have := many_le (fun p => decide (p ≤ t)) x
  omega
theorem cn_mono {s t : Int} (h : s ≤ t) (x : List Int) : cn x s ≤ cn x t := by
  induction x with
  | nil => exact Int.le_refl _
  | cons p x ih =>
    rw [cn_cons, cn_cons]
    unfold at_le
    split <;> split <;> omega
theorem cn_jump {r s t : Int} {x : List Int} (hr : r ∈ x) (h1 : s < r) (h2 : r ≤ t) : cn x s + 1 ≤ cn x t := by
  rw [cn_erase hr s, cn_erase hr t]
  have := cn_mono (show s ≤ t by omega) (x.erase r)
  unfold at_le
  rw [if_neg (by omega), if_pos h2]; omega
theorem cn_same {s t : Int} (h : s ≤ t) {x : List Int} (hno : ∀ z, z ∈ x → z ≤ s ∨ t < z) : cn x s = cn x t := by
  induction x with
  | nil => rfl
  | cons p x ih =>
    have := ih fun z hz => hno z (by simp [hz])
    have := hno p (by simp)
    rw [cn_cons, cn_cons]
    unfold at_le
    split <;> split <;> omega
theorem cn_none {t : Int} {x : List Int} (h : ∀ z, z ∈ x → t < z) : cn x t = 0 := by
  induction x with
  | nil => rfl
  | cons p x ih =>
    have := h p (by simp)
    rw [cn_cons, ih fun z hz => h z (by simp [hz])]
    unfold at_le
    rw [if_neg (by omega)]; rfl
theorem cn_all {t : Int} {x : List Int} (h : ∀ z, z ∈ x → z ≤ t) : cn x t = x.length := by
  induction x with
  | nil => rfl
  | cons p x ih =>
    have := h p (by simp)
    rw [cn_cons, ih fun z hz => h z (by simp [hz]), List.length_cons]
    unfold at_le
    rw [if_pos this]; omega
/-- How far one place is from another one: by the gaps between them. -/
theorem gaps : ∀ q r : Fin 13, sumZ (fun t => zabs (at_le (q.val : Int) t - at_le (r.val : Int) t)) line = zabs ((q.val : Int) - (r.val : Int)) := by decide +kernel
theorem gap {q r : Int} (hq : 0 ≤ q ∧ q ≤ 12) (hr : 0 ≤ r ∧ r ≤ 12) : sumZ (fun t => zabs (at_le q t - at_le r t)) line = zabs (q - r) := by
  have := gaps ⟨q.toNat, by omega⟩ ⟨r.toNat, by omega⟩
  simp only [Int.toNat_of_nonneg hq.1, Int.toNat_of_nonneg hr.1] at this
  exact this

/-- How far two sets of servers are apart, and each of the first among themselves. -/
def gp (k c d : Int) : Int := k * zabs (c - d) + c * (k - c)
def phi (k : Int) (x y : List Int) : Int := sumZ (fun t => gp k (cn x t) (cn y t)) line
theorem gp_pair {k c d1 d2 : Int} (hk : 1 ≤ k ∧ k ≤ 3) (hc : 1 ≤ c ∧ c ≤ k - 1) (hd : d1 + 1 ≤ d2) : gp k (c - 1) d1 + gp k (c + 1) d2 + 2 ≤ gp k c d1 + gp k c d2 := by
  unfold gp zabs
  rcases (by omega : k = 1 ∨ k = 2 ∨ k = 3) with rfl | rfl | rfl
  · omega
  · obtain rfl : c = 1 := by omega
    omega
  · rcases (by omega : c = 1 ∨ c = 2) with rfl | rfl <;> omega
theorem gp_low {k d : Int} (hk : 1 ≤ k ∧ k ≤ 3) (hd : 1 ≤ d) : gp k 1 d + 1 ≤ gp k 0 d := by
  unfold gp zabs
  rcases (by omega : k = 1 ∨ k = 2 ∨ k = 3) with rfl | rfl | rfl <;> omega
theorem gp_high {k d : Int} (hk : 1 ≤ k ∧ k ≤ 3) (hd : d ≤ k - 1) : gp k (k - 1) d + 1 ≤ gp k k d := by
  unfold gp zabs
  rcases (by omega : k = 1 ∨ k = 2 ∨ k = 3) with rfl | rfl | rfl <;> omega
theorem gp_nonneg {k c d : Int} (hk : 1 ≤ k ∧ k ≤ 3) (hc : 0 ≤ c ∧ c ≤ k) : 0 ≤ gp k c d := by
  unfold gp zabs
  rcases (by omega : k = 1 ∨ k = 2 ∨ k = 3) with rfl | rfl | rfl
  · rcases (by omega : c = 0 ∨ c = 1) with rfl | rfl <;> omega
  · rcases (by omega : c = 0 ∨ c = 1 ∨ c = 2) with rfl | rfl | rfl <;> omega
  · rcases (by omega : c = 0 ∨ c = 1 ∨ c = 2 ∨ c = 3) with rfl | rfl | rfl | rfl <;> omega
theorem phi_nonneg {k : Nat} (hk : 1 ≤ k ∧ k ≤ 3) {x y : List Int} (hx : x.length = k) : 0 ≤ phi k x y := by
  unfold phi
  have : sumZ (fun _ => 0) line ≤ sumZ (fun t => gp k (cn x t) (cn y t)) line := sumZ_le fun t _ => gp_nonneg (by omega) ⟨cn_nonneg x t, by have := cn_le x t; omega⟩
  have e : sumZ (fun _ => 0) line = 0 := by decide
  omega
theorem phi_perm {k : Int} {x x' : List Int} (h : x.Perm x') (y : List Int) : phi k x y = phi k x' y := by
  unfold phi
  exact sumZ_congr fun t _ => by rw [cn_perm h]
/-- Another one goes. -/
theorem phi_goes {k : Int} (hk : 0 ≤ k) (x : List Int) {y : List Int} {q r : Int} (hq : q ∈ y) (hq2 : 0 ≤ q ∧ q ≤ 12) (hr : 0 ≤ r ∧ r ≤ 12) : phi k x (r :: y.erase q) ≤ phi k x y + k * zabs (q - r) := by
  unfold phi
  rw [← gap hq2 hr, ← sumZ_mul, ← sumZ_add]
  refine sumZ_le fun t _ => ?_
  rw [cn_cons, cn_erase hq t]
  unfold gp
  have h1 : zabs (cn x t - (at_le r t + cn (y.erase q) t)) ≤ zabs (cn x t - (at_le q t + cn (y.erase q) t)) + zabs (at_le q t - at_le r t) := by unfold zabs; omega
  have h2 := Int.mul_le_mul_of_nonneg_left h1 hk
  rw [Int.mul_add] at h2
  omega
theorem at_le_pred (a t : Int) : at_le (a - 1) t = at_le a t + (if t = a - 1 then 1 else 0) := by unfold at_le; split <;> split <;> split <;> omega
theorem at_le_succ (a t : Int) : at_le (a + 1) t = at_le a t - (if t = a then 1 else 0) := by unfold at_le; split <;> split <;> split <;> omega
/-- One step down of who stands first. -/
theorem phi_down {k : Nat} (hk : 1 ≤ k ∧ k ≤ 3) {a r : Int} {z y : List Int} (hz : ∀ b, b ∈ z → a ≤ b) (hr : r ∈ y) (hr0 : 0 ≤ r) (hra : r < a) (ha : a ≤ 12) : phi k ((a - 1) :: z) y + 1 ≤ phi k (a :: z) y := by
  unfold phi
  have hne : ∀ t, t ∈ line → t ≠ a - 1 → gp k (cn ((a - 1) :: z) t) (cn y t) = gp k (cn (a :: z) t) (cn y t) := fun t _ ht => by
    rw [cn_cons, cn_cons, at_le_pred, if_neg ht, Int.add_zero]
  have h := sumZ_one line_nodup (line_mem.2 (by omega : 0 ≤ a - 1 ∧ a - 1 < 12)) hne
  have e0 : cn (a :: z) (a - 1) = 0 := cn_none fun b hb => by
    rcases List.mem_cons.1 hb with rfl | hb
    · omega
    · have := hz b hb; omega
  have e1 : cn ((a - 1) :: z) (a - 1) = 1 := by
    rw [cn_cons] at e0 ⊢
    rw [at_le_pred, if_pos rfl]; omega
  have hd := cn_jump (s := r - 1) (t := a - 1) hr (by omega) (by omega)
  have := cn_nonneg y (r - 1)
  rw [e0, e1] at h
  have hg := gp_low (k := k) (d := cn y (a - 1)) (by omega) (by omega)
  omega
/-- One step up of who stands last. -/
theorem phi_up {k : Nat} (hk : 1 ≤ k ∧ k ≤ 3) {a r : Int} {z y : List Int} (hlen : (a :: z).length = k) (hy : y.length = k) (hz : ∀ b, b ∈ z → b ≤ a) (hr : r ∈ y) (hr0 : r ≤ 12) (hra : a < r) (ha : 0 ≤ a) : phi k ((a + 1) :: z) y + 1 ≤ phi k (a :: z) y := by
  unfold phi
  have hne : ∀ t, t ∈ line → t ≠ a → gp k (cn ((a + 1) :: z) t) (cn y t) = gp k (cn (a :: z) t) (cn y t) := fun t _ ht => by
    rw [cn_cons, cn_cons, at_le_succ, if_neg ht, Int.sub_zero]
  have h := sumZ_one line_nodup (line_mem.2 (by omega : 0 ≤ a ∧ a < 12)) hne
  have e0 : cn (a :: z) a = k := by
    rw [← hlen]
    exact cn_all fun b hb => by
      rcases List.mem_cons.1 hb with rfl | hb
      · exact Int.le_refl _
      · exact hz b hb
  have e1 : cn ((a + 1) :: z) a = k - 1 := by
    rw [cn_cons] at e0 ⊢
    rw [at_le_succ, if_pos rfl]; omega
  have hd := cn_jump (s := a) (t := r) hr (by omega) (by omega)
  have := cn_le y r
  rw [e0, e1] at h
  have hg := gp_high (k := k) (d := cn y a) (by omega) (by omega)
  omega
/-- One step of two, towards each other. -/
theorem phi_both {k : Nat} (hk : 1 ≤ k ∧ k ≤ 3) {a b r : Int} {z y : List Int} (hlen : (a :: b :: z).length = k) (hz : ∀ c, c ∈ z → c ≤ a ∨ b ≤ c) (hr : r ∈ y) (ha : 0 ≤ a) (hb : b ≤ 12) (har : a < r) (hrb : r < b) : phi k ((a + 1) :: (b - 1) :: z) y + 2 ≤ phi k (a :: b :: z) y := by
  unfold phi
  have hne : ∀ t, t ∈ line → t ≠ a → t ≠ b - 1 → gp k (cn ((a + 1) :: (b - 1) :: z) t) (cn y t) = gp k (cn (a :: b :: z) t) (cn y t) := fun t _ h1 h2 => by
    rw [cn_cons, cn_cons, cn_cons, cn_cons, at_le_succ, at_le_pred, if_neg h1, if_neg h2, Int.sub_zero, Int.add_zero]
  have h := sumZ_two line_nodup (line_mem.2 (by omega : 0 ≤ a ∧ a < 12)) (line_mem.2 (by omega : 0 ≤ b - 1 ∧ b - 1 < 12)) (by omega) hne
  have es : cn (a :: b :: z) a = cn (a :: b :: z) (b - 1) := cn_same (by omega) fun c hc => by
    rcases List.mem_cons.1 hc with rfl | hc
    · omega
    · rcases List.mem_cons.1 hc with rfl | hc
      · omega
      · have := hz c hc; omega
  have e1 : cn ((a + 1) :: (b - 1) :: z) a = cn (a :: b :: z) a - 1 := by
    rw [cn_cons, cn_cons, cn_cons, cn_cons, at_le_succ, at_le_pred, if_pos rfl, if_neg (by omega)]; omega
  have e2 : cn ((a + 1) :: (b - 1) :: z) (b - 1) = cn (a :: b :: z) (b - 1) + 1 := by
    rw [cn_cons, cn_cons, cn_cons, cn_cons, at_le_succ, at_le_pred, if_neg (by omega), if_pos rfl]; omega
  have hc1 : 1 ≤ cn (a :: b :: z) a := by
    rw [cn_cons]
    have := cn_nonneg (b :: z) a
    unfold at_le
    rw [if_pos (Int.le_refl _)]; omega
  have hc2 : cn (a :: b :: z) a ≤ k - 1 := by
    rw [cn_cons, cn_cons]
    have := cn_le z a
    simp only [List.length_cons] at hlen
    unfold at_le
    rw [if_pos (Int.le_refl _), if_neg (by omega)]; omega
  have hd := cn_jump (s := a) (t := b - 1) hr (by omega) (by omega)
  rw [e1, e2, ← es] at h
  have hg := gp_pair (k := k) (c := cn (a :: b :: z) a) (by omega) ⟨hc1, hc2⟩ hd
  omega
end Go.Proofs.Ytnjfmlojbaigjaa
