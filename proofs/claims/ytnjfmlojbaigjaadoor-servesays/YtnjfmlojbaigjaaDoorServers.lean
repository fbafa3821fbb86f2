/- Several texts in one. -/
import Derived.Test.YtnjfmlojbaigjaaDoorSched
/- Lists alone, for chapter 14: servers on a line; to go from both sides. -/
namespace Go.Proofs.YtnjfmlojbaigjaaDoor

def zabs (a : Int) : Int := max a (-a)
def sumZ (f : Int → Int) : List Int → Int
  | [] => 0
  | t :: L => f t + sumZ f L
theorem sumZ_le {f g : Int → Int} : ∀ {L : List Int}, (∀ t, t ∈ L → f t ≤ g t) → sumZ f L ≤ sumZ g L
  | [], _ => Int.le_refl _
  | x :: L, h => by
    have := sumZ_le (f := f) (g := g) (L := L) fun t ht => h t (by simp [ht])
    have := h x (by simp)
    rw [sumZ, sumZ]; omega
theorem sumZ_congr {f g : Int → Int} {L : List Int} (h : ∀ t, t ∈ L → f t = g t) : sumZ f L = sumZ g L :=
  Int.le_antisymm (sumZ_le fun t ht => Int.le_of_eq (h t ht)) (sumZ_le fun t ht => Int.le_of_eq (h t ht).symm)
theorem sumZ_add (f g : Int → Int) (L : List Int) : sumZ (fun t => f t + g t) L = sumZ f L + sumZ g L := by
  induction L with
  | nil => rfl
  | cons x L ih => rw [sumZ, sumZ, sumZ, ih]; omega
theorem sumZ_mul (k : Int) (f : Int → Int) (L : List Int) : sumZ (fun t => k * f t) L = k * sumZ f L := by
  induction L with
  | nil => simp [sumZ]
  | cons x L ih => rw [sumZ, sumZ, ih, Int.mul_add]
theorem sumZ_erase {f : Int → Int} {p : Int} : ∀ {L : List Int}, p ∈ L → sumZ f L = f p + sumZ f (L.erase p)
  | [], h => by simp at h
  | x :: L, h => by
    by_cases hx : x = p
    · subst hx; rw [List.erase_cons_head, sumZ]
    · rw [List.erase_cons_tail (by simpa using hx), sumZ, sumZ, sumZ_erase (L := L) (by simpa [Ne.symm hx] using h)]
      omega
/-- A sum in which one thing changes. -/
theorem sumZ_one {f g : Int → Int} {L : List Int} (hn : L.Nodup) {p : Int} (hp : p ∈ L) (h : ∀ t, t ∈ L → t ≠ p → f t = g t) : sumZ f L + g p = sumZ g L + f p := by
  rw [sumZ_erase (f := f) hp, sumZ_erase (f := g) hp, sumZ_congr (f := f) (g := g) (L := L.erase p) fun t ht => h t (List.mem_of_mem_erase ht) fun e => hn.not_mem_erase (e ▸ ht)]
  omega
theorem sumZ_two {f g : Int → Int} {L : List Int} (hn : L.Nodup) {p q : Int} (hp : p ∈ L) (hq : q ∈ L) (hne : p ≠ q) (h : ∀ t, t ∈ L → t ≠ p → t ≠ q → f t = g t) : sumZ f L + g p + g q = sumZ g L + f p + f q := by
  have hq2 : q ∈ L.erase p := (List.mem_erase_of_ne (Ne.symm hne)).2 hq
  have := sumZ_one (f := f) (g := g) (hn.erase p) hq2 fun t ht htq => h t (List.mem_of_mem_erase ht) (fun e => hn.not_mem_erase (e ▸ ht)) htq
  rw [sumZ_erase (f := f) hp, sumZ_erase (f := g) hp]
  omega

/-- The gaps between places. -/
def line : List Int := (List.range 12).map fun i : Nat => (i : Int)
theorem line_mem {t : Int} : t ∈ line ↔ 0 ≤ t ∧ t < 12 := by
  unfold line
  rw [List.mem_map]
  constructor
  · rintro ⟨i, hi, rfl⟩
    have := List.mem_range.1 hi
    omega
  · intro h
    exact ⟨t.toNat, List.mem_range.2 (by omega), by omega⟩
theorem line_nodup : line.Nodup := by decide
def at_le (q t : Int) : Int := if q ≤ t then 1 else 0
/-- How many stand at a place or ahead of it. -/
def cn (x : List Int) (t : Int) : Int := (many (fun p => decide (p ≤ t)) x : Nat)
theorem cn_cons (p : Int) (x : List Int) (t : Int) : cn (p :: x) t = at_le p t + cn x t := by
  unfold cn at_le
  rw [many_cons]
  by_cases h : p ≤ t
  · rw [if_pos h, if_pos (by simpa using h)]; omega
  · rw [if_neg h, if_neg (by simpa using h)]; omega
theorem cn_nil (t : Int) : cn [] t = 0 := rfl
theorem cn_erase {q : Int} {x : List Int} (h : q ∈ x) (t : Int) : cn x t = at_le q t + cn (x.erase q) t := by
  rw [← cn_cons]
  unfold cn
  rw [many_erase h, many_cons]
theorem cn_perm {x y : List Int} (h : x.Perm y) (t : Int) : cn x t = cn y t := by
  unfold cn many
  rw [(h.filter _).length_eq]
theorem cn_nonneg (x : List Int) (t : Int) : 0 ≤ cn x t := by unfold cn; omega
theorem cn_le (x : List Int) (t : Int) : cn x t ≤ x.length := by
  unfold cn
  have := many_le (fun p => decide (p ≤ t)) x
  omega
theorem cn_mono {s t : Int} (h : s ≤ t) (x : List Int) : cn x s ≤ cn x t := by
  induction x with
  | nil => exact Int.le_refl _
  | cons p x ih =>
    rw [cn_cons, cn_cons]
    unfold at_le
    split <;> split <;> omega
theorem cn_jump {r s t : Int} {x : List Int} (hr : r ∈ x) (h1 : s < r) (h2 : r ≤ t) : cn x s + 1 ≤ cn x t := by
  rw [cn_erase hr s, cn_erase hr t]
  have := cn_mono (show s ≤ t by omega) (x.erase r)
  unfold at_le
  rw [if_neg (by omega), if_pos h2]; omega
theorem cn_same {s t : Int} (h : s ≤ t) {x : List Int} (hno : ∀ z, z ∈ x → z ≤ s ∨ t < z) : cn x s = cn x t := by
  induction x with
  | nil => rfl
  | cons p x ih =>
    have := ih fun z hz => hno z (by simp [hz])
    have := hno p (by simp)
    rw [cn_cons, cn_cons]
    unfold at_le
    split <;> split <;> omega
theorem cn_none {t : Int} {x : List Int} (h : ∀ z, z ∈ x → t < z) : cn x t = 0 := by
  induction x with
  | nil => rfl
  | cons p x ih =>
    have := h p (by simp)
    rw [cn_cons, ih fun z hz => h z (by simp [hz])]
    unfold at_le
    rw [if_neg (by omega)]; rfl
theorem cn_all {t : Int} {x : List Int} (h : ∀ z, z ∈ x → z ≤ t) : cn x t = x.length := by
  induction x with
  | nil => rfl
  | cons p x ih =>
    have := h p (by simp)
    rw [cn_cons, ih fun z hz => h z (by simp [hz]), List.length_cons]
    unfold at_le
    rw [if_pos this]; omega
/-- How far one place is from another one: by the gaps between them. -/
theorem gaps : ∀ q r : Fin 13, sumZ (fun t => zabs (at_le (q.val : Int) t - at_le (r.val : Int) t)) line = zabs ((q.val : Int) - (r.val : Int)) := by decide +kernel
theorem gap {q r : Int} (hq : 0 ≤ q ∧ q ≤ 12) (hr : 0 ≤ r ∧ r ≤ 12) : sumZ (fun t => zabs (at_le q t - at_le r t)) line = zabs (q - r) := by
  have := gaps ⟨q.toNat, by omega⟩ ⟨r.toNat, by omega⟩
  simp only [Int.toNat_of_nonneg hq.1, Int.toNat_of_nonneg hr.1] at this
  exact this

/-- How far two sets of servers are apart, and each of the first among themselves. -/
def gp (k c d : Int) : Int := k * zabs (c - d) + c * (k - c)
def phi (k : Int) (x y : List Int) : Int := sumZ (fun t => gp k (cn x t) (cn y t)) line
theorem gp_pair {k c d1 d2 : Int} (hk : 1 ≤ k ∧ k ≤ 3) (hc : 1 ≤ c ∧ c ≤ k - 1) (hd : d1 + 1 ≤ d2) : gp k (c - 1) d1 + gp k (c + 1) d2 + 2 ≤ gp k c d1 + gp k c d2 := by
  unfold gp zabs
  rcases (by omega : k = 1 ∨ k = 2 ∨ k = 3) with rfl | rfl | rfl
  · omega
  · obtain rfl : c = 1 := by omega
    omega
  · rcases (by omega : c = 1 ∨ c = 2) with rfl | rfl <;> omega
theorem gp_low {k d : Int} (hk : 1 ≤ k ∧ k ≤ 3) (hd : 1 ≤ d) : gp k 1 d + 1 ≤ gp k 0 d := by
  unfold gp zabs
  rcases (by omega : k = 1 ∨ k = 2 ∨ k = 3) with rfl | rfl | rfl <;> omega
theorem gp_high {k d : Int} (hk : 1 ≤ k ∧ k ≤ 3) (hd : d ≤ k - 1) : gp k (k - 1) d + 1 ≤ gp k k d := by
  unfold gp zabs
  rcases (by omega : k = 1 ∨ k = 2 ∨ k = 3) with rfl | rfl | rfl <;> omega
theorem gp_nonneg {k c d : Int} (hk : 1 ≤ k ∧ k ≤ 3) (hc : 0 ≤ c ∧ c ≤ k) : 0 ≤ gp k c d := by
  unfold gp zabs
  rcases (by omega : k = 1 ∨ k = 2 ∨ k = 3) with rfl | rfl | rfl
  · rcases (by omega : c = 0 ∨ c = 1) with rfl | rfl <;> omega
  · rcases (by omega : c = 0 ∨ c = 1 ∨ c = 2) with rfl | rfl | rfl <;> omega
  · rcases (by omega : c = 0 ∨ c = 1 ∨ c = 2 ∨ c = 3) with rfl | rfl | rfl | rfl <;> omega
theorem phi_nonneg {k : Nat} (hk : 1 ≤ k ∧ k ≤ 3) {x y : List Int} (hx : x.length = k) : 0 ≤ phi k x y := by
  unfold phi
  have : sumZ (fun _ => 0) line ≤ sumZ (fun t => gp k (cn x t) (cn y t)) line := sumZ_le fun t _ => gp_nonneg (by omega) ⟨cn_nonneg x t, by have := cn_le x t; omega⟩
  have e : sumZ (fun _ => 0) line = 0 := by decide
  omega
theorem phi_perm {k : Int} {x x' : List Int} (h : x.Perm x') (y : List Int) : phi k x y = phi k x' y := by
  unfold phi
  exact sumZ_congr fun t _ => by rw [cn_perm h]
/-- Another one goes. -/
theorem phi_goes {k : Int} (hk : 0 ≤ k) (x : List Int) {y : List Int} {q r : Int} (hq : q ∈ y) (hq2 : 0 ≤ q ∧ q ≤ 12) (hr : 0 ≤ r ∧ r ≤ 12) : phi k x (r :: y.erase q) ≤ phi k x y + k * zabs (q - r) := by
  unfold phi
  rw [← gap hq2 hr, ← sumZ_mul, ← sumZ_add]
  refine sumZ_le fun t _ => ?_
  rw [cn_cons, cn_erase hq t]
  unfold gp
  have h1 : zabs (cn x t - (at_le r t + cn (y.erase q) t)) ≤ zabs (cn x t - (at_le q t + cn (y.erase q) t)) + zabs (at_le q t - at_le r t) := by unfold zabs; omega
  have h2 := Int.mul_le_mul_of_nonneg_left h1 hk
  rw [Int.mul_add] at h2
  omega
theorem at_le_pred (a t : Int) : at_le (a - 1) t = at_le a t + (if t = a - 1 then 1 else 0) := by unfold at_le; split <;> split <;> split <;> omega
theorem at_le_succ (a t : Int) : at_le (a + 1) t = at_le a t - (if t = a then 1 else 0) := by unfold at_le; split <;> split <;> split <;> omega
/-- One step down of who stands first. -/
theorem phi_down {k : Nat} (hk : 1 ≤ k ∧ k ≤ 3) {a r : Int} {z y : List Int} (hz : ∀ b, b ∈ z → a ≤ b) (hr : r ∈ y) (hr0 : 0 ≤ r) (hra : r < a) (ha : a ≤ 12) : phi k ((a - 1) :: z) y + 1 ≤ phi k (a :: z) y := by
  unfold phi
  have hne : ∀ t, t ∈ line → t ≠ a - 1 → gp k (cn ((a - 1) :: z) t) (cn y t) = gp k (cn (a :: z) t) (cn y t) := fun t _ ht => by
    rw [cn_cons, cn_cons, at_le_pred, if_neg ht, Int.add_zero]
  have h := sumZ_one line_nodup (line_mem.2 (by omega : 0 ≤ a - 1 ∧ a - 1 < 12)) hne
  have e0 : cn (a :: z) (a - 1) = 0 := cn_none fun b hb => by
    rcases List.mem_cons.1 hb with rfl | hb
    · omega
    · have := hz b hb; omega
  have e1 : cn ((a - 1) :: z) (a - 1) = 1 := by
    rw [cn_cons] at e0 ⊢
    rw [at_le_pred, if_pos rfl]; omega
  have hd := cn_jump (s := r - 1) (t := a - 1) hr (by omega) (by omega)
  have := cn_nonneg y (r - 1)
  rw [e0, e1] at h
  have hg := gp_low (k := k) (d := cn y (a - 1)) (by omega) (by omega)
  omega
/-- One step up of who stands last. -/
theorem phi_up {k : Nat} (hk : 1 ≤ k ∧ k ≤ 3) {a r : Int} {z y : List Int} (hlen : (a :: z).length = k) (hy : y.length = k) (hz : ∀ b, b ∈ z → b ≤ a) (hr : r ∈ y) (hr0 : r ≤ 12) (hra : a < r) (ha : 0 ≤ a) : phi k ((a + 1) :: z) y + 1 ≤ phi k (a :: z) y := by
  unfold phi
  have hne : ∀ t, t ∈ line → t ≠ a → gp k (cn ((a + 1) :: z) t) (cn y t) = gp k (cn (a :: z) t) (cn y t) := fun t _ ht => by
    rw [cn_cons, cn_cons, at_le_succ, if_neg ht, Int.sub_zero]
  have h := sumZ_one line_nodup (line_mem.2 (by omega : 0 ≤ a ∧ a < 12)) hne
  have e0 : cn (a :: z) a = k := by
    rw [← hlen]
    exact cn_all fun b hb => by
      rcases List.mem_cons.1 hb with rfl | hb
      · exact Int.le_refl _
      · exact hz b hb
  have e1 : cn ((a + 1) :: z) a = k - 1 := by
    rw [cn_cons] at e0 ⊢
    rw [at_le_succ, if_pos rfl]; omega
  have hd := cn_jump (s := a) (t := r) hr (by omega) (by omega)
  have := cn_le y r
  rw [e0, e1] at h
  have hg := gp_high (k := k) (d := cn y a) (by omega) (by omega)
  omega
/-- One step of two, towards each other. -/
theorem phi_both {k : Nat} (hk : 1 ≤ k ∧ k ≤ 3) {a b r : Int} {z y : List Int} (hlen : (a :: b :: z).length = k) (hz : ∀ c, c ∈ z → c ≤ a ∨ b ≤ c) (hr : r ∈ y) (ha : 0 ≤ a) (hb : b ≤ 12) (har : a < r) (hrb : r < b) : phi k ((a + 1) :: (b - 1) :: z) y + 2 ≤ phi k (a :: b :: z) y := by
  unfold phi
  have hne : ∀ t, t ∈ line → t ≠ a → t ≠ b - 1 → gp k (cn ((a + 1) :: (b - 1) :: z) t) (cn y t) = gp k (cn (a :: b :: z) t) (cn y t) := fun t _ h1 h2 => by
    rw [cn_cons, cn_cons, cn_cons, cn_cons, at_le_succ, at_le_pred, if_neg h1, if_neg h2, Int.sub_zero, Int.add_zero]
  have h := sumZ_two line_nodup (line_mem.2 (by omega : 0 ≤ a ∧ a < 12)) (line_mem.2 (by omega : 0 ≤ b - 1 ∧ b - 1 < 12)) (by omega) hne
  have es : cn (a :: b :: z) a = cn (a :: b :: z) (b - 1) := cn_same (by omega) fun c hc => by
    rcases List.mem_cons.1 hc with rfl | hc
    · omega
    · rcases List.mem_cons.1 hc with rfl | hc
      · omega
      · have := hz c hc; omega
  have e1 : cn ((a + 1) :: (b - 1) :: z) a = cn (a :: b :: z) a - 1 := by
    rw [cn_cons, cn_cons, cn_cons, cn_cons, at_le_succ, at_le_pred, if_pos rfl, if_neg (by omega)]; omega
  have e2 : cn ((a + 1) :: (b - 1) :: z) (b - 1) = cn (a :: b :: z) (b - 1) + 1 := by
    rw [cn_cons, cn_cons, cn_cons, cn_cons, at_le_succ, at_le_pred, if_neg (by omega), if_pos rfl]; omega
  have hc1 : 1 ≤ cn (a :: b :: z) a := by
    rw [cn_cons]
    have := cn_nonneg (b :: z) a
    unfold at_le
    rw [if_pos (Int.le_refl _)]; omega
  have hc2 : cn (a :: b :: z) a ≤ k - 1 := by
    rw [cn_cons, cn_cons]
    have := cn_le z a
    simp only [List.length_cons] at hlen
    unfold at_le
    rw [if_pos (Int.le_refl _), if_neg (by omega)]; omega
  have hd := cn_jump (s := a) (t := b - 1) hr (by omega) (by omega)
  rw [e1, e2, ← es] at h
  have hg := gp_pair (k := k) (c := cn (a :: b :: z) a) (by omega) ⟨hc1, hc2⟩ hd
  omega
end Go.Proofs.YtnjfmlojbaigjaaDoor

/- Lists alone, for chapter 14: to go from both sides is no more than so many times the least as there are servers; nobody goes less far than the least. -/
namespace Go.Proofs.YtnjfmlojbaigjaaDoor

def onLine (x : List Int) : Prop := ∀ p, p ∈ x → 0 ≤ p ∧ p ≤ 12
theorem phi_downs {k : Nat} (hk : 1 ≤ k ∧ k ≤ 3) {r : Int} {z y : List Int} (hr : r ∈ y) (hr0 : 0 ≤ r) : ∀ (d : Nat) (a : Int), (∀ b, b ∈ z → a ≤ b) → a ≤ 12 → a = r + d → phi k (r :: z) y + d ≤ phi k (a :: z) y
  | 0, a, _, _, h => by
    have : a = r := by omega
    subst this
    omega
  | d + 1, a, hz, ha, h => by
    have h1 := phi_down hk hz hr hr0 (by omega) ha
    have h2 := phi_downs hk hr hr0 d (a - 1) (fun b hb => by have := hz b hb; omega) (by omega) (by omega)
    omega
theorem phi_ups {k : Nat} (hk : 1 ≤ k ∧ k ≤ 3) {r : Int} {z y : List Int} (hlen : z.length + 1 = k) (hy : y.length = k) (hr : r ∈ y) (hr0 : r ≤ 12) : ∀ (d : Nat) (a : Int), (∀ b, b ∈ z → b ≤ a) → 0 ≤ a → r = a + d → phi k (r :: z) y + d ≤ phi k (a :: z) y
  | 0, a, _, _, h => by
    have : a = r := by omega
    subst this
    omega
  | d + 1, a, hz, ha, h => by
    have h1 := phi_up hk (by rw [List.length_cons]; exact hlen) hy hz hr hr0 (by omega) ha
    have h2 := phi_ups hk hlen hy hr hr0 d (a + 1) (fun b hb => by have := hz b hb; omega) (by omega) (by omega)
    omega
theorem phi_boths {k : Nat} (hk : 1 ≤ k ∧ k ≤ 3) {r : Int} {z y : List Int} (hlen : z.length + 2 = k) (hr : r ∈ y) : ∀ (d : Nat) (a b : Int), (∀ c, c ∈ z → c ≤ a ∨ b ≤ c) → 0 ≤ a → b ≤ 12 → a + d ≤ r → r ≤ b - d → phi k ((a + d) :: (b - d) :: z) y + 2 * d ≤ phi k (a :: b :: z) y
  | 0, a, b, _, _, _, _, _ => by
    rw [show a + ((0 : Nat) : Int) = a by omega, show b - ((0 : Nat) : Int) = b by omega]
    omega
  | d + 1, a, b, hz, ha, hb, h1, h2 => by
    have s := phi_both hk (by rw [List.length_cons, List.length_cons]; omega) hz hr ha hb (by omega) (by omega)
    have t := phi_boths hk hlen hr d (a + 1) (b - 1) (fun c hc => by have := hz c hc; omega) (by omega) (by omega) (by omega) (by omega)
    rw [show a + 1 + (d : Int) = a + ((d + 1 : Nat) : Int) by omega, show b - 1 - (d : Int) = b - ((d + 1 : Nat) : Int) by omega] at t
    omega

/-- One ask, from both sides. -/
inductive DStep (x : List Int) (r : Int) : List Int → Int → Prop
  | there {x'} : r ∈ x → x'.Perm x → DStep x r x' 0
  | low {a x'} : a ∈ x → (∀ z, z ∈ x → a ≤ z) → r < a → x'.Perm (r :: x.erase a) → DStep x r x' (a - r)
  | high {a x'} : a ∈ x → (∀ z, z ∈ x → z ≤ a) → a < r → x'.Perm (r :: x.erase a) → DStep x r x' (r - a)
  | both {a b d x'} : a ∈ x → b ∈ x → a < r → r < b → (∀ z, z ∈ x → z ≤ a ∨ b ≤ z) → d = min (r - a) (b - r) → x'.Perm ((a + d) :: (b - d) :: (x.erase a).erase b) → DStep x r x' (2 * d)
theorem perm_front {x : List Int} {a : Int} (h : a ∈ x) : x.Perm (a :: x.erase a) := List.perm_cons_erase h
theorem perm_two {x : List Int} {a b : Int} (ha : a ∈ x) (hb : b ∈ x) (hne : a ≠ b) : x.Perm (a :: b :: (x.erase a).erase b) :=
  (List.perm_cons_erase ha).trans ((List.perm_cons_erase ((List.mem_erase_of_ne (Ne.symm hne)).2 hb)).cons a)
theorem DStep.facts {x x' : List Int} {r c : Int} (h : DStep x r x' c) (hx : onLine x) (hr : 0 ≤ r ∧ r ≤ 12) : x'.length = x.length ∧ onLine x' ∧ 0 ≤ c ∧ r ∈ x' := by
  cases h with
  | there h hp => exact ⟨hp.length_eq, fun p hq => hx p (hp.mem_iff.1 hq), Int.le_refl _, hp.mem_iff.2 h⟩
  | @low a _ ha hall hra hp =>
    refine ⟨by rw [hp.length_eq, ← (perm_front ha).length_eq.symm]; simp, fun p hq => ?_, by omega, hp.mem_iff.2 (by simp)⟩
    rcases List.mem_cons.1 (hp.mem_iff.1 hq) with rfl | hq
    · exact hr
    · exact hx p (List.mem_of_mem_erase hq)
  | @high a _ ha hall hra hp =>
    refine ⟨by rw [hp.length_eq, ← (perm_front ha).length_eq.symm]; simp, fun p hq => ?_, by omega, hp.mem_iff.2 (by simp)⟩
    rcases List.mem_cons.1 (hp.mem_iff.1 hq) with rfl | hq
    · exact hr
    · exact hx p (List.mem_of_mem_erase hq)
  | @both a b d _ ha hb har hrb hall hd hp =>
    have h0 := hx a ha
    have h1 := hx b hb
    refine ⟨by rw [hp.length_eq, ← (perm_two ha hb (by omega)).length_eq.symm]; simp, fun p hq => ?_, by omega, hp.mem_iff.2 ?_⟩
    · rcases List.mem_cons.1 (hp.mem_iff.1 hq) with rfl | hq
      · omega
      · rcases List.mem_cons.1 hq with rfl | hq
        · omega
        · exact hx p (List.mem_of_mem_erase (List.mem_of_mem_erase hq))
    · rcases (by omega : r = a + d ∨ r = b - d) with e | e <;> rw [e] <;> simp
theorem phi_double {k : Nat} (hk : 1 ≤ k ∧ k ≤ 3) {x x' y : List Int} {r c : Int} (hx : onLine x) (hlx : x.length = k) (hly : y.length = k) (hr : r ∈ y) (hr2 : 0 ≤ r ∧ r ≤ 12) (h : DStep x r x' c) : phi k x' y + c ≤ phi k x y := by
  cases h with
  | there _ hp => rw [phi_perm hp]; omega
  | @low a _ ha hall hra hp =>
    have hp1 := perm_front ha
    rw [phi_perm hp, phi_perm hp1]
    have h0 := hx a ha
    have := phi_downs hk (z := x.erase a) hr hr2.1 (a - r).toNat a (fun b hb => hall b (List.mem_of_mem_erase hb)) h0.2 (by omega)
    omega
  | @high a _ ha hall hra hp =>
    have hp1 := perm_front ha
    rw [phi_perm hp, phi_perm hp1]
    have h0 := hx a ha
    have hl := hp1.length_eq
    rw [List.length_cons] at hl
    have := phi_ups hk (z := x.erase a) (by omega) hly hr hr2.2 (r - a).toNat a (fun b hb => hall b (List.mem_of_mem_erase hb)) h0.1 (by omega)
    omega
  | @both a b d _ ha hb har hrb hall hd hp =>
    have hp1 := perm_two ha hb (by omega)
    rw [phi_perm hp, phi_perm hp1]
    have h0 := hx a ha
    have h1 := hx b hb
    have hl := hp1.length_eq
    rw [List.length_cons, List.length_cons] at hl
    obtain ⟨n, rfl⟩ : ∃ n : Nat, d = n := ⟨d.toNat, by omega⟩
    have := phi_boths hk (z := (x.erase a).erase b) (by omega) hr n a b (fun c hc => hall c (List.mem_of_mem_erase (List.mem_of_mem_erase hc))) h0.1 h1.2 (by omega) (by omega)
    omega

/-- Somebody is sent, ask by ask. -/
inductive Goes (s asks : List Int) : Nat → List Int → Int → Prop
  | start : Goes s asks 0 s 0
  | go {n y c q y'} : Goes s asks n y c → n < asks.length → q ∈ y → y'.Perm ((asks[n]?.getD 0) :: y.erase q) → Goes s asks (n+1) y' (c + zabs (q - (asks[n]?.getD 0)))
theorem ask_in {asks : List Int} (h : onLine asks) {n : Nat} (hn : n < asks.length) : 0 ≤ asks[n]?.getD 0 ∧ asks[n]?.getD 0 ≤ 12 := h _ (by rw [List.getElem?_eq_getElem hn]; exact List.getElem_mem hn)
theorem Goes.facts {s asks : List Int} (hs : onLine s) (ha : onLine asks) {n : Nat} {y : List Int} {c : Int} (h : Goes s asks n y c) : y.length = s.length ∧ onLine y ∧ 0 ≤ c := by
  induction h with
  | start => exact ⟨rfl, hs, Int.le_refl _⟩
  | @go n y c q y' _ hn hq hp ih =>
    refine ⟨by rw [hp.length_eq, ← ih.1, (perm_front hq).length_eq]; simp, fun p hm => ?_, by have := ih.2.2; unfold zabs; omega⟩
    rcases List.mem_cons.1 (hp.mem_iff.1 hm) with rfl | hm
    · exact ask_in ha hn
    · exact ih.2.1 p (List.mem_of_mem_erase hm)
/-- From both sides, ask by ask. -/
inductive Both (s asks : List Int) : Nat → List Int → Int → Prop
  | start {x} : x.Perm s → Both s asks 0 x 0
  | go {n x c x' d} : Both s asks n x c → n < asks.length → DStep x (asks[n]?.getD 0) x' d → Both s asks (n+1) x' (c + d)
theorem Both.facts {s asks : List Int} (hs : onLine s) (ha : onLine asks) {n : Nat} {x : List Int} {c : Int} (h : Both s asks n x c) : x.length = s.length ∧ onLine x ∧ 0 ≤ c := by
  induction h with
  | start hp => exact ⟨hp.length_eq, fun p hm => hs p (hp.mem_iff.1 hm), Int.le_refl _⟩
  | go _ hn hd ih =>
    have f := hd.facts ih.2.1 (ask_in ha hn)
    exact ⟨f.1.trans ih.1, f.2.1, by have := ih.2.2; have := f.2.2.1; omega⟩
/-- Chrobak, Karloff, Payne, Vishwanathan. -/
theorem serve_double {s asks : List Int} (hk : 1 ≤ s.length ∧ s.length ≤ 3) (hs : onLine s) (ha : onLine asks) : ∀ n, ∀ {x y : List Int} {c e : Int}, Both s asks n x c → Goes s asks n y e → c + phi s.length x y ≤ s.length * e + phi s.length s s
  | 0, x, y, c, e, hb, hg => by
    cases hg
    cases hb with
    | start hp => rw [phi_perm hp]; simp
  | n + 1, x', y', c', e', hb, hg => by
    cases hb with
    | @go _ x c _ d hb hn hd =>
      cases hg with
      | @go _ y e q _ hg _ hq hp =>
        have ih := serve_double hk hs ha n hb hg
        have fb := hb.facts hs ha
        have fg := hg.facts hs ha
        have fy := (Goes.go hg hn hq hp).facts hs ha
        have hr := ask_in ha hn
        have h1 := phi_goes (k := s.length) (by omega) x hq (fg.2.1 q hq) hr
        have h2 : phi s.length x y' = phi s.length x ((asks[n]?.getD 0) :: y.erase q) := by
          unfold phi
          exact sumZ_congr fun t _ => by rw [cn_perm hp]
        have h3 := phi_double (k := s.length) hk fb.2.1 fb.1 fy.1 (hp.mem_iff.2 (by simp)) hr hd
        rw [Int.mul_add]
        omega

/-- How far two sets of servers are from each other. -/
def wd (x y : List Int) : Int := sumZ (fun t => zabs (cn x t - cn y t)) line
theorem wd_tri (x y z : List Int) : wd x z ≤ wd x y + wd y z := by
  unfold wd
  rw [← sumZ_add]
  exact sumZ_le fun t _ => by unfold zabs; omega
theorem wd_nonneg (x y : List Int) : 0 ≤ wd x y := by
  unfold wd
  have : sumZ (fun _ => 0) line ≤ sumZ (fun t => zabs (cn x t - cn y t)) line := sumZ_le fun t _ => by unfold zabs; omega
  have e : sumZ (fun _ => 0) line = 0 := by decide
  omega
theorem wd_perm {x x' : List Int} (h : x.Perm x') : wd x x' = 0 := by
  unfold wd
  rw [sumZ_congr (g := fun _ => 0) fun t _ => by rw [cn_perm h, Int.sub_self]; rfl]
  decide
theorem wd_move {y z : List Int} {q r : Int} (hp1 : y.Perm (q :: z)) {y' : List Int} (hp2 : y'.Perm (r :: z)) (hq : 0 ≤ q ∧ q ≤ 12) (hr : 0 ≤ r ∧ r ≤ 12) : wd y y' = zabs (q - r) := by
  rw [← gap hq hr]
  unfold wd
  refine sumZ_congr fun t _ => ?_
  rw [cn_perm hp1, cn_perm hp2, cn_cons, cn_cons]
  congr 1; omega
/-- A step from both sides goes no less far than both sets are apart. -/
theorem wd_step {x x' : List Int} {r c : Int} (hx : onLine x) (hr : 0 ≤ r ∧ r ≤ 12) (h : DStep x r x' c) : wd x x' ≤ c := by
  cases h with
  | there _ hp => rw [wd_perm hp.symm]; exact Int.le_refl _
  | @low a _ ha hall hra hp =>
    rw [wd_move (perm_front ha) hp (hx a ha) hr]
    unfold zabs; omega
  | @high a _ ha hall hra hp =>
    rw [wd_move (perm_front ha) hp (hx a ha) hr]
    unfold zabs; omega
  | @both a b d _ ha hb har hrb hall hd hp =>
    have h0 := hx a ha
    have h1 := hx b hb
    have t := wd_tri x ((a + d) :: b :: (x.erase a).erase b) x'
    have e1 := wd_move (perm_two ha hb (by omega)) (List.Perm.refl ((a + d) :: b :: (x.erase a).erase b)) h0 (by omega)
    have e2 := wd_move (y := (a + d) :: b :: (x.erase a).erase b) (z := (a + d) :: (x.erase a).erase b) (List.Perm.swap b (a + d) _) (y' := x') (r := b - d) (hp.trans (List.Perm.swap (b - d) (a + d) _)) h1 (by omega)
    rw [e1, e2] at t
    unfold zabs at t
    omega
/-- Who of the others is sent: the one that stands where he stands in their order. -/
theorem send_one {x y : List Int} {r : Int} (hlen : y.length = x.length) (hy : onLine y) (hr : r ∈ x) : ∃ q, q ∈ y ∧ cn y (q - 1) ≤ cn x (r - 1) ∧ cn x (r - 1) + 1 ≤ cn y q := by
  have hA : cn x (r - 1) + 1 ≤ y.length := by
    have h1 := cn_jump (s := r - 1) (t := r) hr (by omega) (by omega)
    have h2 := cn_le x r
    omega
  have h12 : cn y 12 = y.length := cn_all fun z hz => (hy z hz).2
  have h0 : cn y (-1) = 0 := cn_none fun z hz => by have := hy z hz; omega
  have hA0 := cn_nonneg x (r - 1)
  generalize cn x (r - 1) = A at *
  -- the least place up to which there are enough
  have key : ∀ n : Nat, A + 1 ≤ cn y ((n : Int) - 1) → ∃ q : Int, cn y (q - 1) ≤ A ∧ A + 1 ≤ cn y q := by
    intro n
    induction n with
    | zero => intro h; rw [show ((0 : Nat) : Int) - 1 = -1 by omega, h0] at h; omega
    | succ n ih =>
      intro h
      by_cases hc : A + 1 ≤ cn y ((n : Int) - 1)
      · exact ih hc
      · exact ⟨((n + 1 : Nat) : Int) - 1, by rw [show ((n + 1 : Nat) : Int) - 1 - 1 = (n : Int) - 1 by omega]; omega, h⟩
  obtain ⟨q, h1, h2⟩ := key 13 (by rw [show ((13 : Nat) : Int) - 1 = 12 by omega, h12]; exact hA)
  refine ⟨q, ?_, h1, h2⟩
  apply Classical.byContradiction
  intro hq
  have := cn_same (s := q - 1) (t := q) (x := y) (by omega) fun z hz => by
    have : z ≠ q := fun e => hq (e ▸ hz)
    omega
  omega
theorem send_less {x y : List Int} {q r : Int} (hr : r ∈ x) (hq : q ∈ y) (hq2 : 0 ≤ q ∧ q ≤ 12) (hr2 : 0 ≤ r ∧ r ≤ 12) (h1 : cn y (q - 1) ≤ cn x (r - 1)) (h2 : cn x (r - 1) + 1 ≤ cn y q) : wd (r :: y.erase q) x + zabs (q - r) ≤ wd y x := by
  rw [← gap hq2 hr2]
  unfold wd
  rw [← sumZ_add]
  refine sumZ_le fun t _ => ?_
  rw [cn_cons]
  have hc := cn_erase hq t
  by_cases ha : q ≤ t
  · by_cases hb : r ≤ t
    · have e1 : at_le q t = 1 := by unfold at_le; rw [if_pos ha]
      have e2 : at_le r t = 1 := by unfold at_le; rw [if_pos hb]
      rw [e1] at hc
      rw [e1, e2]; unfold zabs; omega
    · -- q stands ahead of t, r behind it
      have e1 : at_le q t = 1 := by unfold at_le; rw [if_pos ha]
      have e2 : at_le r t = 0 := by unfold at_le; rw [if_neg hb]
      have m1 := cn_mono ha y
      have m2 := cn_mono (show t ≤ r - 1 by omega) x
      rw [e1] at hc
      rw [e1, e2]; unfold zabs; omega
  · by_cases hb : r ≤ t
    · have e1 : at_le q t = 0 := by unfold at_le; rw [if_neg ha]
      have e2 : at_le r t = 1 := by unfold at_le; rw [if_pos hb]
      have m1 := cn_mono (show t ≤ q - 1 by omega) y
      have m2 := cn_jump (s := r - 1) (t := t) hr (by omega) hb
      rw [e1] at hc
      rw [e1, e2]; unfold zabs; omega
    · have e1 : at_le q t = 0 := by unfold at_le; rw [if_neg ha]
      have e2 : at_le r t = 0 := by unfold at_le; rw [if_neg hb]
      rw [e1] at hc
      rw [e1, e2]; unfold zabs; omega
/-- Who goes from both sides goes no less far than somebody who is sent. -/
theorem goes_both {s asks : List Int} (hs : onLine s) (ha : onLine asks) {n : Nat} {x : List Int} {c : Int} (h : Both s asks n x c) : ∃ y e, Goes s asks n y e ∧ e + wd y x ≤ c := by
  induction h with
  | start hp => exact ⟨s, 0, .start, by rw [wd_perm hp.symm]; omega⟩
  | @go n x c x' d hb hn hd ih =>
    obtain ⟨y, e, hg, hle⟩ := ih
    have fb := hb.facts hs ha
    have fg := hg.facts hs ha
    have hr := ask_in ha hn
    have fd := hd.facts fb.2.1 hr
    have h1 := wd_tri y x x'
    have h2 := wd_step fb.2.1 hr hd
    obtain ⟨q, hq, g1, g2⟩ := send_one (x := x') (y := y) (by rw [fd.1, fb.1, fg.1]) fg.2.1 fd.2.2.2
    have h3 := send_less fd.2.2.2 hq (fg.2.1 q hq) hr g1 g2
    exact ⟨_, _, .go hg hn hq (List.Perm.refl _), by omega⟩

/-- x is the least that all could go. -/
structure LeastGo (s asks : List Int) (x : Int) : Prop where
  some : ∃ y, Goes s asks asks.length y x
  all : ∀ y e, Goes s asks asks.length y e → x ≤ e
theorem leastGo_unique {s asks : List Int} {x y : Int} (hx : LeastGo s asks x) (hy : LeastGo s asks y) : x = y := by
  obtain ⟨A, a⟩ := hx.some
  obtain ⟨B, b⟩ := hy.some
  have := hx.all B y b
  have := hy.all A x a
  omega
theorem leastGo_both {s asks : List Int} (hs : onLine s) (ha : onLine asks) {x : Int} (hx : LeastGo s asks x) {z : List Int} {c : Int} (hb : Both s asks asks.length z c) : x ≤ c := by
  obtain ⟨y, e, hg, hle⟩ := goes_both hs ha hb
  have := hx.all y e hg
  have := wd_nonneg y z
  omega
theorem leastGo_double {s asks : List Int} (hk : 1 ≤ s.length ∧ s.length ≤ 3) (hs : onLine s) (ha : onLine asks) {x : Int} (hx : LeastGo s asks x) {z : List Int} {c : Int} (hb : Both s asks asks.length z c) : c ≤ s.length * x + phi s.length s s := by
  obtain ⟨y, hg⟩ := hx.some
  have := serve_double hk hs ha asks.length hb hg
  have := phi_nonneg (k := s.length) hk (x := z) (y := y) (hb.facts hs ha).1
  omega
/-- How far they were apart at first, two by two. -/
theorem phi_self (k : Int) (x : List Int) : phi k x x = sumZ (fun t => cn x t * (k - cn x t)) line := by
  unfold phi
  refine sumZ_congr fun t _ => ?_
  unfold gp
  rw [Int.sub_self, show zabs 0 = 0 from rfl, Int.mul_zero, Int.zero_add]
theorem apart_one {a : Int} : phi 1 [a] [a] = 0 := by
  rw [phi_self, sumZ_congr (g := fun _ => 0) fun t _ => by
    rw [cn_cons, cn_nil]; unfold at_le; split <;> rfl]
  decide
theorem apart_two {a b : Int} (ha : 0 ≤ a ∧ a ≤ 12) (hb : 0 ≤ b ∧ b ≤ 12) : phi 2 [a, b] [a, b] = zabs (b - a) := by
  rw [phi_self, ← gap hb ha]
  refine sumZ_congr fun t _ => ?_
  rw [cn_cons, cn_cons, cn_nil]
  unfold at_le
  split <;> split <;> rfl
theorem apart_three {a b c : Int} (ha : 0 ≤ a ∧ a ≤ 12) (hb : 0 ≤ b ∧ b ≤ 12) (hc : 0 ≤ c ∧ c ≤ 12) : phi 3 [a, b, c] [a, b, c] = zabs (b - a) + (zabs (c - a) + zabs (c - b)) := by
  rw [phi_self, ← gap hb ha, ← gap hc ha, ← gap hc hb, ← sumZ_add, ← sumZ_add]
  refine sumZ_congr fun t _ => ?_
  rw [cn_cons, cn_cons, cn_cons, cn_nil]
  unfold at_le
  split <;> split <;> split <;> rfl
end Go.Proofs.YtnjfmlojbaigjaaDoor

/- Lists alone, for chapter 14: from both sides there is one way; in a mirror it is the same; the least from state to state; who is alone. -/
namespace Go.Proofs.YtnjfmlojbaigjaaDoor

/-- From both sides there is one way. -/
theorem dstep_perm {x y x' : List Int} {r c : Int} (hp : x.Perm y) (h : DStep x r x' c) : DStep y r x' c := by
  cases h with
  | there h hq => exact .there (hp.mem_iff.1 h) (hq.trans hp)
  | low ha hall hra hq => exact .low (hp.mem_iff.1 ha) (fun z hz => hall z (hp.mem_iff.2 hz)) hra (hq.trans ((hp.erase _).cons _))
  | high ha hall hra hq => exact .high (hp.mem_iff.1 ha) (fun z hz => hall z (hp.mem_iff.2 hz)) hra (hq.trans ((hp.erase _).cons _))
  | both ha hb har hrb hall hd hq => exact .both (hp.mem_iff.1 ha) (hp.mem_iff.1 hb) har hrb (fun z hz => hall z (hp.mem_iff.2 hz)) hd (hq.trans ((((hp.erase _).erase _).cons _).cons _))
theorem dstep_unique {x x1 x2 : List Int} {r c1 c2 : Int} (h1 : DStep x r x1 c1) (h2 : DStep x r x2 c2) : x1.Perm x2 ∧ c1 = c2 := by
  cases h1 with
  | there h hq =>
    cases h2 with
    | there _ hq2 => exact ⟨hq.trans hq2.symm, rfl⟩
    | low ha hall hra _ => have := hall r h; omega
    | high ha hall hra _ => have := hall r h; omega
    | both ha hb har hrb hall _ _ => have := hall r h; omega
  | @low a _ ha hall hra hq =>
    cases h2 with
    | there h _ => have := hall r h; omega
    | @low b _ hb hall2 hrb hq2 =>
      have : a = b := by have := hall b hb; have := hall2 a ha; omega
      subst this
      exact ⟨hq.trans hq2.symm, rfl⟩
    | high hb hall2 hrb _ => have := hall2 a ha; omega
    | both hb _ hbr _ _ _ _ => have := hall _ hb; omega
  | @high a _ ha hall hra hq =>
    cases h2 with
    | there h _ => have := hall r h; omega
    | low hb hall2 hrb _ => have := hall2 a ha; omega
    | @high b _ hb hall2 hrb hq2 =>
      have : a = b := by have := hall b hb; have := hall2 a ha; omega
      subst this
      exact ⟨hq.trans hq2.symm, rfl⟩
    | both _ hb _ hbr _ _ _ => have := hall _ hb; omega
  | @both a b d _ ha hb har hrb hall hd hq =>
    cases h2 with
    | there h _ => have := hall r h; omega
    | low hc hall2 hrc _ => have := hall2 a ha; omega
    | high hc hall2 hrc _ => have := hall2 b hb; omega
    | @both a2 b2 d2 _ ha2 hb2 har2 hrb2 hall2 hd2 hq2 =>
      have e1 : a = a2 := by have := hall a2 ha2; have := hall2 a ha; omega
      have e2 : b = b2 := by have := hall b2 hb2; have := hall2 b hb; omega
      subst e1 e2
      have e3 : d = d2 := by omega
      subst e3
      exact ⟨hq.trans hq2.symm, rfl⟩
theorem both_unique {s asks : List Int} : ∀ n, ∀ {x1 x2 : List Int} {c1 c2 : Int}, Both s asks n x1 c1 → Both s asks n x2 c2 → x1.Perm x2 ∧ c1 = c2
  | 0, _, _, _, _, h1, h2 => by
    cases h1 with
    | start p1 => cases h2 with
      | start p2 => exact ⟨p1.trans p2.symm, rfl⟩
  | n + 1, _, _, _, _, h1, h2 => by
    cases h1 with
    | go a1 _ d1 => cases h2 with
      | go a2 _ d2 =>
        obtain ⟨p, e⟩ := both_unique n a1 a2
        obtain ⟨p2, e2⟩ := dstep_unique (dstep_perm p d1) d2
        exact ⟨p2, by omega⟩

/-- The other way round. -/
def mir (x : List Int) : List Int := x.map (12 - ·)
theorem mir_mem {x : List Int} {p : Int} : 12 - p ∈ mir x ↔ p ∈ x := by
  unfold mir
  rw [List.mem_map]
  constructor
  · rintro ⟨q, hq, e⟩
    rw [show p = q by omega]; exact hq
  · intro h; exact ⟨p, h, rfl⟩
theorem mir_of {x : List Int} {z : Int} (h : z ∈ mir x) : 12 - z ∈ x := by
  obtain ⟨q, hq, rfl⟩ := List.mem_map.1 h
  rw [show 12 - (12 - q) = q by omega]; exact hq
theorem mir_mir (x : List Int) : mir (mir x) = x := by
  unfold mir
  rw [List.map_map]
  conv => rhs; rw [← List.map_id x]
  refine List.map_congr_left fun p _ => ?_
  simp only [Function.comp, id]; omega
theorem mir_onLine {x : List Int} (h : onLine x) : onLine (mir x) := fun p hp => by have := h _ (mir_of hp); omega
theorem mir_erase {x : List Int} {a : Int} (h : a ∈ x) : (mir x).erase (12 - a) = mir (x.erase a) := by
  induction x with
  | nil => cases h
  | cons y x ih =>
    have e : mir (y :: x) = (12 - y) :: mir x := rfl
    by_cases hy : y = a
    · subst hy; rw [e, List.erase_cons_head, List.erase_cons_head]
    · rw [e, List.erase_cons_tail (by simp; omega), List.erase_cons_tail (by simpa using hy), ih (by simpa [Ne.symm hy] using h)]; rfl
theorem mir_perm {x y : List Int} (h : x.Perm y) : (mir x).Perm (mir y) := h.map _
theorem dstep_mir {x x' : List Int} {r c : Int} (h : DStep x r x' c) : DStep (mir x) (12 - r) (mir x') c := by
  cases h with
  | there h hq => exact .there (mir_mem.2 h) (mir_perm hq)
  | @low a _ ha hall hra hq =>
    have := DStep.high (x := mir x) (r := 12 - r) (a := 12 - a) (x' := mir x') (mir_mem.2 ha) (fun z hz => by have := hall _ (mir_of hz); omega) (by omega) (by rw [mir_erase ha]; exact mir_perm hq)
    rwa [show 12 - r - (12 - a) = a - r by omega] at this
  | @high a _ ha hall hra hq =>
    have := DStep.low (x := mir x) (r := 12 - r) (a := 12 - a) (x' := mir x') (mir_mem.2 ha) (fun z hz => by have := hall _ (mir_of hz); omega) (by omega) (by rw [mir_erase ha]; exact mir_perm hq)
    rwa [show 12 - a - (12 - r) = r - a by omega] at this
  | @both a b d _ ha hb har hrb hall hd hq =>
    refine DStep.both (x := mir x) (r := 12 - r) (a := 12 - b) (b := 12 - a) (d := d) (x' := mir x') (mir_mem.2 hb) (mir_mem.2 ha) (by omega) (by omega) (fun z hz => by have := hall _ (mir_of hz); omega) (by omega) ?_
    have hba : b ∈ x.erase a := (List.mem_erase_of_ne (by omega)).2 hb
    rw [List.erase_comm, mir_erase ha, mir_erase hba]
    have := mir_perm hq
    have e : mir ((a + d) :: (b - d) :: (x.erase a).erase b) = (12 - (a + d)) :: (12 - (b - d)) :: mir ((x.erase a).erase b) := rfl
    rw [e] at this
    rw [show 12 - b + d = 12 - (b - d) by omega, show 12 - a - d = 12 - (a + d) by omega]
    exact this.trans (List.Perm.swap _ _ _)
theorem mir_get {asks : List Int} {n : Nat} (hn : n < asks.length) : (mir asks)[n]?.getD 0 = 12 - asks[n]?.getD 0 := by
  unfold mir
  rw [List.getElem?_map, List.getElem?_eq_getElem hn]; rfl
theorem mir_length (x : List Int) : (mir x).length = x.length := by unfold mir; rw [List.length_map]
theorem both_mir {s asks : List Int} {n : Nat} {x : List Int} {c : Int} (h : Both s asks n x c) : Both (mir s) (mir asks) n (mir x) c := by
  induction h with
  | start hp => exact .start (mir_perm hp)
  | go _ hn hd ih => exact .go ih (by rw [mir_length]; exact hn) (by rw [mir_get hn]; exact dstep_mir hd)
theorem goes_mir {s asks : List Int} {n : Nat} {x : List Int} {c : Int} (h : Goes s asks n x c) : Goes (mir s) (mir asks) n (mir x) c := by
  induction h with
  | start => exact .start
  | @go n y c q y' _ hn hq hp ih =>
    have := Goes.go ih (by rw [mir_length]; exact hn) (mir_mem.2 hq) (y' := mir y') (by rw [mir_get hn, mir_erase hq]; exact mir_perm hp)
    rw [mir_get hn, show 12 - q - (12 - asks[n]?.getD 0) = -(q - asks[n]?.getD 0) by omega] at this
    rwa [show zabs (-(q - asks[n]?.getD 0)) = zabs (q - asks[n]?.getD 0) by unfold zabs; omega] at this
theorem leastGo_mir {s asks : List Int} {x : Int} (hx : LeastGo s asks x) : LeastGo (mir s) (mir asks) x := by
  obtain ⟨y, hy⟩ := hx.some
  refine ⟨⟨mir y, by rw [mir_length]; exact goes_mir hy⟩, fun z e hz => ?_⟩
  rw [mir_length] at hz
  have := goes_mir hz
  rw [mir_mir, mir_mir] at this
  exact hx.all _ e this

/-- Servers that are known by their numbers: somebody is sent. -/
inductive Sent (s asks : List Int) : Nat → List Int → Int → Prop
  | start : Sent s asks 0 s 0
  | go {n u c w} : Sent s asks n u c → n < asks.length → w < u.length → Sent s asks (n+1) (u.set w (asks[n]?.getD 0)) (c + zabs (u[w]?.getD 0 - (asks[n]?.getD 0)))
theorem set_perm (r : Int) : ∀ {u : List Int} {w : Nat}, w < u.length → (u.set w r).Perm (r :: u.erase (u[w]?.getD 0))
  | [], _, h => by simp at h
  | x :: u, 0, _ => by simp
  | x :: u, w + 1, h => by
    have hw : w < u.length := by simpa using h
    have ih := set_perm r hw
    have e : (x :: u)[w+1]?.getD 0 = u[w]?.getD 0 := rfl
    have hin : u[w]?.getD 0 ∈ u := by rw [List.getElem?_eq_getElem hw]; exact List.getElem_mem hw
    rw [List.set_cons_succ, e]
    generalize u[w]?.getD 0 = q at *
    by_cases hx : x = q
    · subst hx
      rw [List.erase_cons_head]
      exact (ih.cons x).trans ((List.Perm.swap r x _).trans ((List.perm_cons_erase hin).symm.cons r))
    · rw [List.erase_cons_tail (by simpa using hx)]
      exact (ih.cons x).trans (List.Perm.swap r x _)
theorem Sent.length {s asks : List Int} {n : Nat} {u : List Int} {c : Int} (h : Sent s asks n u c) : u.length = s.length := by
  induction h with
  | start => rfl
  | go _ _ _ ih => rw [List.length_set]; exact ih
theorem Sent.goes {s asks : List Int} {n : Nat} {u : List Int} {c : Int} (h : Sent s asks n u c) : Goes s asks n u c := by
  induction h with
  | start => exact .start
  | @go n u c w _ hn hw ih =>
    exact .go ih hn (by rw [List.getElem?_eq_getElem hw]; exact List.getElem_mem hw) (set_perm _ hw)
theorem goes_sent {s asks : List Int} {n : Nat} {y : List Int} {c : Int} (h : Goes s asks n y c) : ∃ u, Sent s asks n u c ∧ u.Perm y := by
  induction h with
  | start => exact ⟨s, .start, List.Perm.refl _⟩
  | @go n y c q y' _ hn hq hp ih =>
    obtain ⟨u, hu, hpu⟩ := ih
    have hqu := hpu.mem_iff.2 hq
    obtain ⟨w, hw, e⟩ := List.mem_iff_getElem.1 hqu
    have eq : u[w]?.getD 0 = q := by rw [List.getElem?_eq_getElem hw]; exact e
    have := Sent.go hu hn hw
    rw [eq] at this
    refine ⟨_, this, ?_⟩
    have hsp := set_perm (asks[n]?.getD 0) hw
    rw [eq] at hsp
    exact hsp.trans (((hpu.erase q).cons _).trans hp.symm)
/-- T tells of each state the least that it can be come to at. -/
def STab (s asks : List Int) (n : Nat) (T : List Int → Option Int) : Prop :=
  (∀ u x, T u = some x → Sent s asks n u x) ∧ ∀ u x, Sent s asks n u x → ∃ y, T u = some y ∧ y ≤ x
theorem stab_start {s asks : List Int} {T : List Int → Option Int} (h0 : T s = some 0) (h : ∀ u, u ≠ s → T u = none) : STab s asks 0 T := by
  refine ⟨fun u x e => ?_, fun u x e => ?_⟩
  · by_cases hu : u = s
    · subst hu
      rw [h0] at e
      rw [← Option.some.inj e]; exact .start
    · rw [h u hu] at e; cases e
  · cases e
    exact ⟨0, h0, Int.le_refl _⟩
theorem stab_succ {s asks : List Int} {n : Nat} (hn : n < asks.length) {T T' : List Int → Option Int} (h : STab s asks n T)
    (h1 : ∀ v z, T' v = some z → ∃ u y w, T u = some y ∧ w < u.length ∧ v = u.set w (asks[n]?.getD 0) ∧ z = y + zabs (u[w]?.getD 0 - asks[n]?.getD 0))
    (h2 : ∀ u y w, T u = some y → w < u.length → ∃ z, T' (u.set w (asks[n]?.getD 0)) = some z ∧ z ≤ y + zabs (u[w]?.getD 0 - asks[n]?.getD 0)) : STab s asks (n+1) T' := by
  refine ⟨fun v z e => ?_, fun v z e => ?_⟩
  · obtain ⟨u, y, w, hu, hw, rfl, rfl⟩ := h1 v z e
    exact .go (h.1 u y hu) hn hw
  · cases e with
    | @go _ u y w hu _ hw =>
      obtain ⟨y', hy, hle⟩ := h.2 u y hu
      obtain ⟨z, hz, hz2⟩ := h2 u y' w hy hw
      exact ⟨z, hz, by omega⟩
theorem stab_least {s asks : List Int} {T : List Int → Option Int} (h : STab s asks asks.length T) {x : Int} (h1 : ∃ u, T u = some x) (h2 : ∀ u y, T u = some y → x ≤ y) : LeastGo s asks x := by
  obtain ⟨u, hu⟩ := h1
  refine ⟨⟨u, (h.1 u x hu).goes⟩, fun y e hy => ?_⟩
  obtain ⟨v, hv, _⟩ := goes_sent hy
  obtain ⟨z, hz, hle⟩ := h.2 v e hv
  have := h2 v z hz
  omega

/-- Who is alone goes. -/
def aloneAt (at0 : Int) (asks : List Int) : Nat → Int
  | 0 => at0
  | n + 1 => asks[n]?.getD 0
def aloneSum (at0 : Int) (asks : List Int) : Nat → Int
  | 0 => 0
  | n + 1 => aloneSum at0 asks n + zabs (aloneAt at0 asks n - asks[n]?.getD 0)
theorem goes_alone {a : Int} {asks : List Int} {n : Nat} {y : List Int} {c : Int} (h : Goes [a] asks n y c) : y = [aloneAt a asks n] ∧ c = aloneSum a asks n := by
  induction h with
  | start => exact ⟨rfl, rfl⟩
  | @go n y c q y' _ hn hq hp ih =>
    obtain ⟨rfl, rfl⟩ := ih
    have : q = aloneAt a asks n := by simpa using hq
    subst this
    rw [List.erase_cons_head] at hp
    exact ⟨List.perm_singleton.1 hp, rfl⟩
theorem both_alone {a : Int} {asks : List Int} {n : Nat} {x : List Int} {c : Int} (h : Both [a] asks n x c) : x = [aloneAt a asks n] ∧ c = aloneSum a asks n := by
  induction h with
  | start hp => exact ⟨List.perm_singleton.1 hp, rfl⟩
  | @go n x c x' d _ hn hd ih =>
    obtain ⟨rfl, rfl⟩ := ih
    rw [aloneSum]
    cases hd with
    | there h hp =>
      have e : asks[n]?.getD 0 = aloneAt a asks n := by simpa using h
      refine ⟨by rw [List.perm_singleton.1 hp, ← e]; rfl, ?_⟩
      rw [e, Int.sub_self]; rfl
    | low h _ hr hp =>
      have e := List.mem_singleton.1 h
      subst e
      rw [List.erase_cons_head] at hp
      exact ⟨List.perm_singleton.1 hp, by unfold zabs; omega⟩
    | high h _ hr hp =>
      have e := List.mem_singleton.1 h
      subst e
      rw [List.erase_cons_head] at hp
      exact ⟨List.perm_singleton.1 hp, by unfold zabs; omega⟩
    | both h1 h2 h3 h4 _ _ _ =>
      have e1 := List.mem_singleton.1 h1
      have e2 := List.mem_singleton.1 h2
      omega
end Go.Proofs.YtnjfmlojbaigjaaDoor

/- Lists alone, for chapter 14: how the program lets servers go, step by step, on a rising list; it is to go from both sides, or the nearest one goes. -/
namespace Go.Proofs.YtnjfmlojbaigjaaDoor

def zle (x y : Int) : Bool := decide (x ≤ y)
/-- A rising list. -/
def Ris (l : List Int) : Prop := l.Pairwise (· ≤ ·)
/-- How many stand ahead of a place. -/
def posS (l : List Int) (r : Int) : Nat := l.countP fun t => decide (t < r)
theorem posS_le (l : List Int) (r : Int) : posS l r ≤ l.length := List.countP_le_length
theorem posS_iff (r : Int) : ∀ {l : List Int}, Ris l → ∀ i, i < l.length → (i < posS l r ↔ l[i]?.getD 0 < r)
  | [], _, i, h => absurd h (Nat.not_lt_zero _)
  | t :: l, h, i, hi => by
    have hr := List.pairwise_cons.1 h
    by_cases ht : t < r
    · have e : posS (t :: l) r = posS l r + 1 := List.countP_cons_of_pos (by simpa using ht)
      rw [e]
      cases i with
      | zero => simpa using ht
      | succ i =>
        have := posS_iff r hr.2 i (by simpa using hi)
        rw [List.getElem?_cons_succ, ← this]; omega
    · have e0 : posS (t :: l) r = 0 := by
        unfold posS
        rw [List.countP_eq_zero]
        intro x hx
        rcases List.mem_cons.1 hx with rfl | hx
        · simpa using ht
        · have := hr.1 x hx
          simp; omega
      rw [e0]
      have hm : t ≤ (t :: l)[i]?.getD 0 := by
        cases i with
        | zero => simp
        | succ i =>
          have hi2 : i < l.length := by simpa using hi
          rw [List.getElem?_cons_succ, List.getElem?_eq_getElem hi2, Option.getD_some]
          exact hr.1 _ (List.getElem_mem hi2)
      constructor
      · intro h; omega
      · intro h; omega
theorem ris_get {l : List Int} (h : Ris l) {i j : Nat} (hij : i ≤ j) (hj : j < l.length) : l[i]?.getD 0 ≤ l[j]?.getD 0 := by
  rw [List.getElem?_eq_getElem hj, List.getElem?_eq_getElem (show i < l.length by omega), Option.getD_some, Option.getD_some]
  by_cases e : i = j
  · subst e; exact Int.le_refl _
  · exact List.pairwise_iff_getElem.1 h i j (by omega) hj (by omega)
theorem get_mem {l : List Int} {i : Nat} (hi : i < l.length) : l[i]?.getD 0 ∈ l := by
  rw [List.getElem?_eq_getElem hi]; exact List.getElem_mem hi
theorem mem_get {l : List Int} {z : Int} (h : z ∈ l) : ∃ i, i < l.length ∧ l[i]?.getD 0 = z := by
  obtain ⟨i, hi, e⟩ := List.getElem_of_mem h
  exact ⟨i, hi, by rw [List.getElem?_eq_getElem hi]; exact e⟩
theorem set_get {l : List Int} {i : Nat} (v : Int) (hi : i < l.length) (j : Nat) : (l.set i v)[j]?.getD 0 = if j = i then v else l[j]?.getD 0 := by
  rw [List.getElem?_set]
  by_cases e : i = j
  · subst e; rw [if_pos rfl, if_pos hi, if_pos rfl]; rfl
  · rw [if_neg e, if_neg (Ne.symm e)]
theorem ris_of {l : List Int} (h : ∀ i, i + 1 < l.length → l[i]?.getD 0 ≤ l[i+1]?.getD 0) : Ris l := by
  unfold Ris
  rw [List.pairwise_iff_getElem]
  have step : ∀ d i, i + d < l.length → l[i]?.getD 0 ≤ l[i+d]?.getD 0 := by
    intro d
    induction d with
    | zero => intro i _; exact Int.le_refl _
    | succ d ih =>
      intro i hi
      have h1 := ih i (by omega)
      have h2 := h (i + d) (by omega)
      rw [Nat.add_assoc] at h2
      omega
  intro i j hi hj hij
  have := step (j - i) i (by omega)
  rw [show i + (j - i) = j by omega, List.getElem?_eq_getElem hi, List.getElem?_eq_getElem hj] at this
  exact this
theorem ris_set {l : List Int} (h : Ris l) {i : Nat} (hi : i < l.length) (v : Int) (h1 : 0 < i → l[i-1]?.getD 0 ≤ v) (h2 : i + 1 < l.length → v ≤ l[i+1]?.getD 0) : Ris (l.set i v) := by
  refine ris_of fun j hj => ?_
  rw [List.length_set] at hj
  rw [set_get v hi, set_get v hi]
  by_cases e1 : j = i
  · subst e1
    rw [if_pos rfl, if_neg (by omega)]
    exact h2 hj
  · rw [if_neg e1]
    by_cases e2 : j + 1 = i
    · rw [if_pos e2]
      have := h1 (by omega)
      rwa [show i - 1 = j by omega] at this
    · rw [if_neg e2]
      exact ris_get h (Nat.le_succ _) hj

/-- Those between whom an ask lies go: both, as far as the nearer one has to, or the nearer one. -/
def goBetw (dbl : Bool) (l : List Int) (p : Nat) (r : Int) : List Int × Int :=
  if dbl then ((l.set (p-1) (l[p-1]?.getD 0 + min (r - l[p-1]?.getD 0) (l[p]?.getD 0 - r))).set p (l[p]?.getD 0 - min (r - l[p-1]?.getD 0) (l[p]?.getD 0 - r)), 2 * min (r - l[p-1]?.getD 0) (l[p]?.getD 0 - r))
  else if r - l[p-1]?.getD 0 ≤ l[p]?.getD 0 - r then (l.set (p-1) r, zabs (l[p-1]?.getD 0 - r)) else (l.set p r, zabs (l[p]?.getD 0 - r))
/-- One ask. -/
def goStep (dbl : Bool) (l : List Int) (r : Int) : List Int × Int :=
  if l.contains r then (l, 0)
  else if posS l r = 0 then (l.set 0 r, zabs (l[0]?.getD 0 - r))
  else if posS l r = l.length then (l.set (posS l r - 1) r, zabs (l[posS l r - 1]?.getD 0 - r))
  else goBetw dbl l (posS l r) r
/-- Where they are behind n asks. -/
def goRow (dbl : Bool) (s asks : List Int) : Nat → List Int
  | 0 => s.mergeSort zle
  | n + 1 => (goStep dbl (goRow dbl s asks n) (asks[n]?.getD 0)).1
/-- How far all went. -/
def goCost (dbl : Bool) (s asks : List Int) : Nat → Int
  | 0 => 0
  | n + 1 => goCost dbl s asks n + (goStep dbl (goRow dbl s asks n) (asks[n]?.getD 0)).2
theorem goStep_length (dbl : Bool) (l : List Int) (r : Int) : (goStep dbl l r).1.length = l.length := by
  unfold goStep goBetw
  repeat' split
  all_goals simp
theorem goRow_length (dbl : Bool) (s asks : List Int) : ∀ n, (goRow dbl s asks n).length = s.length
  | 0 => List.length_mergeSort _
  | n + 1 => by rw [goRow, goStep_length, goRow_length dbl s asks n]
/-- What a step from both sides is, or one of the nearest. -/
structure StepOk (dbl : Bool) (l : List Int) (r : Int) : Prop where
  ris : Ris (goStep dbl l r).1
  cost : 0 ≤ (goStep dbl l r).2 ∧ (goStep dbl l r).2 ≤ 12
  both : dbl = true → DStep l r (goStep dbl l r).1 (goStep dbl l r).2
  near : dbl = false → ∃ q, q ∈ l ∧ (goStep dbl l r).1.Perm (r :: l.erase q) ∧ (goStep dbl l r).2 = zabs (q - r) ∧ (∀ z, z ∈ l → zabs (q - r) ≤ zabs (z - r)) ∧ ∀ z, z ∈ l → zabs (z - r) = zabs (q - r) → q ≤ z
theorem stepOk (dbl : Bool) {l : List Int} {r : Int} (hl : Ris l) (h0 : l ≠ []) (hx : onLine l) (hr : 0 ≤ r ∧ r ≤ 12) : StepOk dbl l r := by
  have hpos : 0 < l.length := List.length_pos_iff.2 h0
  have hple := posS_le l r
  have hlt : ∀ i, i < posS l r → l[i]?.getD 0 < r := fun i hi => (posS_iff r hl i (by omega)).1 hi
  have hge : ∀ i, posS l r ≤ i → i < l.length → r ≤ l[i]?.getD 0 := fun i h1 h2 => by
    have h3 : ¬ l[i]?.getD 0 < r := fun h => by have := (posS_iff r hl i h2).2 h; omega
    omega
  have hl12 : ∀ i, i < l.length → 0 ≤ l[i]?.getD 0 ∧ l[i]?.getD 0 ≤ 12 := fun i hi => hx _ (get_mem hi)
  by_cases hc : r ∈ l
  · have e : goStep dbl l r = (l, 0) := by unfold goStep; rw [if_pos (by simpa using hc)]
    refine ⟨by rw [e]; exact hl, by rw [e]; exact ⟨Int.le_refl _, by simp⟩, fun _ => by rw [e]; exact .there hc (List.Perm.refl _), fun _ => ⟨r, hc, ?_⟩⟩
    rw [e]
    exact ⟨List.perm_cons_erase hc, by unfold zabs; simp, fun z _ => (by unfold zabs; omega), fun z _ h => (by unfold zabs at h; omega)⟩
  have hne : ∀ i, i < l.length → l[i]?.getD 0 ≠ r := fun i hi e => hc (e ▸ get_mem hi)
  have hnc : l.contains r = false := by simpa using hc
  generalize hp : posS l r = p at *
  by_cases hp0 : p = 0
  · subst hp0
    have e : goStep dbl l r = (l.set 0 r, zabs (l[0]?.getD 0 - r)) := by unfold goStep; rw [hnc, hp]; simp
    have hg := hge 0 (Nat.le_refl _) hpos
    have hn := hne 0 hpos
    have h12 := hl12 0 hpos
    have hall : ∀ z, z ∈ l → l[0]?.getD 0 ≤ z := fun z hz => by
      obtain ⟨i, hi, rfl⟩ := mem_get hz
      exact ris_get hl (Nat.zero_le _) hi
    have hz : zabs (l[0]?.getD 0 - r) = l[0]?.getD 0 - r := by unfold zabs; omega
    refine ⟨?_, ?_, fun _ => ?_, fun _ => ⟨l[0]?.getD 0, get_mem hpos, ?_⟩⟩
    · rw [e]
      refine ris_set hl hpos r (fun h => absurd h (Nat.lt_irrefl _)) fun h => ?_
      exact hge _ (Nat.zero_le _) h
    · rw [e]
      show 0 ≤ zabs _ ∧ zabs _ ≤ 12
      unfold zabs; omega
    · rw [e, hz]
      exact .low (get_mem hpos) hall (by omega) (set_perm r hpos)
    · rw [e]
      refine ⟨set_perm r hpos, rfl, fun z hzm => ?_, fun z hzm h => ?_⟩
      · have := hall z hzm
        unfold zabs; omega
      · exact hall z hzm
  · have hp1 : p - 1 < l.length := by omega
    have ha := hlt (p-1) (by omega)
    have ha12 := hl12 (p-1) hp1
    have hlow : ∀ z, z ∈ l → z ≤ l[p-1]?.getD 0 ∨ r < z := fun z hz => by
      obtain ⟨i, hi, rfl⟩ := mem_get hz
      by_cases hip : i < p
      · exact .inl (ris_get hl (by omega) hp1)
      · have := hge i (by omega) hi
        have := hne i hi
        exact .inr (by omega)
    by_cases hpl : p = l.length
    · have e : goStep dbl l r = (l.set (p-1) r, zabs (l[p-1]?.getD 0 - r)) := by unfold goStep; rw [hnc, if_neg (by simp), hp, if_neg hp0, if_pos hpl]
      have hall : ∀ z, z ∈ l → z ≤ l[p-1]?.getD 0 := fun z hz => by
        obtain ⟨i, hi, rfl⟩ := mem_get hz
        exact ris_get hl (by omega) hp1
      have hz : zabs (l[p-1]?.getD 0 - r) = r - l[p-1]?.getD 0 := by unfold zabs; omega
      refine ⟨?_, ?_, fun _ => ?_, fun _ => ⟨l[p-1]?.getD 0, get_mem hp1, ?_⟩⟩
      · rw [e]
        refine ris_set hl hp1 r (fun h => ?_) fun h => by omega
        have := hlt (p - 1 - 1) (by omega)
        omega
      · rw [e]
        show 0 ≤ zabs _ ∧ zabs _ ≤ 12
        unfold zabs; omega
      · rw [e, hz]
        exact .high (get_mem hp1) hall ha (set_perm r hp1)
      · rw [e]
        refine ⟨set_perm r hp1, rfl, fun z hzm => ?_, fun z hzm h => ?_⟩
        · have := hall z hzm
          unfold zabs; omega
        · have := hall z hzm
          unfold zabs at h; omega
    · have hpL : p < l.length := by omega
      have e : goStep dbl l r = goBetw dbl l p r := by unfold goStep; rw [hnc, if_neg (by simp), hp, if_neg hp0, if_neg hpl]
      have hb := hge p (Nat.le_refl _) hpL
      have hbn := hne p hpL
      have hb12 := hl12 p hpL
      have hhigh : ∀ z, z ∈ l → z ≤ l[p-1]?.getD 0 ∨ l[p]?.getD 0 ≤ z := fun z hz => by
        obtain ⟨i, hi, rfl⟩ := mem_get hz
        by_cases hip : i < p
        · exact .inl (ris_get hl (by omega) hp1)
        · exact .inr (ris_get hl (by omega) hi)
      cases dbl with
      | true =>
        obtain ⟨d, hd⟩ : ∃ d, min (r - l[p-1]?.getD 0) (l[p]?.getD 0 - r) = d := ⟨_, rfl⟩
        have e2 : goStep true l r = ((l.set (p-1) (l[p-1]?.getD 0 + d)).set p (l[p]?.getD 0 - d), 2 * d) := by rw [e]; unfold goBetw; rw [if_pos rfl, hd]
        have hpL2 : p < (l.set (p-1) (l[p-1]?.getD 0 + d)).length := by rw [List.length_set]; exact hpL
        have hr1 : Ris (l.set (p-1) (l[p-1]?.getD 0 + d)) := by
          refine ris_set hl hp1 _ (fun h => ?_) fun h => ?_
          · have := ris_get hl (show p - 1 - 1 ≤ p - 1 by omega) hp1
            omega
          · rw [show p - 1 + 1 = p by omega]; omega
        refine ⟨?_, ?_, fun _ => ?_, fun h => (by cases h)⟩
        · rw [e2]
          refine ris_set hr1 hpL2 _ (fun _ => ?_) fun h => ?_
          · rw [set_get _ hp1, if_pos rfl]; omega
          · rw [List.length_set] at h
            rw [set_get _ hp1, if_neg (by omega)]
            have := ris_get hl (show p ≤ p + 1 by omega) h
            omega
        · rw [e2]
          show 0 ≤ 2 * d ∧ 2 * d ≤ 12
          omega
        · rw [e2]
          refine .both (get_mem hp1) (get_mem hpL) ha (by omega) hhigh hd.symm ?_
          have q1 := set_perm (l[p]?.getD 0 - d) hpL2
          rw [set_get _ hp1, if_neg (by omega)] at q1
          have q2 := (set_perm (l[p-1]?.getD 0 + d) hp1).erase (l[p]?.getD 0)
          rw [List.erase_cons_tail (by simp; omega)] at q2
          exact q1.trans ((q2.cons _).trans (List.Perm.swap _ _ _))
      | false =>
        by_cases hlr : r - l[p-1]?.getD 0 ≤ l[p]?.getD 0 - r
        · have e2 : goStep false l r = (l.set (p-1) r, zabs (l[p-1]?.getD 0 - r)) := by rw [e]; unfold goBetw; rw [if_neg (by simp), if_pos hlr]
          refine ⟨?_, ?_, fun h => (by cases h), fun _ => ⟨l[p-1]?.getD 0, get_mem hp1, ?_⟩⟩
          · rw [e2]
            refine ris_set hl hp1 r (fun h => ?_) fun h => ?_
            · have := hlt (p - 1 - 1) (by omega)
              omega
            · rw [show p - 1 + 1 = p by omega]; exact hb
          · rw [e2]
            show 0 ≤ zabs _ ∧ zabs _ ≤ 12
            unfold zabs; omega
          · rw [e2]
            refine ⟨set_perm r hp1, rfl, fun z hz => ?_, fun z hz h => ?_⟩
            · have := hhigh z hz
              unfold zabs; omega
            · have := hhigh z hz
              unfold zabs at h; omega
        · have e2 : goStep false l r = (l.set p r, zabs (l[p]?.getD 0 - r)) := by rw [e]; unfold goBetw; rw [if_neg (by simp), if_neg hlr]
          refine ⟨?_, ?_, fun h => (by cases h), fun _ => ⟨l[p]?.getD 0, get_mem hpL, ?_⟩⟩
          · rw [e2]
            refine ris_set hl hpL r (fun h => ?_) fun h => ?_
            · omega
            · have := ris_get hl (show p ≤ p + 1 by omega) h
              omega
          · rw [e2]
            show 0 ≤ zabs _ ∧ zabs _ ≤ 12
            unfold zabs; omega
          · rw [e2]
            refine ⟨set_perm r hpL, rfl, fun z hz => ?_, fun z hz h => ?_⟩
            · have := hhigh z hz
              unfold zabs; omega
            · have := hhigh z hz
              unfold zabs at h; omega
theorem zle_trans (a b c : Int) (h1 : zle a b = true) (h2 : zle b c = true) : zle a c = true := by simp [zle] at *; omega
theorem zle_total (a b : Int) : (zle a b || zle b a) = true := by simp [zle]; omega
theorem ris_sort (s : List Int) : Ris (s.mergeSort zle) := (List.pairwise_mergeSort zle_trans zle_total s).imp fun h => by simpa [zle] using h
theorem sort_perm (s : List Int) : (s.mergeSort zle).Perm s := List.mergeSort_perm s zle
theorem ris_unique {a b : List Int} (ha : Ris a) (hb : Ris b) (h : a.Perm b) : a = b :=
  List.Perm.eq_of_pairwise (le := fun x y => x ≤ y) (fun _ _ _ _ h1 h2 => Int.le_antisymm h1 h2) ha hb h
/-- What holds behind n asks. -/
structure RowOk (dbl : Bool) (s asks : List Int) (n : Nat) : Prop where
  ris : Ris (goRow dbl s asks n)
  line : onLine (goRow dbl s asks n)
  cost : 0 ≤ goCost dbl s asks n ∧ goCost dbl s asks n ≤ 12 * n
theorem rowOk (dbl : Bool) {s asks : List Int} (h0 : s ≠ []) (hs : onLine s) (ha : onLine asks) : ∀ n, n ≤ asks.length → RowOk dbl s asks n
  | 0, _ => ⟨ris_sort s, fun p hp => hs p ((sort_perm s).mem_iff.1 hp), by unfold goCost; omega⟩
  | n + 1, hn => by
    obtain ⟨h1, h2, h3⟩ := rowOk dbl h0 hs ha n (by omega)
    have hne : goRow dbl s asks n ≠ [] := fun e => by
      have := goRow_length dbl s asks n
      rw [e] at this
      exact h0 (List.eq_nil_of_length_eq_zero this.symm)
    have S := stepOk dbl h1 hne h2 (ask_in ha (show n < asks.length by omega))
    refine ⟨S.ris, ?_, ?_⟩
    · cases dbl with
      | true => exact ((S.both rfl).facts h2 (ask_in ha (by omega))).2.1
      | false =>
        obtain ⟨q, hq, hp, _⟩ := S.near rfl
        intro z hz
        rcases List.mem_cons.1 (hp.mem_iff.1 hz) with rfl | hz
        · exact ask_in ha (by omega)
        · exact h2 z (List.mem_of_mem_erase hz)
    · have := S.cost
      show 0 ≤ _ + _ ∧ _ + _ ≤ _
      omega
theorem rowNe (dbl : Bool) {s : List Int} (asks : List Int) (h0 : s ≠ []) (n : Nat) : goRow dbl s asks n ≠ [] := fun e => by
  have := goRow_length dbl s asks n
  rw [e] at this
  exact h0 (List.eq_nil_of_length_eq_zero this.symm)
/-- It is to go from both sides. -/
theorem row_both {s asks : List Int} (h0 : s ≠ []) (hs : onLine s) (ha : onLine asks) : ∀ n, n ≤ asks.length → Both s asks n (goRow true s asks n) (goCost true s asks n)
  | 0, _ => .start (sort_perm s)
  | n + 1, hn => by
    have R := rowOk true h0 hs ha n (by omega)
    exact .go (row_both h0 hs ha n (by omega)) (by omega) ((stepOk true R.ris (rowNe true asks h0 n) R.line (ask_in ha (by omega))).both rfl)
/-- The nearest one goes. -/
theorem row_near {s asks : List Int} (h0 : s ≠ []) (hs : onLine s) (ha : onLine asks) : ∀ n, n ≤ asks.length → ∃ y, y.Perm (goRow false s asks n) ∧ Goes s asks n y (goCost false s asks n)
  | 0, _ => ⟨s, (sort_perm s).symm, .start⟩
  | n + 1, hn => by
    obtain ⟨y, hy, hg⟩ := row_near h0 hs ha n (by omega)
    have R := rowOk false h0 hs ha n (by omega)
    obtain ⟨q, hq, hp, hc, _⟩ := (stepOk false R.ris (rowNe false asks h0 n) R.line (ask_in ha (show n < asks.length by omega))).near rfl
    refine ⟨goRow false s asks (n+1), List.Perm.refl _, ?_⟩
    have h2 : goCost false s asks (n+1) = goCost false s asks n + zabs (q - asks[n]?.getD 0) := by show _ + _ = _; rw [hc]
    rw [h2]
    exact .go hg (by omega) (hy.mem_iff.2 hq) (hp.trans ((hy.erase q).symm.cons _))
/-- Somebody is where it was asked for last. -/
theorem row_there (dbl : Bool) {s asks : List Int} (h0 : s ≠ []) (hs : onLine s) (ha : onLine asks) {n : Nat} (hn : n < asks.length) (hd : dbl = true ∨ dbl = false) : asks[n]?.getD 0 ∈ goRow dbl s asks (n+1) := by
  have R := rowOk dbl h0 hs ha n (by omega)
  have S := stepOk dbl R.ris (rowNe dbl asks h0 n) R.line (ask_in ha (show n < asks.length by omega))
  cases dbl with
  | true => exact ((S.both rfl).facts R.line (ask_in ha hn)).2.2.2
  | false =>
    obtain ⟨q, _, hp, _⟩ := S.near rfl
    exact hp.mem_iff.2 List.mem_cons_self
end Go.Proofs.YtnjfmlojbaigjaaDoor
