/- Lists alone, for chapter 9: the pages of the last requests, how many there are, what is missed. -/
import Derived.Test.YtennlinnclcngaaPhaseL
import Derived.Test.YtennlinnclcngaaMask
namespace Go.Proofs.Ytennlinnclcngaa

/-- The pages of the last w requests ahead of request k, the one asked for last first. -/
def wset (w : Nat) (l : List Int) (k : Nat) : List Int := full ((l.take k).drop (k - w))
def whit (w : Nat) (l : List Int) (k : Nat) : Bool := (wset w l k).contains (l[k]?.getD 0)
/-- How many pages all sets behind the first k requests have. -/
def wsum (w : Nat) (l : List Int) : Nat → Nat
  | 0 => 0
  | k + 1 => wsum w l k + (wset w l (k+1)).length

theorem wset_nodup (w : Nat) (l : List Int) (k : Nat) : (wset w l k).Nodup := full_nodup _
theorem wset_mem {w : Nat} {l : List Int} {k : Nat} (hk : k ≤ l.length) {q : Int} : q ∈ wset w l k ↔ ∃ t, k - w ≤ t ∧ t < k ∧ l[t]?.getD 0 = q := by
  unfold wset
  rw [full_mem, seg_mem hk]
theorem wset_allIn {w : Nat} {l : List Int} (hl : allIn l) (k : Nat) : allIn (wset w l k) := fun p hp => by
  unfold wset at hp
  rw [full_mem] at hp
  exact hl p (List.mem_of_mem_take (List.mem_of_mem_drop hp))
theorem wset_zero (w : Nat) (l : List Int) : wset w l 0 = [] := by unfold wset; simp [full, mru]
theorem wset_le {w : Nat} {l : List Int} {k : Nat} (hk : k ≤ l.length) : (wset w l k).length ≤ w := by
  unfold wset
  rw [full_length]
  have := firsts_le ((l.take k).drop (k - w)) ((l.take k).drop (k - w)).length
  rw [List.length_drop, List.length_take] at this
  rw [List.length_drop, List.length_take]
  omega
/-- One request more, by a window that is one wider. -/
theorem wset_succ {w : Nat} {l : List Int} {k : Nat} (hk : k < l.length) {q : Int} : q ∈ wset (w+1) l (k+1) ↔ q = l[k]?.getD 0 ∨ q ∈ wset w l k := by
  rw [wset_mem (by omega), wset_mem (by omega)]
  constructor
  · rintro ⟨t, a, b, c⟩
    by_cases he : t = k
    · subst he; exact .inl c.symm
    · exact .inr ⟨t, by omega, by omega, c⟩
  · rintro (h | ⟨t, a, b, c⟩)
    · exact ⟨k, by omega, by omega, h.symm⟩
    · exact ⟨t, by omega, by omega, c⟩
theorem wset_grow {w : Nat} {l : List Int} {k : Nat} (hk : k < l.length) : (wset (w+1) l (k+1)).length = (wset w l k).length + (if whit w l k then 0 else 1) := by
  cases hh : whit w l k
  · have hout : l[k]?.getD 0 ∉ wset w l k := out_of_not hh
    have := same_length (wset_nodup (w+1) l (k+1)) (List.nodup_cons.2 ⟨hout, wset_nodup w l k⟩) fun x => by rw [wset_succ hk, List.mem_cons]
    rw [this]; rfl
  · have hin : l[k]?.getD 0 ∈ wset w l k := List.contains_iff_mem.1 hh
    have := same_length (wset_nodup (w+1) l (k+1)) (wset_nodup w l k) fun x => by
      rw [wset_succ hk]
      exact ⟨fun h => h.elim (fun e => e ▸ hin) id, .inr⟩
    rw [this]; rfl
/-- Denning, Schwartz: what one more sees is what was missed. -/
theorem wset_slope {w : Nat} {l : List Int} : ∀ n, n ≤ l.length → wsum (w+1) l n + (wset w l n).length = wsum w l n + mc (whit w l) n
  | 0, _ => by rw [wset_zero]; rfl
  | n + 1, h => by
    have ih := wset_slope (w := w) (l := l) n (by omega)
    have hg := wset_grow (w := w) (l := l) (k := n) (by omega)
    have e1 : wsum (w+1) l (n+1) = wsum (w+1) l n + (wset (w+1) l (n+1)).length := rfl
    have e2 : wsum w l (n+1) = wsum w l n + (wset w l (n+1)).length := rfl
    have e3 : mc (whit w l) (n+1) = mc (whit w l) n + (if whit w l n then 0 else 1) := rfl
    rw [e1, e2, e3, hg]
    omega

/-- Denning: a wider window sees more, and misses less. -/
theorem wset_more {w v : Nat} (hwv : w ≤ v) {l : List Int} {k : Nat} (hk : k ≤ l.length) {q : Int} (h : q ∈ wset w l k) : q ∈ wset v l k := by
  obtain ⟨t, a, b, c⟩ := (wset_mem hk).1 h
  exact (wset_mem hk).2 ⟨t, by omega, b, c⟩
theorem whit_more {w v : Nat} (hwv : w ≤ v) {l : List Int} {k : Nat} (hk : k ≤ l.length) (h : whit w l k = true) : whit v l k = true :=
  List.contains_iff_mem.2 (wset_more hwv hk (List.contains_iff_mem.1 h))
theorem mc_anti {f g : Nat → Bool} : ∀ n, (∀ k, k < n → f k = true → g k = true) → mc g n ≤ mc f n
  | 0, _ => Nat.le_refl _
  | n + 1, h => by
    have ih := mc_anti n fun k hk => h k (by omega)
    rw [mc, mc]
    cases hf : f n
    · cases hg : g n <;> simp <;> omega
    · rw [h n (by omega) hf]; simp; exact ih
theorem miss_less {w v : Nat} (hwv : w ≤ v) {l : List Int} {n : Nat} (hn : n ≤ l.length) : mc (whit v l) n ≤ mc (whit w l) n :=
  mc_anti n fun k hk h => whit_more hwv (by omega) h
theorem wsum_more {w v : Nat} (hwv : w ≤ v) {l : List Int} : ∀ n, n ≤ l.length → wsum w l n ≤ wsum v l n
  | 0, _ => Nat.le_refl _
  | n + 1, h => by
    have ih := wsum_more hwv (l := l) n (by omega)
    have := length_le_of_subset (wset_nodup w l (n+1)) fun p hp => wset_more hwv h hp
    rw [wsum, wsum]; omega
theorem wsum_le {w : Nat} {l : List Int} : ∀ n, n ≤ l.length → wsum w l n ≤ n * w
  | 0, _ => by simp [wsum]
  | n + 1, h => by
    have ih := wsum_le (w := w) (l := l) n (by omega)
    have := wset_le (w := w) h
    rw [wsum, Nat.add_mul, Nat.one_mul]; omega
/-- Each page is missed once at least. -/
theorem miss_firsts {w : Nat} {l : List Int} : ∀ n, n ≤ l.length → firsts l n ≤ mc (whit w l) n
  | 0, _ => by simp [firsts, mc]
  | n + 1, h => by
    have ih := miss_firsts (w := w) (l := l) n (by omega)
    rw [firsts_succ, mc]
    cases hw : whit w l n
    · split <;> simp <;> omega
    · have : (l.take n).contains (l[n]?.getD 0) = true := by
        unfold whit wset at hw
        rw [List.contains_iff_mem, full_mem] at hw
        exact List.contains_iff_mem.2 (List.mem_of_mem_drop hw)
      rw [this]; simp; exact ih
/-- A window as wide as all misses each page once. -/
theorem wset_all {w : Nat} {l : List Int} {k : Nat} (hw : k ≤ w) : wset w l k = full (l.take k) := by
  unfold wset
  rw [show k - w = 0 by omega, List.drop_zero]
theorem miss_whole {w : Nat} {l : List Int} (hw : l.length ≤ w) : ∀ n, n ≤ l.length → mc (whit w l) n = firsts l n
  | 0, _ => by simp [firsts, mc]
  | n + 1, h => by
    have ih := miss_whole hw n (by omega)
    rw [firsts_succ, mc, ih]
    have : whit w l n = (l.take n).contains (l[n]?.getD 0) := by
      unfold whit
      rw [wset_all (by omega), Bool.eq_iff_iff, List.contains_iff_mem, List.contains_iff_mem, full_mem]
    rw [this]
/-- A window is a store: what it has a store of as many slots has, that goes by the last asking. -/
theorem window_store {w : Nat} {l : List Int} {k : Nat} (hk : k ≤ l.length) (h : whit w l k = true) : hitAt w l k = true := by
  have hm := List.contains_iff_mem.1 h
  unfold hitAt
  rw [List.contains_iff_mem]
  obtain ⟨G, hG⟩ := full_prefix (l.take k) (k - w) (by rw [List.length_take]; omega)
  have hle := wset_le (w := w) hk
  unfold wset at hm hle
  rw [← hG, List.take_append]
  exact List.mem_append_left _ (by rw [List.take_of_length_le hle]; exact hm)
theorem window_misses {w : Nat} {l : List Int} {n : Nat} (hn : n ≤ l.length) : mc (hitAt w l) n ≤ mc (whit w l) n := mc_anti n fun k hk h => window_store (by omega) h

/-- A set as a number. -/
def setN : List Int → Nat
  | [] => 0
  | p :: r => 2 ^ p.toNat + setN r
theorem setN_append (A B : List Int) : setN (A ++ B) = setN A + setN B := by
  induction A with
  | nil => simp [setN]
  | cons x A ih => rw [List.cons_append, setN, setN, ih]; omega
theorem add_or {m i : Nat} (h : m.testBit i = false) : 2 ^ i + m = m ||| 2 ^ i := by
  have h0 : m / 2 ^ i % 2 = 0 := by
    rw [Nat.testBit_eq_decide_div_mod_eq] at h
    have := Nat.mod_two_eq_zero_or_one (m / 2 ^ i)
    rcases this with h1 | h1
    · exact h1
    · rw [h1] at h; simp at h
  have hp : 0 < 2 ^ i := Nat.two_pow_pos i
  have hm := Nat.div_add_mod m (2 ^ i)
  have hb := Nat.mod_lt m hp
  have h2 := Nat.div_add_mod (m / 2 ^ i) 2
  rw [h0, Nat.add_zero] at h2
  generalize m % 2 ^ i = b at *
  generalize m / 2 ^ i / 2 = a at *
  rw [← h2] at hm
  have e1 : 2 ^ i * (2 * a) % 2 ^ i = 0 := Nat.mul_mod_right _ _
  have e2 : 2 ^ i * (2 * a) % 2 ^ (i+1) = 0 := by rw [Nat.pow_succ, ← Nat.mul_assoc]; exact Nat.mul_mod_right _ _
  have e3 : (2 ^ i * (2 * a) + 2 ^ i) % 2 ^ i = 0 := by rw [Nat.add_mod_right]; exact e1
  rw [← hm, ← Go.nat_join i _ b e1 hb, Nat.or_assoc, Nat.or_comm b, ← Nat.or_assoc, Go.nat_join (i+1) _ (2 ^ i) e2 (by rw [Nat.pow_succ]; omega), Go.nat_join i _ b e3 hb, Go.nat_join i _ b e1 hb]
  omega
theorem setN_msk : ∀ {h : List Int}, h.Nodup → allIn h → Msk (setN h) h
  | [], _, _ => msk_nil
  | p :: r, hn, ha => by
    rw [List.nodup_cons] at hn
    have hp := ha p (by simp)
    have ih := setN_msk hn.2 fun q hq => ha q (by simp [hq])
    have hb : (setN r).testBit p.toNat = false := by
      cases hc : (setN r).testBit p.toNat
      · rfl
      · have := (ih.2 p.toNat (by omega)).1 hc
        rw [Int.toNat_of_nonneg hp.1] at this
        exact absurd this hn.1
    rw [setN, add_or hb]
    exact msk_same (msk_or ih hp.1 hp.2) fun x => by rw [List.mem_append, List.mem_singleton, List.mem_cons]; exact Or.comm
theorem msk_unique {m n : Nat} {h : List Int} (hm : Msk m h) (hn : Msk n h) : m = n := by
  refine Nat.eq_of_testBit_eq fun i => ?_
  by_cases hi : i < 16
  · rw [Bool.eq_iff_iff, hm.2 i hi, hn.2 i hi]
  · have e : 2 ^ 16 ≤ 2 ^ i := Nat.pow_le_pow_right (by omega) (by omega)
    rw [Nat.testBit_lt_two_pow (Nat.lt_of_lt_of_le hm.1 e), Nat.testBit_lt_two_pow (Nat.lt_of_lt_of_le hn.1 e)]
theorem msk_half {m : Nat} {h : List Int} (hm : Msk m h) {i : Nat} (hi : i < 16) : m / 2 ^ i % 2 = 1 ↔ (i : Int) ∈ h := by
  rw [← hm.2 i hi, Nat.testBit_eq_decide_div_mod_eq]; simp
theorem cnt_all {m : Nat} {h : List Int} (hm : Msk m h) (hn : h.Nodup) (hr : allIn h) : cnt 16 m = h.length := by rw [← ones_cnt hm.1]; exact msk_count hm hn hr
theorem cnt_step (m j : Nat) : cnt (j+1) m = cnt j m + m / 2 ^ j % 2 := by
  rw [cnt_succ, Nat.testBit_eq_decide_div_mod_eq]
  have := Nat.mod_two_eq_zero_or_one (m / 2 ^ j)
  rcases this with h | h <;> rw [h] <;> rfl
theorem cnt_end {m j : Nat} (hj : m / 2 ^ j = 0) (h16 : j ≤ 16) : cnt j m = cnt 16 m := by
  have : ∀ d, cnt (j + d) m = cnt j m := fun d => by
    induction d with
    | zero => rfl
    | succ d ih =>
      rw [← Nat.add_assoc, cnt_step, ih, Nat.pow_add, ← Nat.div_div_eq_div_mul, hj, Nat.zero_div]; rfl
  have := this (16 - j)
  rw [show j + (16 - j) = 16 by omega] at this
  exact this.symm
end Go.Proofs.Ytennlinnclcngaa
