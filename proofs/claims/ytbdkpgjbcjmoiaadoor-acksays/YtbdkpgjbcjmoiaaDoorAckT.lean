/- Lists alone, for chapter 13: from message to message, who waits, and what was paid so far; the least of that is the least that telling costs. -/
import Derived.Test.YtbdkpgjbcjmoiaaDoorAckM
namespace Go.Proofs.YtbdkpgjbcjmoiaaDoor

/-- Of the first k messages those from j on wait for the next one; x was paid. -/
inductive Wait (p : Int) (ts : List Int) : Nat → Nat → Int → Prop
  | start : Wait p ts 0 0 0
  | tell {k j : Nat} {x : Int} : Wait p ts k j x → k < ts.length → Wait p ts (k+1) (k+1) (x + p)
  | go {k j : Nat} {x : Int} : Wait p ts k j x → k + 1 < ts.length → Wait p ts (k+1) j (x + ((k + 1 - j : Nat) : Int) * (ts[k+1]?.getD 0 - ts[k]?.getD 0))
theorem Wait.le {p : Int} {ts : List Int} {k j : Nat} {x : Int} (h : Wait p ts k j x) : j ≤ k ∧ k ≤ ts.length := by
  induction h with
  | start => exact ⟨Nat.le_refl _, Nat.zero_le _⟩
  | tell _ h ih => exact ⟨Nat.le_refl _, h⟩
  | go _ h ih => exact ⟨by omega, by omega⟩
theorem Wait.atEnd {p : Int} {ts : List Int} {k j : Nat} {x : Int} (h : Wait p ts k j x) (hk : k = ts.length) : j = k := by
  cases h with
  | start => rfl
  | tell _ h => rfl
  | go _ h => omega
def seg (ts : List Int) (j k : Nat) : List Int := (ts.drop j).take (k - j)
theorem seg_none (ts : List Int) (j : Nat) : seg ts j j = [] := by unfold seg; rw [Nat.sub_self, List.take_zero]
theorem seg_succ {ts : List Int} {j k : Nat} (hj : j ≤ k) (hk : k < ts.length) : seg ts j (k+1) = seg ts j k ++ [ts[k]?.getD 0] := by
  unfold seg
  rw [show k + 1 - j = (k - j) + 1 by omega, List.take_add_one, List.getElem?_drop, show j + (k - j) = k by omega, List.getElem?_eq_getElem hk]
  rfl
theorem seg_length {ts : List Int} {j k : Nat} (hk : k ≤ ts.length) (hj : j ≤ k) : (seg ts j k).length = k - j := by
  unfold seg
  rw [List.length_take, List.length_drop]; omega
theorem sorted_at {ts : List Int} (hr : rising ts) {i j : Nat} (hij : i ≤ j) (hj : j < ts.length) : ts[i]?.getD 0 ≤ ts[j]?.getD 0 := by
  rw [List.getElem?_eq_getElem (by omega : i < ts.length), List.getElem?_eq_getElem hj]
  by_cases e : i = j
  · subst e; exact Int.le_refl _
  · exact List.pairwise_iff_getElem.1 hr i j (by omega) hj (by omega)
theorem seg_le {ts : List Int} (hr : rising ts) {j k m : Nat} (hk : k ≤ m + 1) (hm : m < ts.length) {x : Int} (hx : x ∈ seg ts j k) : x ≤ ts[m]?.getD 0 := by
  unfold seg at hx
  obtain ⟨i, hi, e⟩ := List.mem_iff_getElem.1 hx
  rw [List.length_take, List.length_drop] at hi
  rw [List.getElem_take, List.getElem_drop] at e
  have := sorted_at hr (i := j + i) (j := m) (by omega) hm
  rw [List.getElem?_eq_getElem (by omega : j + i < ts.length), Option.getD_some, e] at this
  exact this
theorem late_shift {a b : Int} (hab : a ≤ b) : ∀ {A : List Int}, (∀ x, x ∈ A → x ≤ a) → late A b = late A a + (A.length : Int) * (b - a)
  | [], _ => by rw [late, late]; simp
  | x :: A, h => by
    have ih := late_shift hab (A := A) fun y hy => h y (List.mem_cons_of_mem _ hy)
    have hx := h x List.mem_cons_self
    rw [late, late, ih, List.length_cons, Int.natCast_add, Int.add_mul, Int.natCast_one, Int.one_mul]
    split <;> split <;> omega
theorem seg_late {ts : List Int} (hr : rising ts) {j k : Nat} (hj : j ≤ k) (hk : k + 1 < ts.length) :
    late (seg ts j (k+1)) (ts[k+1]?.getD 0) = late (seg ts j k) (ts[k]?.getD 0) + ((k + 1 - j : Nat) : Int) * (ts[k+1]?.getD 0 - ts[k]?.getD 0) := by
  rw [late_shift (sorted_at hr (i := k) (j := k + 1) (by omega) hk) (A := seg ts j (k+1)) fun x hx => seg_le hr (Nat.le_refl _) (by omega) hx, seg_length (by omega) (by omega)]
  rw [seg_succ hj (by omega), late_append, late_none (ts := [ts[k]?.getD 0]) fun t ht => by rw [List.mem_singleton.1 ht]; exact Int.le_refl _, Int.add_zero]
theorem wait_tells {p : Int} {ts : List Int} (hr : rising ts) {k j : Nat} {x : Int} (h : Wait p ts k j x) :
    ∃ c, x = c + late (seg ts j k) (ts[k]?.getD 0) ∧ ∀ y, Tells p (ts.drop j) y → Tells p ts (c + y) := by
  induction h with
  | start => exact ⟨0, by rw [seg_none]; rfl, fun y hy => by rw [List.drop_zero] at hy; rw [Int.zero_add]; exact hy⟩
  | @tell k j x h hk ih =>
    obtain ⟨c, rfl, hc⟩ := ih
    have hle := h.le
    refine ⟨c + late (seg ts j k) (ts[k]?.getD 0) + p, by rw [seg_none, late]; omega, fun y hy => ?_⟩
    have := Tells.tell (p := p) (A := seg ts j (k+1)) (B := ts.drop (k+1)) (e := ts[k]?.getD 0) (y := y) (fun h => by
      have := congrArg List.length h
      rw [seg_length (by omega) (by omega), List.length_nil] at this
      omega) (fun z hz => seg_le hr (Nat.le_refl _) hk hz) (fun z hz => by
        obtain ⟨i, hi, e⟩ := List.mem_iff_getElem.1 hz
        rw [List.length_drop] at hi
        rw [List.getElem_drop] at e
        have := sorted_at hr (i := k) (j := k + 1 + i) (by omega) (by omega)
        rw [List.getElem?_eq_getElem (by omega : k + 1 + i < ts.length), Option.getD_some, e] at this
        exact this) hy
    rw [show seg ts j (k+1) ++ ts.drop (k+1) = ts.drop j by
      unfold seg
      conv => rhs; rw [← List.take_append_drop (k + 1 - j) (ts.drop j), List.drop_drop, show j + (k + 1 - j) = k + 1 by omega]] at this
    have h2 := hc _ this
    rw [seg_succ hle.1 hk, late_append, late_none (ts := [ts[k]?.getD 0]) fun t ht => by rw [List.mem_singleton.1 ht]; exact Int.le_refl _] at h2
    rw [show c + late (seg ts j k) (ts[k]?.getD 0) + p + y = c + (p + (late (seg ts j k) (ts[k]?.getD 0) + 0) + y) by omega]
    exact h2
  | @go k j x h hk ih =>
    obtain ⟨c, rfl, hc⟩ := ih
    exact ⟨c, by rw [seg_late hr h.le.1 hk]; omega, hc⟩
theorem wait_on {p : Int} {ts : List Int} (hr : rising ts) {j : Nat} {c : Int} (h : Wait p ts j j c) : ∀ m, j + m < ts.length → Wait p ts (j+m) j (c + late (seg ts j (j+m)) (ts[j+m]?.getD 0))
  | 0, _ => by rw [Nat.add_zero, seg_none, late, Int.add_zero]; exact h
  | m + 1, hm => by
    have ih := wait_on hr h m (by omega)
    have := Wait.go ih (by omega)
    have e := seg_late hr (j := j) (k := j + m) (by omega) (by omega)
    rw [← Nat.add_assoc, e, ← Int.add_assoc]
    exact this
theorem wait_some {p : Int} {ts : List Int} (hr : rising ts) {us : List Int} {y : Int} (h : Tells p us y) : ∀ (j : Nat) (c : Int), us = ts.drop j → Wait p ts j j c → ∃ x, Wait p ts ts.length ts.length x ∧ x ≤ c + y := by
  induction h with
  | done =>
    intro j c e h
    have := congrArg List.length e
    rw [List.length_nil, List.length_drop] at this
    have hle := h.le
    obtain rfl : j = ts.length := by omega
    exact ⟨c, h, by omega⟩
  | @tell A B e y hA hAe hBe _ ih =>
    intro j c e1 h
    have hl : 0 < A.length := List.length_pos_iff.2 hA
    have hlen := congrArg List.length e1
    rw [List.length_append, List.length_drop] at hlen
    obtain ⟨m, hm⟩ : ∃ m, A.length = m + 1 := ⟨A.length - 1, by omega⟩
    have hw := wait_on hr h m (by omega)
    have ht := Wait.tell hw (by omega)
    have eB : B = ts.drop (j + m + 1) := by
      have := congrArg (List.drop (m + 1)) e1
      rw [← hm, List.drop_left, hm, List.drop_drop] at this
      rw [this]; congr 1
    have eA : A = seg ts j (j + m + 1) := by
      have := congrArg (List.take (m + 1)) e1
      rw [← hm, List.take_left, hm] at this
      unfold seg
      rw [show j + m + 1 - j = m + 1 by omega]; exact this
    obtain ⟨x, hx, hle⟩ := ih _ _ eB ht
    refine ⟨x, hx, ?_⟩
    have h5 : ts[j+m]?.getD 0 ≤ e := by
      refine hAe _ ?_
      rw [eA, seg_succ (by omega) (by omega)]
      simp
    have h6 := late_mono h5 A
    rw [eA] at h6 ⊢
    conv at h6 => lhs; rw [seg_succ (by omega) (by omega), late_append, late_none (ts := [ts[j+m]?.getD 0]) fun t ht => by rw [List.mem_singleton.1 ht]; exact Int.le_refl _]
    omega
theorem wait_bound {p : Int} {ts : List Int} (hr : rising ts) (hp : 0 ≤ p ∧ p ≤ 20) (hn : ts.length ≤ 20) (h01 : ∀ x, x ∈ ts → 0 ≤ x ∧ x ≤ 1000) {k j : Nat} {x : Int} (h : Wait p ts k j x) : 0 ≤ x ∧ x ≤ 20 * k + 20 * (if k < ts.length then ts[k]?.getD 0 else 1000) := by
  have hat : ∀ k, k < ts.length → 0 ≤ ts[k]?.getD 0 ∧ ts[k]?.getD 0 ≤ 1000 := fun k hk => by
    rw [List.getElem?_eq_getElem hk]; exact h01 _ (List.getElem_mem hk)
  induction h with
  | start =>
    refine ⟨Int.le_refl _, ?_⟩
    split
    · rename_i h; have := hat 0 h; omega
    · omega
  | @tell k j x h hk ih =>
    rw [if_pos hk] at ih
    have := hat k hk
    refine ⟨by omega, ?_⟩
    split
    · rename_i h2
      have := sorted_at hr (i := k) (j := k + 1) (by omega) h2
      omega
    · omega
  | @go k j x h hk ih =>
    rw [if_pos (by omega)] at ih
    rw [if_pos hk]
    have h1 := sorted_at hr (i := k) (j := k + 1) (by omega) hk
    have h2 : ((k + 1 - j : Nat) : Int) ≤ 20 := by omega
    have h3 := Int.mul_le_mul_of_nonneg_right h2 (show 0 ≤ ts[k+1]?.getD 0 - ts[k]?.getD 0 by omega)
    have h4 := Int.mul_nonneg (show (0 : Int) ≤ ((k + 1 - j : Nat) : Int) by omega) (show 0 ≤ ts[k+1]?.getD 0 - ts[k]?.getD 0 by omega)
    have : (20 : Int) * (ts[k+1]?.getD 0 - ts[k]?.getD 0) = 20 * ts[k+1]?.getD 0 - 20 * ts[k]?.getD 0 := Int.mul_sub _ _ _
    omega
/-- The least that was paid at the end is the least that telling costs. -/
theorem wait_least {p : Int} {ts : List Int} (hr : rising ts) {x : Int} (h1 : Wait p ts ts.length ts.length x) (h2 : ∀ y, Wait p ts ts.length ts.length y → x ≤ y) : LeastTell p ts x := by
  refine ⟨?_, fun y hy => ?_⟩
  · obtain ⟨c, hc, hall⟩ := wait_tells hr h1
    have := hall 0 (by rw [List.drop_length]; exact .done)
    rw [seg_none, late] at hc
    rw [hc]; exact this
  · obtain ⟨z, hz, hle⟩ := wait_some hr hy 0 0 (by rw [List.drop_zero]) .start
    have := h2 z hz
    omega
end Go.Proofs.YtbdkpgjbcjmoiaaDoor
