/- Lists alone, for chapter 11: what looking costs, in any way; to move to the front costs no more than twice the least. -/
import Derived.Test.YtedmfehjifknbabRowsL
namespace Go.Proofs.Ytedmfehjifknbab

theorem sumOn_ones {q : Int → Bool} (A : List Int) : sumOn (fun u => if q u then 1 else 0) A = many q A := by rw [sumOn_some, Nat.one_mul]
theorem erase_same {U : List Int} {x u : Int} (hU : U.Nodup) (h : u ∈ U.erase x) : u ∈ U ∧ u ≠ x := ⟨List.mem_of_mem_erase h, fun e => hU.not_mem_erase (e ▸ h)⟩
/-- The pairs that stand the other way round, with and without one thing. -/
theorem turn2_parts {U A B : List Int} {x : Int} (hx : x ∈ U) : turn2 U A B = many (fun v => ahd A x v && ahd B v x) U + (many (fun u => ahd A u x && ahd B x u) (U.erase x) + sumOn (fun u => many (fun v => ahd A u v && ahd B v u) (U.erase x)) (U.erase x)) := by
  have h : sumOn (fun u => many (fun v => ahd A u v && ahd B v u) U) (U.erase x) = sumOn (fun u => (if (ahd A u x && ahd B x u) then 1 else 0) + many (fun v => ahd A u v && ahd B v u) (U.erase x)) (U.erase x) := sumOn_congr fun u _ => many_erase hx
  unfold turn2
  rw [sumOn_erase hx, h, sumOn_add, sumOn_ones]
/-- To look for a thing, and to move it to the front. -/
theorem look_front {U A B : List Int} (hU : U.Nodup) (hA : Row U A) (hB : Row U B) {x : Int} (hx : x ∈ U) : pos A x + turn2 U (x :: A.erase x) B ≤ turn2 U A B + 2 * pos B x := by
  have hA' := row_front hA hx
  have h0 : pos (x :: A.erase x) x = 0 := by unfold pos; rw [List.idxOf_cons_self]
  rw [turn2_parts (A := x :: A.erase x) hx, turn2_parts (A := A) hx]
  have e1 : many (fun u => ahd (x :: A.erase x) u x && ahd B x u) (U.erase x) = 0 := many_none fun u _ => by
    have : ahd (x :: A.erase x) u x = false := by unfold ahd; rw [h0]; exact decide_eq_false (by omega)
    rw [this]; rfl
  have e2 : sumOn (fun u => many (fun v => ahd (x :: A.erase x) u v && ahd B v u) (U.erase x)) (U.erase x) = sumOn (fun u => many (fun v => ahd A u v && ahd B v u) (U.erase x)) (U.erase x) := sumOn_congr fun u hu => many_congr fun v hv => by
    obtain ⟨hu1, hu2⟩ := erase_same hU hu
    obtain ⟨hv1, hv2⟩ := erase_same hU hv
    rw [forward_ahd hA hA' (forward_front A x) hx hu1 hv1 hu2 hv2]
  have e3 : many (fun v => ahd (x :: A.erase x) x v && ahd B v x) U ≤ pos B x := by
    rw [← many_ahead hU hB ((hB.mem x).2 hx)]
    exact many_mono_of fun v _ h => by rw [Bool.and_eq_true] at h; exact h.2
  have e4 : pos A x ≤ pos B x + many (fun u => ahd A u x && ahd B x u) (U.erase x) := by
    have hself : (ahd A x x && ahd B x x) = false := by
      have : ahd A x x = false := by unfold ahd; exact decide_eq_false (by omega)
      rw [this]; rfl
    have hm : many (fun u => ahd A u x && ahd B x u) U = many (fun u => ahd A u x && ahd B x u) (U.erase x) := by
      rw [many_erase hx, hself]; simp
    rw [← hm, ← many_ahead hU hA ((hA.mem x).2 hx), ← many_ahead hU hB ((hB.mem x).2 hx)]
    refine many_or fun u hu h => ?_
    have hne : u ≠ x := fun e => by
      rw [e] at h
      unfold ahd at h
      rw [decide_eq_true_iff] at h; omega
    cases hb : ahd B u x
    · right; rw [h, ahd_or ((hB.mem u).2 hu) ((hB.mem x).2 hx) hne hb]; rfl
    · left; rfl
  rw [e1, e2]
  omega

/-- A thing is put at a place. -/
def mv (A : List Int) (x : Int) (t : Nat) : List Int := (A.erase x).take t ++ x :: (A.erase x).drop t
theorem mv_zero (A : List Int) (x : Int) : mv A x 0 = x :: A.erase x := by unfold mv; simp
theorem mv_row {U A : List Int} (hA : Row U A) {x : Int} (hx : x ∈ U) (t : Nat) : Row U (mv A x t) := by
  have hf := row_front hA hx
  have hp : (mv A x t).Perm (x :: A.erase x) := by
    unfold mv
    refine List.perm_middle.trans ?_
    rw [List.take_append_drop]
  exact ⟨hp.nodup_iff.2 hf.nd, fun y => by rw [hp.mem_iff]; exact hf.mem y⟩
theorem mv_pos {U A : List Int} (hA : Row U A) {x : Int} (hx : x ∈ U) {t : Nat} (ht : t < A.length) : pos (mv A x t) x = t := by
  unfold mv pos
  have hout : x ∉ (A.erase x).take t := fun h => hA.nd.not_mem_erase (List.mem_of_mem_take h)
  have hl : (A.erase x).length = A.length - 1 := List.length_erase_of_mem ((hA.mem x).2 hx)
  rw [List.idxOf_append, if_neg hout, List.idxOf_cons_self, List.length_take]
  omega
theorem mv_forward {U A : List Int} (hA : Row U A) {x : Int} (hx : x ∈ U) {t : Nat} (ht : t ≤ pos A x) : Forward A (mv A x t) x := by
  have hlt := pos_lt ((hA.mem x).2 hx)
  refine ⟨?_, by rw [mv_pos hA hx (by omega)]; exact ht⟩
  have hout : x ∉ (A.erase x).take t := fun h => hA.nd.not_mem_erase (List.mem_of_mem_take h)
  unfold mv
  rw [List.erase_append_right _ hout, List.erase_cons_head, List.take_append_drop]
theorem mv_same {A : List Int} {x : Int} (h : x ∈ A) : mv A x (pos A x) = A := by
  unfold mv pos
  induction A with
  | nil => cases h
  | cons y A ih =>
    by_cases hy : y = x
    · subst hy; simp
    · have hyx : (y == x) = false := beq_eq_false_iff_ne.2 hy
      have := ih (by simpa [Ne.symm hy] using h)
      rw [List.erase_cons_tail (by simpa using hy), List.idxOf_cons, hyx, cond_false, List.take_succ_cons, List.drop_succ_cons, List.cons_append, this]

/-- Somebody looks: behind n requests the row is B, and all cost y. -/
inductive Looks (U l : List Int) : Nat → List Int → Nat → Prop
  | start : Looks U l 0 U 0
  | look {n B y M C} : Looks U l n B y → n < l.length → Row U M → Row U C → Forward M C (l[n]?.getD 0) → Looks U l (n+1) C (y + turn2 U B M + pos M (l[n]?.getD 0) + 1)
theorem Looks.row {U l : List Int} (hU : U.Nodup) {n : Nat} {B : List Int} {y : Nat} (h : Looks U l n B y) : Row U B := by
  cases h with
  | start => exact ⟨hU, fun _ => Iff.rfl⟩
  | look _ _ _ hC _ => exact hC
theorem asked_in {U l : List Int} (hl : ∀ p, p ∈ l → p ∈ U) {n : Nat} (hn : n < l.length) : l[n]?.getD 0 ∈ U := hl _ (by rw [List.getElem?_eq_getElem hn]; exact List.getElem_mem hn)

/-- One way: whoever is found at place a is moved to place f a. -/
def wayRow (f : Nat → Nat) (U l : List Int) : Nat → List Int
  | 0 => U
  | k + 1 => mv (wayRow f U l k) (l[k]?.getD 0) (f (pos (wayRow f U l k) (l[k]?.getD 0)))
def wayCost (f : Nat → Nat) (U l : List Int) : Nat → Nat
  | 0 => 0
  | k + 1 => wayCost f U l k + pos (wayRow f U l k) (l[k]?.getD 0) + 1
theorem way_row {f : Nat → Nat} {U l : List Int} (hU : U.Nodup) (hl : ∀ p, p ∈ l → p ∈ U) : ∀ k, k ≤ l.length → Row U (wayRow f U l k)
  | 0, _ => ⟨hU, fun _ => Iff.rfl⟩
  | k + 1, hk => mv_row (way_row hU hl k (by omega)) (asked_in hl (by omega)) _
theorem way_looks {f : Nat → Nat} (hf : ∀ a, f a ≤ a) {U l : List Int} (hU : U.Nodup) (hl : ∀ p, p ∈ l → p ∈ U) : ∀ k, k ≤ l.length → Looks U l k (wayRow f U l k) (wayCost f U l k)
  | 0, _ => .start
  | k + 1, hk => by
    have ih := way_looks hf hU hl k (by omega)
    have hr := way_row (f := f) hU hl k (by omega)
    have := Looks.look ih (by omega) hr (way_row (f := f) hU hl (k+1) hk) (mv_forward hr (asked_in hl (by omega)) (hf _))
    rw [turn2_self, Nat.add_zero] at this
    exact this
theorem way_cost_le {f : Nat → Nat} {U l : List Int} (hU : U.Nodup) (hl : ∀ p, p ∈ l → p ∈ U) : ∀ k, k ≤ l.length → wayCost f U l k ≤ k * U.length
  | 0, _ => Nat.zero_le _
  | k + 1, hk => by
    have ih := way_cost_le (f := f) hU hl k (by omega)
    have hr := way_row (f := f) hU hl k (by omega)
    have hp := pos_lt ((hr.mem _).2 (asked_in hl (show k < l.length by omega)))
    rw [same_length hr.nd hU hr.mem] at hp
    rw [wayCost, Nat.add_mul, Nat.one_mul]; omega

/-- Sleator, Tarjan. -/
theorem front_twice {U l : List Int} (hU : U.Nodup) (hl : ∀ p, p ∈ l → p ∈ U) {n : Nat} {B : List Int} {y : Nat} (h : Looks U l n B y) : wayCost (fun _ => 0) U l n + n + turn2 U (wayRow (fun _ => 0) U l n) B ≤ 2 * y := by
  induction h with
  | start => rw [wayRow, turn2_self]; simp [wayCost]
  | @look n B y M C h hn hM hC hf ih =>
    have hA := way_row (f := fun _ => 0) hU hl n (by omega)
    have hx := asked_in hl hn
    have hlk := look_front hU hA hM hx
    have htr := turn2_tri (A := wayRow (fun _ => 0) U l n) (C := M) (h.row hU)
    have h0 : pos (l[n]?.getD 0 :: (wayRow (fun _ => 0) U l n).erase (l[n]?.getD 0)) (l[n]?.getD 0) = 0 := by unfold pos; rw [List.idxOf_cons_self]
    have hfw := turn2_forward hM hC hx h0 hf
    have e1 : wayRow (fun _ => 0) U l (n+1) = l[n]?.getD 0 :: (wayRow (fun _ => 0) U l n).erase (l[n]?.getD 0) := mv_zero _ _
    have e2 : wayCost (fun _ => 0) U l (n+1) = wayCost (fun _ => 0) U l n + pos (wayRow (fun _ => 0) U l n) (l[n]?.getD 0) + 1 := rfl
    rw [e1, e2]
    omega
theorem looks_each {U l : List Int} {n : Nat} {B : List Int} {y : Nat} (h : Looks U l n B y) : n ≤ y := by
  induction h with
  | start => exact Nat.le_refl _
  | look _ _ _ _ _ ih => omega
/-- Always the same. -/
theorem looks_same {U l : List Int} (hU : U.Nodup) {x : Int} (hx : x ∈ U) (hl : ∀ k, k < l.length → l[k]?.getD 0 = x) {n : Nat} {B : List Int} {y : Nat} (h : Looks U l n B y) : 1 ≤ n → pos U x + n ≤ y := by
  induction h with
  | start => intro h; omega
  | @look n B y M C h hn hM hC hf ih =>
    intro _
    rw [hl n hn]
    by_cases h0 : n = 0
    · subst h0
      cases h with
      | start =>
        have := pos_turn hU ⟨hU, fun _ => Iff.rfl⟩ hM hx
        omega
    · have := ih (by omega)
      omega
theorem front_same {U l : List Int} {x : Int} (hl : ∀ k, k < l.length → l[k]?.getD 0 = x) : ∀ n, 1 ≤ n → n ≤ l.length → wayCost (fun _ => 0) U l n = pos U x + n ∧ pos (wayRow (fun _ => 0) U l n) x = 0
  | 0, h, _ => by omega
  | n + 1, _, hn => by
    have hx := hl n (by omega)
    have e1 : wayRow (fun _ => 0) U l (n+1) = x :: (wayRow (fun _ => 0) U l n).erase x := by rw [wayRow, hx]; exact mv_zero _ _
    have e2 : wayCost (fun _ => 0) U l (n+1) = wayCost (fun _ => 0) U l n + pos (wayRow (fun _ => 0) U l n) x + 1 := by rw [wayCost, hx]
    refine ⟨?_, by rw [e1]; unfold pos; rw [List.idxOf_cons_self]⟩
    rw [e2]
    by_cases h0 : n = 0
    · subst h0; simp [wayCost, wayRow]
    · obtain ⟨a, b⟩ := front_same hl n (by omega) (by omega)
      rw [a, b]; omega

/-- x is the least that looking costs. -/
structure LeastLook (U l : List Int) (x : Nat) : Prop where
  some : ∃ B, Looks U l l.length B x
  all : ∀ B y, Looks U l l.length B y → x ≤ y
theorem leastLook_unique {U l : List Int} {x y : Nat} (hx : LeastLook U l x) (hy : LeastLook U l y) : x = y := by
  obtain ⟨A, a⟩ := hx.some
  obtain ⟨B, b⟩ := hy.some
  have := hx.all B y b
  have := hy.all A x a
  omega
theorem list_twice {U l : List Int} (hU : U.Nodup) (hl : ∀ p, p ∈ l → p ∈ U) {x : Nat} (hx : LeastLook U l x) : wayCost (fun _ => 0) U l l.length + l.length ≤ 2 * x := by
  obtain ⟨B, hB⟩ := hx.some
  have := front_twice hU hl hB
  omega
theorem list_least {f : Nat → Nat} (hf : ∀ a, f a ≤ a) {U l : List Int} (hU : U.Nodup) (hl : ∀ p, p ∈ l → p ∈ U) {x : Nat} (hx : LeastLook U l x) : x ≤ wayCost f U l l.length := hx.all _ _ (way_looks hf hU hl l.length (Nat.le_refl _))
theorem list_each {U l : List Int} {x : Nat} (hx : LeastLook U l x) : l.length ≤ x := by
  obtain ⟨B, hB⟩ := hx.some
  exact looks_each hB
/-- Who leaves the list as it is. -/
theorem leave_row {U l : List Int} (hU : U.Nodup) (hl : ∀ p, p ∈ l → p ∈ U) : ∀ k, k ≤ l.length → wayRow (fun a => a) U l k = U
  | 0, _ => rfl
  | k + 1, hk => by
    rw [wayRow, leave_row hU hl k (by omega)]
    exact mv_same (asked_in hl (by omega))
/-- At the end things stand in the order of the last looking; those never looked for as they stood, behind them. -/
theorem front_row {U l : List Int} (hU : U.Nodup) (hl : ∀ p, p ∈ l → p ∈ U) : ∀ k, k ≤ l.length → wayRow (fun _ => 0) U l k = full (l.take k) ++ U.filter fun u => !(l.take k).contains u
  | 0, _ => by
    rw [wayRow, List.take_zero, show full [] = [] from rfl, List.nil_append]
    exact (List.filter_eq_self.2 fun u _ => rfl).symm
  | k + 1, hk => by
    have hlk : k < l.length := by omega
    have ih := front_row hU hl k (by omega)
    have e : wayRow (fun _ => 0) U l (k+1) = l[k]?.getD 0 :: (wayRow (fun _ => 0) U l k).erase (l[k]?.getD 0) := mv_zero _ _
    have hx := asked_in hl hlk
    rw [e, ih, full_succ hlk, List.cons_append]
    congr 1
    have hc : ∀ u, (l.take (k+1)).contains u = ((l.take k).contains u || (l[k]?.getD 0 == u)) := fun u => contains_take_succ hlk u
    generalize l[k]?.getD 0 = x at *
    by_cases hm : x ∈ l.take k
    · rw [List.erase_append_left _ (full_mem.2 hm)]
      congr 1
      refine List.filter_congr fun u _ => ?_
      rw [hc]
      by_cases hu : x = u
      · subst hu
        rw [List.contains_iff_mem.2 hm]; rfl
      · rw [beq_eq_false_iff_ne.2 hu, Bool.or_false]
    · rw [List.erase_append_right _ (fun h => hm (full_mem.1 h)), List.erase_of_not_mem (fun h => hm (full_mem.1 h))]
      congr 1
      rw [List.Nodup.erase_eq_filter (hU.filter _) x, List.filter_filter]
      refine List.filter_congr fun u _ => ?_
      rw [hc]
      by_cases hu : x = u
      · subst hu; simp
      · rw [beq_eq_false_iff_ne.2 hu, Bool.or_false]
        have : (u != x) = true := by simpa using Ne.symm hu
        rw [this, Bool.true_and]
end Go.Proofs.Ytedmfehjifknbab
