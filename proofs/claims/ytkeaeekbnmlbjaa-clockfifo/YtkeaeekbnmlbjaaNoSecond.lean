/- Lists alone: where no page is asked for while it is there, the hand goes as the queue does. -/
import Derived.Test.YtkeaeekbnmlbjaaHands
import Derived.Test.YtkeaeekbnmlbjaaQueue
namespace Go.Proofs.Ytkeaeekbnmlbjaa
open Go.RowKit

/-- A sweep from slot i on, where the marks are those from i on: it takes off all, and ends at 0. -/
theorem sweep_round : ∀ (f : Nat) (t : List Slot) (i : Nat), i < t.length → f = t.length - i → (∀ j, j < t.length → (slotAt t j).2 = decide (i ≤ j)) →
    (sweep f t i).2 = 0 ∧ ∀ j, (slotAt (sweep f t i).1 j).2 = false
  | 0, t, i, hi, hf, _ => by omega
  | f + 1, t, i, hi, hf, hm => by
    have hmi : (slotAt t i).2 = true := by rw [hm i hi]; simp
    rw [sweep_on hmi]
    have hset : ∀ j, (slotAt (t.set i ((slotAt t i).1, false)) j).2 = if j = i then false else (slotAt t j).2 := by
      intro j; rw [slotAt_set hi]; split <;> rfl
    by_cases hl : i + 1 < t.length
    · rw [Nat.mod_eq_of_lt hl]
      refine sweep_round f _ (i + 1) (by rw [List.length_set]; exact hl) (by rw [List.length_set]; omega) ?_
      intro j hj
      rw [List.length_set] at hj
      rw [hset j]
      by_cases e : j = i
      · rw [if_pos e]; simp; omega
      · rw [if_neg e, hm j hj, decide_eq_decide]; omega
    · have hz : (i + 1) % t.length = 0 := by rw [show i + 1 = t.length by omega]; exact Nat.mod_self _
      have hf0 : f = 0 := by omega
      subst hf0
      rw [hz]
      refine ⟨rfl, fun j => ?_⟩
      show (slotAt (t.set i ((slotAt t i).1, false)) j).2 = false
      rw [hset j]
      by_cases e : j = i
      · rw [if_pos e]
      · rw [if_neg e]
        by_cases hj : j < t.length
        · rw [hm j hj]; simp; omega
        · unfold slotAt; rw [List.getElem?_eq_none (by omega)]; rfl

theorem rotate_set {L : List Int} {h : Nat} (hh : h < L.length) (p : Int) : (L.set h p).drop ((h + 1) % L.length) ++ (L.set h p).take ((h + 1) % L.length) = (L.drop h ++ L.take h).drop 1 ++ [p] := by
  have hd : L.drop h = L[h] :: L.drop (h + 1) := (List.getElem_cons_drop hh).symm
  have hset : L.set h p = L.take h ++ p :: L.drop (h + 1) := List.set_eq_take_append_cons_drop.trans (if_pos hh)
  rw [hd, List.cons_append, List.drop_one, List.tail_cons, hset]
  have ht : (L.take h).length = h := by rw [List.length_take]; omega
  by_cases hl : h + 1 < L.length
  · rw [Nat.mod_eq_of_lt hl]
    have h1 : (L.take h ++ p :: L.drop (h + 1)).drop (h + 1) = L.drop (h + 1) := by
      rw [List.drop_append, List.drop_of_length_le (by omega), ht, show h + 1 - h = 1 by omega]; rfl
    have h2 : (L.take h ++ p :: L.drop (h + 1)).take (h + 1) = L.take h ++ [p] := by
      rw [List.take_append, List.take_of_length_le (by omega), ht, show h + 1 - h = 1 by omega]; rfl
    rw [h1, h2, List.append_assoc]
  · rw [show h + 1 = L.length by omega, Nat.mod_self, List.drop_zero, List.take_zero, List.append_nil, List.drop_of_length_le (Nat.le_refl _)]
    rfl

/-- What holds behind k requests none of which was there. -/
structure NInv (s : Nat) (l : List Int) (k : Nat) : Prop where
  len : (cst s l k).1.length = min k s
  mark : ∀ j, j < (cst s l k).1.length → (slotAt (cst s l k).1 j).2 = (decide (j < (cst s l k).2) || decide ((cst s l k).2 = 0))
  turn : (pagesOf (cst s l k).1).drop (cst s l k).2 ++ (pagesOf (cst s l k).1).take (cst s l k).2 = lastn s (l.take k)
  came : came s l k = l.take k

theorem take_snoc {l : List Int} {k : Nat} (hk : k < l.length) : l.take (k + 1) = l.take k ++ [l[k]?.getD 0] := by
  rw [List.take_add_one, List.getElem?_eq_getElem hk]; rfl

theorem same_hit {s k : Nat} {l : List Int} (h : NInv s l k) : fhit s l k = chit s l k := by
  unfold fhit chit
  rw [h.came, ← h.turn]
  rw [Bool.eq_iff_iff, List.contains_iff_mem, List.contains_iff_mem, List.mem_append]
  constructor
  · rintro (h | h)
    · exact List.mem_of_mem_drop h
    · exact List.mem_of_mem_take h
  · intro hm
    rw [← List.take_append_drop (cst s l k).2 (pagesOf (cst s l k).1), List.mem_append] at hm
    exact hm.symm

theorem ninv (s : Nat) (hs : 1 ≤ s) (l : List Int) : ∀ k, k ≤ l.length → (∀ i, i < k → chit s l i = false) → NInv s l k
  | 0, _, _ => ⟨by simp [cst], by simp [cst], by simp [cst, pagesOf, lastn], rfl⟩
  | k + 1, hk, hno => by
    have h := ninv s hs l k (by omega) (fun i hi => hno i (by omega))
    have hc := hno k (by omega)
    have hf : fhit s l k = false := by rw [same_hit h]; exact hc
    have I := cinv s hs l k
    have hcame : came s l (k+1) = l.take (k+1) := by rw [came_miss hf, h.came, take_snoc (by omega)]
    have hlast : lastn s (l.take (k+1)) = (if (lastn s (l.take k)).length = s then (lastn s (l.take k)).drop 1 else lastn s (l.take k)) ++ [l[k]?.getD 0] := by
      rw [take_snoc (by omega), lastn_snoc hs]
    have hll : (lastn s (l.take k)).length = min s k := by rw [lastn_length, List.length_take]; omega
    have hlen := h.len
    have hmark := h.mark
    have hturn := h.turn
    by_cases hr : (cst s l k).1.length < s
    · rw [hll, if_neg (by omega)] at hlast
      have h0 := I.room hr
      have E := cst_room hc hr
      rw [h0] at E hmark hturn
      refine ⟨?_, ?_, ?_, hcame⟩
      · rw [E]; simp; omega
      · rw [E]
        intro j hj
        simp at hj
        show (slotAt ((cst s l k).1 ++ [(l[k]?.getD 0, true)]) j).2 = _
        by_cases e : j < (cst s l k).1.length
        · have := hmark j e
          unfold slotAt at this ⊢
          rw [List.getElem?_append_left e, this]
        · have e2 : j = (cst s l k).1.length := by omega
          unfold slotAt
          rw [e2]; simp
      · rw [E, hlast, ← hturn]
        simp [pagesOf]
    · rw [hll, if_pos (by omega)] at hlast
      have hha := I.hand
      have hlt : (cst s l k).2 < (cst s l k).1.length := by omega
      have E := cst_full hc hr
      have hsl : (cst s l k).1.length = s := by omega
      generalize cst s l k = st at *
      obtain ⟨t, h⟩ := st
      simp only at *
      by_cases h0 : h = 0
      · subst h0
        have hall : ∀ j, j < t.length → (slotAt t j).2 = true := fun j hj => by rw [hmark j hj]; simp
        have hnm : nmarks t = t.length := List.countP_eq_length.2 fun x hx => by
          obtain ⟨j, hj, rfl⟩ := List.mem_iff_getElem.1 hx
          have := hall j hj
          rw [slotAt_lt hj] at this; exact this
        have hsr := sweep_round (nmarks t) t 0 hlt (by omega) (fun j hj => by rw [hall j hj]; simp)
        have hsf := sweep_facts (nmarks t) t 0 hlt
        unfold turned letIn at E
        rw [hsr.1] at E
        generalize (sweep (nmarks t) t 0).1 = r at *
        have hr0 : 0 < r.length := by omega
        refine ⟨?_, ?_, ?_, hcame⟩
        · rw [E]; simp; omega
        · rw [E]
          intro j hj
          simp at hj
          show (slotAt (r.set 0 (l[k]?.getD 0, true)) j).2 = _
          rw [slotAt_set hr0]
          by_cases hs2 : s = 1
          · have : j = 0 := by omega
            subst this
            simp [hsf.2.1, hsl, hs2]
          · have : (0 + 1) % r.length = 1 := Nat.mod_eq_of_lt (by omega)
            rw [this]
            by_cases e : j = 0
            · subst e; simp
            · rw [if_neg e, hsr.2 j]; simp; omega
        · rw [E, hlast, ← hturn]
          show (pagesOf (r.set 0 (l[k]?.getD 0, true))).drop ((0 + 1) % r.length) ++ (pagesOf (r.set 0 (l[k]?.getD 0, true))).take ((0 + 1) % r.length) = _
          rw [pagesOf_set, hsf.1, hsf.2.1, ← pagesOf_length t]
          exact rotate_set (by rw [pagesOf_length]; omega) _
      · have hoff : (slotAt t h).2 = false := by rw [hmark h hlt]; simp [h0]
        unfold turned letIn at E
        rw [sweep_end hoff] at E
        simp only at E
        refine ⟨?_, ?_, ?_, hcame⟩
        · rw [E]; simp; omega
        · rw [E]
          intro j hj
          simp at hj
          show (slotAt (t.set h (l[k]?.getD 0, true)) j).2 = _
          rw [slotAt_set hlt]
          by_cases hw : h + 1 = t.length
          · rw [hw, Nat.mod_self]
            by_cases e : j = h
            · rw [if_pos e]; simp
            · rw [if_neg e, hmark j hj]; simp; omega
          · rw [Nat.mod_eq_of_lt (by omega)]
            by_cases e : j = h
            · rw [if_pos e]; simp [e]
            · rw [if_neg e, hmark j hj]
              by_cases e2 : j < h
              · simp [e2]; omega
              · simp [e2, h0]; omega
        · rw [E, hlast, ← hturn]
          show (pagesOf (t.set h (l[k]?.getD 0, true))).drop ((h + 1) % t.length) ++ (pagesOf (t.set h (l[k]?.getD 0, true))).take ((h + 1) % t.length) = _
          rw [pagesOf_set, ← pagesOf_length t]
          exact rotate_set (by rw [pagesOf_length]; omega) _

/-- Where the hand's store has no page asked for twice, nor has the queue's. -/
theorem no_second {s : Nat} (hs : 1 ≤ s) {l : List Int} (h : ∀ i, i < l.length → chit s l i = false) : marks (chit s l) l.length = marks (fhit s l) l.length := by
  unfold marks
  refine List.map_congr_left fun i hi => ?_
  rw [List.mem_range] at hi
  exact (same_hit (ninv s hs l i (by omega) fun j hj => h j (by omega))).symm
end Go.Proofs.Ytkeaeekbnmlbjaa
