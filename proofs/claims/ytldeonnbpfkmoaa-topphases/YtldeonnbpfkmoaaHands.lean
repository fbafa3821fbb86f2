/- Lists alone: the slots, their marks, and the hand. -/
import Derived.Test.YtldeonnbpfkmoaaKeep
namespace Go.Proofs.Ytldeonnbpfkmoaa
open Go.RowKit

/-- A slot that is not free: its page, and whether it has a mark. -/
abbrev Slot := Int × Bool
def slotAt (t : List Slot) (h : Nat) : Slot := t[h]?.getD (0, false)
def pagesOf (t : List Slot) : List Int := t.map (·.1)
def nmarks (t : List Slot) : Nat := t.countP (·.2)

/-- The hand goes on until it stands at a slot with no mark; at most f marks are taken off. -/
def sweep : Nat → List Slot → Nat → List Slot × Nat
  | 0, t, h => (t, h)
  | f + 1, t, h => if (slotAt t h).2 then sweep f (t.set h ((slotAt t h).1, false)) ((h + 1) % t.length) else (t, h)

def letIn (t : List Slot) (h : Nat) (p : Int) : List Slot × Nat := (t.set h (p, true), (h + 1) % t.length)
def turned (t : List Slot) (h : Nat) (p : Int) : List Slot × Nat := letIn (sweep (nmarks t) t h).1 (sweep (nmarks t) t h).2 p
def markPage (t : List Slot) (p : Int) : List Slot := t.set (t.findIdx fun x => x.1 == p) (p, true)

def cstep (s : Nat) (st : List Slot × Nat) (p : Int) : List Slot × Nat :=
  if (pagesOf st.1).contains p then (markPage st.1 p, st.2)
  else if st.1.length < s then (st.1 ++ [(p, true)], st.2)
  else turned st.1 st.2 p

/-- What the slots are, and where the hand is, behind the first k requests. -/
def cst (s : Nat) (l : List Int) : Nat → List Slot × Nat
  | 0 => ([], 0)
  | k + 1 => cstep s (cst s l k) (l[k]?.getD 0)
def chit (s : Nat) (l : List Int) (k : Nat) : Bool := (pagesOf (cst s l k).1).contains (l[k]?.getD 0)

theorem cst_hit {s k : Nat} {l : List Int} (h : chit s l k = true) : cst s l (k+1) = (markPage (cst s l k).1 (l[k]?.getD 0), (cst s l k).2) := by
  rw [cst, cstep]; exact if_pos h
theorem cst_room {s k : Nat} {l : List Int} (h : chit s l k = false) (hr : (cst s l k).1.length < s) : cst s l (k+1) = ((cst s l k).1 ++ [(l[k]?.getD 0, true)], (cst s l k).2) := by
  rw [cst, cstep, if_neg (by unfold chit at h; rw [h]; simp)]; exact if_pos hr
theorem cst_full {s k : Nat} {l : List Int} (h : chit s l k = false) (hr : ¬ (cst s l k).1.length < s) : cst s l (k+1) = turned (cst s l k).1 (cst s l k).2 (l[k]?.getD 0) := by
  rw [cst, cstep, if_neg (by unfold chit at h; rw [h]; simp)]; exact if_neg hr

theorem slotAt_lt {t : List Slot} {h : Nat} (hh : h < t.length) : slotAt t h = t[h] := by unfold slotAt; rw [List.getElem?_eq_getElem hh]; rfl
theorem slotAt_mem {t : List Slot} {h : Nat} (hh : h < t.length) : slotAt t h ∈ t := by rw [slotAt_lt hh]; exact List.getElem_mem hh
theorem slotAt_set {t : List Slot} {h j : Nat} (hh : h < t.length) (x : Slot) : slotAt (t.set h x) j = if j = h then x else slotAt t j := by
  unfold slotAt
  rw [List.getElem?_set]
  by_cases e : h = j
  · subst e; simp [hh]
  · rw [if_neg e, if_neg (fun h => e h.symm)]
theorem pagesOf_length (t : List Slot) : (pagesOf t).length = t.length := by simp [pagesOf]
theorem pagesOf_get (t : List Slot) (j : Nat) : (pagesOf t)[j]?.getD 0 = (slotAt t j).1 := by
  unfold pagesOf slotAt; rw [List.getElem?_map]; cases t[j]? <;> rfl
theorem pagesOf_set (t : List Slot) (h : Nat) (x : Slot) : pagesOf (t.set h x) = (pagesOf t).set h x.1 := by
  unfold pagesOf; rw [List.map_set]
theorem pagesOf_off {t : List Slot} {h : Nat} (hh : h < t.length) (m : Bool) : pagesOf (t.set h ((slotAt t h).1, m)) = pagesOf t := by
  rw [pagesOf_set]
  apply List.ext_getElem?
  intro j
  rw [List.getElem?_set]
  by_cases e : h = j
  · subst e
    rw [if_pos rfl, if_pos (by rw [pagesOf_length]; exact hh)]
    unfold pagesOf
    rw [List.getElem?_map, slotAt_lt hh, List.getElem?_eq_getElem hh]; rfl
  · rw [if_neg e]
theorem nmarks_off {t : List Slot} {h : Nat} (hh : h < t.length) (hm : (slotAt t h).2 = true) : nmarks (t.set h ((slotAt t h).1, false)) + 1 = nmarks t := by
  unfold nmarks
  rw [List.countP_set (h := hh), slotAt_lt hh] at *
  have : 0 < t.countP (·.2) := List.countP_pos_iff.2 ⟨t[h], List.getElem_mem hh, hm⟩
  simp [hm]; omega
theorem nmarks_none {t : List Slot} (h0 : nmarks t = 0) (h : Nat) : (slotAt t h).2 = false := by
  by_cases hh : h < t.length
  · have := List.countP_eq_zero.1 h0 _ (slotAt_mem hh)
    simpa using this
  · unfold slotAt; rw [List.getElem?_eq_none (by omega)]; rfl

/-- Where the sweep goes on. -/
theorem sweep_on {f : Nat} {t : List Slot} {h : Nat} (hm : (slotAt t h).2 = true) : sweep (f+1) t h = sweep f (t.set h ((slotAt t h).1, false)) ((h + 1) % t.length) := by
  rw [sweep, if_pos hm]
theorem sweep_end {f : Nat} {t : List Slot} {h : Nat} (hm : (slotAt t h).2 = false) : sweep f t h = (t, h) := by
  cases f with
  | zero => rfl
  | succ f => rw [sweep, if_neg (by rw [hm]; simp)]

theorem sweep_facts : ∀ (f : Nat) (t : List Slot) (h : Nat), h < t.length → pagesOf (sweep f t h).1 = pagesOf t ∧ (sweep f t h).1.length = t.length ∧ (sweep f t h).2 < t.length
  | 0, t, h, hh => ⟨rfl, rfl, hh⟩
  | f + 1, t, h, hh => by
    cases hm : (slotAt t h).2
    · rw [sweep_end hm]; exact ⟨rfl, rfl, hh⟩
    · rw [sweep_on hm]
      have := sweep_facts f (t.set h ((slotAt t h).1, false)) ((h + 1) % t.length) (by rw [List.length_set]; exact Nat.mod_lt _ (by omega))
      rw [List.length_set, pagesOf_off hh] at this
      exact this
theorem sweep_off : ∀ (f : Nat) (t : List Slot) (h : Nat), h < t.length → nmarks t ≤ f → (slotAt (sweep f t h).1 (sweep f t h).2).2 = false
  | 0, t, h, hh, hf => nmarks_none (t := t) (by omega) h
  | f + 1, t, h, hh, hf => by
    cases hm : (slotAt t h).2
    · rw [sweep_end hm]; exact hm
    · rw [sweep_on hm]
      have := nmarks_off hh hm
      exact sweep_off f _ _ (by rw [List.length_set]; exact Nat.mod_lt _ (by omega)) (by omega)

theorem turned_length {t : List Slot} {h : Nat} (p : Int) (hh : h < t.length) : (turned t h p).1.length = t.length := by
  unfold turned letIn; rw [List.length_set]; exact (sweep_facts _ t h hh).2.1
theorem turned_hand {t : List Slot} {h : Nat} (p : Int) (hh : h < t.length) : (turned t h p).2 < t.length := by
  unfold turned letIn
  show _ % _ < _
  rw [(sweep_facts _ t h hh).2.1]; exact Nat.mod_lt _ (by omega)
theorem turned_pages {t : List Slot} {h : Nat} (p : Int) (hh : h < t.length) : pagesOf (turned t h p).1 = (pagesOf t).set (sweep (nmarks t) t h).2 p := by
  unfold turned letIn
  rw [pagesOf_set, (sweep_facts _ t h hh).1]

theorem find_lt {t : List Slot} {p : Int} (h : (pagesOf t).contains p = true) : (t.findIdx fun x => x.1 == p) < t.length ∧ (slotAt t (t.findIdx fun x => x.1 == p)).1 = p := by
  have hm : p ∈ pagesOf t := List.contains_iff_mem.1 h
  unfold pagesOf at hm
  obtain ⟨x, hx, hxp⟩ := List.mem_map.1 hm
  have hlt : (t.findIdx fun x => x.1 == p) < t.length := List.findIdx_lt_length_of_exists ⟨x, hx, by simp [hxp]⟩
  refine ⟨hlt, ?_⟩
  rw [slotAt_lt hlt]
  have := List.findIdx_getElem (xs := t) (p := fun x => x.1 == p) (w := hlt)
  simpa using this
theorem mark_pages {t : List Slot} {p : Int} (h : (pagesOf t).contains p = true) : pagesOf (markPage t p) = pagesOf t := by
  obtain ⟨h1, h2⟩ := find_lt h
  unfold markPage
  have := pagesOf_off h1 true
  rw [h2] at this
  exact this
theorem mark_length (t : List Slot) (p : Int) : (markPage t p).length = t.length := by unfold markPage; rw [List.length_set]

/-- What holds behind every request. -/
structure CInv (s : Nat) (st : List Slot × Nat) : Prop where
  len : st.1.length ≤ s
  room : st.1.length < s → st.2 = 0
  hand : st.2 < s
  nodup : (pagesOf st.1).Nodup

theorem nodup_set {l : List Int} {h : Nat} {p : Int} (hn : l.Nodup) (hp : p ∉ l) : (l.set h p).Nodup := by
  rw [List.nodup_iff_pairwise_ne, List.pairwise_iff_getElem] at *
  intro i j hi hj hij
  rw [List.length_set] at hi hj
  rw [List.getElem_set, List.getElem_set]
  split
  · split
    · omega
    · intro e; exact hp (e ▸ List.getElem_mem _)
  · split
    · intro e; exact hp (e ▸ List.getElem_mem _)
    · exact hn i j hi hj hij

theorem cinv (s : Nat) (hs : 1 ≤ s) (l : List Int) : ∀ k, CInv s (cst s l k)
  | 0 => ⟨by simp [cst], fun _ => rfl, hs, by simp [cst, pagesOf]⟩
  | k + 1 => by
    have h := cinv s hs l k
    cases hh : chit s l k
    · have hp : l[k]?.getD 0 ∉ pagesOf (cst s l k).1 := fun hm => by
        unfold chit at hh; rw [List.contains_iff_mem.2 hm] at hh; cases hh
      by_cases hr : (cst s l k).1.length < s
      · rw [cst_room hh hr]
        refine ⟨by simp; omega, fun _ => h.room hr, h.hand, ?_⟩
        unfold pagesOf at *
        simp only [List.map_append, List.map_cons, List.map_nil]
        rw [List.nodup_append]
        refine ⟨h.nodup, by simp, fun a ha b hb => ?_⟩
        rw [List.mem_singleton] at hb; subst hb
        intro e; subst e; exact hp ha
      · rw [cst_full hh hr]
        have hl := h.len
        have hha := h.hand
        have hlt : (cst s l k).2 < (cst s l k).1.length := by omega
        refine ⟨by rw [turned_length _ hlt]; omega, fun h => ?_, ?_, ?_⟩
        · rw [turned_length _ hlt] at h; omega
        · have := turned_hand (l[k]?.getD 0) hlt; omega
        · rw [turned_pages _ hlt]; exact nodup_set h.nodup hp
    · rw [cst_hit hh]
      refine ⟨by rw [mark_length]; exact h.len, by rw [mark_length]; exact h.room, h.hand, ?_⟩
      rw [mark_pages hh]; exact h.nodup

def clockB (l : List Int) (s : Int) : List Bool := if chk l s = 0 then marks (chit s.toNat l) l.length else []
def clockL (l : List Int) (s : Int) : List Int := if chk l s = 0 then pagesOf (cst s.toNat l l.length).1 else []
def clockH (l : List Int) (s : Int) : Nat := if chk l s = 0 then (cst s.toNat l l.length).2 else 0
theorem clockB_ok {l : List Int} {s : Int} (h : chk l s = 0) : clockB l s = marks (chit s.toNat l) l.length := if_pos h
theorem clockL_ok {l : List Int} {s : Int} (h : chk l s = 0) : clockL l s = pagesOf (cst s.toNat l l.length).1 := if_pos h
theorem clockH_ok {l : List Int} {s : Int} (h : chk l s = 0) : clockH l s = (cst s.toNat l l.length).2 := if_pos h
theorem clockB_bad {l : List Int} {s : Int} (h : chk l s ≠ 0) : clockB l s = [] := if_neg h
theorem clockL_bad {l : List Int} {s : Int} (h : chk l s ≠ 0) : clockL l s = [] := if_neg h
theorem clockH_bad {l : List Int} {s : Int} (h : chk l s ≠ 0) : clockH l s = 0 := if_neg h
end Go.Proofs.Ytldeonnbpfkmoaa
