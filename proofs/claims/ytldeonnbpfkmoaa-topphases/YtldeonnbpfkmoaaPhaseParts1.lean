/- Lists alone, for chapter 8: the starts, one by one; the requests up to a place. -/
import Derived.Test.YtldeonnbpfkmoaaPhaseClock
namespace Go.Proofs.Ytldeonnbpfkmoaa

def sts (s : Nat) (l : List Int) (n : Nat) : List Nat := (List.range n).filter (begins s l)
theorem starts_sts (s : Nat) (l : List Int) (n : Nat) : starts s l n = (sts s l n).map fun i : Nat => (i : Int) := rfl
theorem sts_length (s : Nat) (l : List Int) (n : Nat) : (sts s l n).length = nph s l n := by unfold nph; rw [starts_sts, List.length_map]
theorem sts_yes {s k : Nat} {l : List Int} (h : begins s l k = true) : sts s l (k+1) = sts s l k ++ [k] := by
  unfold sts
  rw [List.range_succ, List.filter_append, List.filter_cons_of_pos h]; rfl
theorem sts_no {s k : Nat} {l : List Int} (h : begins s l k = false) : sts s l (k+1) = sts s l k := by
  unfold sts
  rw [List.range_succ, List.filter_append, List.filter_cons_of_neg (by rw [h]; simp)]; simp
theorem sts_first (s : Nat) (l : List Int) : ∀ n, 1 ≤ n → (sts s l n)[0]? = some 0
  | 0, h => by omega
  | 1, _ => by rw [sts_yes (begins_zero s l)]; rfl
  | n + 2, _ => by
    have ih := sts_first s l (n+1) (by omega)
    have hl : 0 < (sts s l (n+1)).length := (List.getElem?_eq_some_iff.1 ih).1
    cases hb : begins s l (n+1)
    · rw [sts_no hb]; exact ih
    · rw [sts_yes hb, List.getElem?_append_left hl]; exact ih

/-- Where phase k begins, and where the next one does (or the requests end). -/
def fro (s : Nat) (l : List Int) (n k : Nat) : Nat := (sts s l n)[k]?.getD 0
def nxt (s : Nat) (l : List Int) (n k : Nat) : Nat := (sts s l n)[k+1]?.getD n
structure Part (s : Nat) (l : List Int) (n k : Nat) : Prop where
  lt : fro s l n k < nxt s l n k
  le : nxt s l n k ≤ n
  last : lst s l (nxt s l n k) = fro s l n k
  new : k + 1 < nph s l n → begins s l (nxt s l n k) = true ∧ nxt s l n k < n
  old : k + 1 = nph s l n → nxt s l n k = n
theorem part_all (s : Nat) (l : List Int) : ∀ n k, k < nph s l n → Part s l n k
  | 0, k, h => by simp [nph, starts] at h
  | n + 1, k, h => by
    cases hb : begins s l n
    · have hp := begins_pos hb
      rw [nph_no hb] at h
      have ih := part_all s l n k h
      have e1 : fro s l (n+1) k = fro s l n k := by unfold fro; rw [sts_no hb]
      by_cases hk : k + 1 < nph s l n
      · have e2 : nxt s l (n+1) k = nxt s l n k := by
          unfold nxt
          rw [sts_no hb, List.getElem?_eq_getElem (by rw [sts_length]; exact hk)]; rfl
        have := ih.new hk
        exact ⟨by rw [e1, e2]; exact ih.lt, by rw [e2]; omega, by rw [e1, e2]; exact ih.last, fun _ => ⟨by rw [e2]; exact this.1, by rw [e2]; omega⟩, fun h => by rw [nph_no hb] at h; omega⟩
      · have hk2 : k + 1 = nph s l n := by omega
        have e0 := ih.old hk2
        have e2 : nxt s l (n+1) k = n + 1 := by
          unfold nxt
          rw [sts_no hb, List.getElem?_eq_none (by rw [sts_length]; omega)]; rfl
        have h1 := ih.lt
        have h2 := ih.last
        rw [e0] at h1 h2
        exact ⟨by rw [e1, e2]; omega, by rw [e2]; exact Nat.le_refl _, by rw [e1, e2, lst_no hb]; exact h2, fun h => by rw [nph_no hb] at h; omega, fun _ => e2⟩
    · rw [nph_yes hb] at h
      by_cases hk : k < nph s l n
      · have ih := part_all s l n k hk
        have e1 : fro s l (n+1) k = fro s l n k := by unfold fro; rw [sts_yes hb, List.getElem?_append_left (by rw [sts_length]; exact hk)]
        by_cases hk1 : k + 1 < nph s l n
        · have e2 : nxt s l (n+1) k = nxt s l n k := by
            unfold nxt
            rw [sts_yes hb, List.getElem?_append_left (by rw [sts_length]; exact hk1), List.getElem?_eq_getElem (by rw [sts_length]; exact hk1)]; rfl
          have := ih.new hk1
          exact ⟨by rw [e1, e2]; exact ih.lt, by rw [e2]; omega, by rw [e1, e2]; exact ih.last, fun _ => ⟨by rw [e2]; exact this.1, by rw [e2]; omega⟩, fun h => by rw [nph_yes hb] at h; omega⟩
        · have hk2 : k + 1 = nph s l n := by omega
          have e0 := ih.old hk2
          have e2 : nxt s l (n+1) k = n := by
            unfold nxt
            rw [sts_yes hb, List.getElem?_append_right (by rw [sts_length]; omega), sts_length, show k + 1 - nph s l n = 0 by omega]; rfl
          have h1 := ih.lt
          have h2 := ih.last
          rw [e0] at h1 h2
          exact ⟨by rw [e1, e2]; exact h1, by rw [e2]; omega, by rw [e1, e2]; exact h2, fun _ => ⟨by rw [e2]; exact hb, by rw [e2]; omega⟩, fun h => by rw [nph_yes hb] at h; omega⟩
      · have hk2 : k = nph s l n := by omega
        have e1 : fro s l (n+1) k = n := by
          unfold fro
          rw [sts_yes hb, List.getElem?_append_right (by rw [sts_length]; omega), sts_length, show k - nph s l n = 0 by omega]; rfl
        have e2 : nxt s l (n+1) k = n + 1 := by
          unfold nxt
          rw [sts_yes hb, List.getElem?_eq_none (by rw [List.length_append, sts_length, List.length_singleton]; omega)]; rfl
        exact ⟨by rw [e1, e2]; omega, by rw [e2]; exact Nat.le_refl _, by rw [e1, e2]; exact lst_yes hb, fun h => by rw [nph_yes hb] at h; omega, fun _ => e2⟩
theorem starts_get {s : Nat} {l : List Int} {n k : Nat} (hk : k < nph s l n) : (starts s l n)[k]?.getD 0 = (fro s l n k : Int) := by
  unfold fro
  rw [starts_sts, List.getElem?_map, List.getElem?_eq_getElem (by rw [sts_length]; exact hk)]; rfl
theorem fro_next {s : Nat} {l : List Int} {n k : Nat} (hk : k + 1 < nph s l n) : fro s l n (k+1) = nxt s l n k := by
  unfold fro nxt
  rw [List.getElem?_eq_getElem (by rw [sts_length]; exact hk)]; rfl
theorem fro_zero {s : Nat} {l : List Int} {n : Nat} (hn : 1 ≤ n) : fro s l n 0 = 0 := by unfold fro; rw [sts_first s l n hn]; rfl
theorem nph_pos {s : Nat} {l : List Int} {n : Nat} (hn : 1 ≤ n) : 1 ≤ nph s l n := by rw [nph_lst n hn]; omega

/-- How many unlike pages a phase has. -/
theorem part_some {s : Nat} (hs : 1 ≤ s) {l : List Int} {k : Nat} (h1 : 1 ≤ k) (hk : k ≤ l.length) : firsts ((l.take k).drop (lst s l k)) ((l.take k).drop (lst s l k)).length = (since s l k).length := by
  rw [← full_length]
  have hm : ∀ q, q ∈ full ((l.take k).drop (lst s l k)) ↔ q ∈ since s l k := fun q => by rw [full_mem, seg_mem hk, since_seg k h1 hk]
  have a := length_le_of_subset (full_nodup ((l.take k).drop (lst s l k))) fun p hp => (hm p).1 hp
  have b := length_le_of_subset (since_nodup hs hk) fun p hp => (hm p).2 hp
  omega
theorem part_full {s : Nat} {l : List Int} {k : Nat} (h1 : 1 ≤ k) (hb : begins s l k = true) : (since s l k).length = s := by
  rw [begins_full (by omega) (begins_miss hb)] at hb
  exact beq_iff_eq.1 hb
theorem part_other {s : Nat} {l : List Int} {k : Nat} (h1 : 1 ≤ k) (hk : k < l.length) (hb : begins s l k = true) : ((l.take k).drop (lst s l k)).contains (l[k]?.getD 0) = false := by
  rw [← Bool.not_eq_true, List.contains_iff_mem, seg_mem (by omega), ← since_seg k h1 (by omega)]
  exact out_of_not (begins_miss hb)

/-- What is told of the first requests hangs on them alone. -/
theorem get_take {l : List Int} {n k : Nat} (h : k < n) : (l.take n)[k]?.getD 0 = l[k]?.getD 0 := by rw [List.getElem?_take_of_lt h]
theorem since_take (s : Nat) (l : List Int) (n : Nat) : ∀ k, k ≤ n → since s (l.take n) k = since s l k
  | 0, _ => rfl
  | k + 1, h => by rw [since, since, since_take s l n k (by omega), get_take (by omega)]
theorem came_take (s : Nat) (l : List Int) (n : Nat) : ∀ k, k ≤ n → came s (l.take n) k = came s l k
  | 0, _ => rfl
  | k + 1, h => by rw [came, came, came_take s l n k (by omega), get_take (by omega)]
theorem cst_take (s : Nat) (l : List Int) (n : Nat) : ∀ k, k ≤ n → cst s (l.take n) k = cst s l k
  | 0, _ => rfl
  | k + 1, h => by rw [cst, cst, cst_take s l n k (by omega), get_take (by omega)]
theorem ehit_take {s n k : Nat} {l : List Int} (h : k < n) : ehit s (l.take n) k = ehit s l k := by unfold ehit; rw [since_take s l n k (by omega), get_take h]
theorem fhit_take {s n k : Nat} {l : List Int} (h : k < n) : fhit s (l.take n) k = fhit s l k := by unfold fhit; rw [came_take s l n k (by omega), get_take h]
theorem chit_take {s n k : Nat} {l : List Int} (h : k < n) : chit s (l.take n) k = chit s l k := by unfold chit; rw [cst_take s l n k (by omega), get_take h]
theorem hitAt_take {s n k : Nat} {l : List Int} (h : k < n) : hitAt s (l.take n) k = hitAt s l k := by unfold hitAt; rw [List.take_take, Nat.min_eq_left (by omega), get_take h]
theorem chk_take {l : List Int} {s : Int} (n : Nat) (h : chk l s = 0) : chk (l.take n) s = 0 := by
  have hz := chk_zero h
  have hb : l.any bad = false := by
    unfold chk at h
    rw [if_neg (by omega)] at h
    cases hc : l.any bad
    · rfl
    · rw [hc] at h; simp at h
  have hb2 : (l.take n).any bad = false := by
    rw [List.any_eq_false] at hb ⊢
    exact fun x hx => hb x (List.mem_of_mem_take hx)
  unfold chk
  rw [if_neg (by rw [List.length_take]; omega), hb2, if_neg (by simp), if_neg (by omega)]
/-- In a phase no more are missed than there are slots. -/
theorem part_few {s : Nat} (hs : 1 ≤ s) {l : List Int} {f : Nat → Bool} (hf : FewIn s l f) {k : Nat} (hk : k < nph s l l.length) : mc f (fro s l l.length k) ≤ mc f (nxt s l l.length k) ∧ mc f (nxt s l l.length k) ≤ mc f (fro s l l.length k) + s := by
  have P := part_all s l l.length k hk
  have h1 := P.lt
  have h2 := hf (nxt s l l.length k) (by omega) P.le
  rw [P.last] at h2
  have h3 := since_le hs l (nxt s l l.length k)
  exact ⟨mc_mono f (by omega), by omega⟩
end Go.Proofs.Ytldeonnbpfkmoaa
