/- Lists and numbers alone: pages as the bits of a number, and how many bits are set. -/
import Derived.Test.YtmibnceadciidaaDoorStarts
import Derived.Test.YtmibnceadciidaaDoorSched
import Derived.Laws.BitsAllLaws
namespace Go.Proofs.YtmibnceadciidaaDoor

def force {α : Type} (n : Nat) (f : Nat → α) : α := Nat.rec (f 0) (fun k _ => f (k+1)) n
theorem force_eq {α : Type} (n : Nat) (f : Nat → α) : force n f = f n := by cases n <;> rfl

/-- The steps of math/bits.OnesCount64, over natural numbers. -/
def ones (x : Nat) : Nat :=
  let a := (x / 2 &&& 6148914691236517205) + (x &&& 6148914691236517205)
  let b := (a / 4 &&& 3689348814741910323) + (a &&& 3689348814741910323)
  let c := (b / 16 + b) &&& 1085102592571150095
  let d := c + c / 256
  let e := d + d / 65536
  let f := e + e / 4294967296
  f &&& 127
def onesF (x : Nat) : Nat :=
  force (Nat.add (Nat.land (Nat.div x 2) 6148914691236517205) (Nat.land x 6148914691236517205)) fun a =>
  force (Nat.add (Nat.land (Nat.div a 4) 3689348814741910323) (Nat.land a 3689348814741910323)) fun b =>
  force (Nat.land (Nat.add (Nat.div b 16) b) 1085102592571150095) fun c =>
  force (Nat.add c (Nat.div c 256)) fun d =>
  force (Nat.add d (Nat.div d 65536)) fun e =>
  Nat.land (Nat.add e (Nat.div e 4294967296)) 127
theorem onesF_eq (x : Nat) : onesF x = ones x := by
  unfold onesF ones
  simp only [force_eq]; rfl

/-- How many of the low f bits are set. -/
def cnt (f : Nat) (y : Nat) : Nat := ((List.range f).filter y.testBit).length
theorem cnt_succ (f y : Nat) : cnt (f+1) y = cnt f y + (if y.testBit f then 1 else 0) := by
  unfold cnt
  rw [List.range_succ, List.filter_append, List.length_append]
  cases h : y.testBit f <;> simp [h]
theorem cnt_congr {f y z : Nat} (h : ∀ i, i < f → y.testBit i = z.testBit i) : cnt f y = cnt f z := by
  unfold cnt
  rw [List.filter_congr fun i hi => h i (List.mem_range.1 hi)]

/-- All numbers that have f bits more behind x, which has n ones. -/
def allB : Nat → Nat → Nat → Bool
  | 0, x, n => force x fun x => Nat.beq (onesF x) n
  | f + 1, x, n => and (force (Nat.mul 2 x) fun y => allB f y n) (force (Nat.add (Nat.mul 2 x) 1) fun y => allB f y (n + 1))
theorem all_ok : allB 16 0 0 = true := by decide +kernel
theorem allB_ok : ∀ f x n, allB f x n = true → ∀ y, y < 2 ^ f → ones (x * 2 ^ f + y) = n + cnt f y
  | 0, x, n, h, y, hy => by
    have : y = 0 := by simpa using hy
    subst this
    rw [allB, force_eq, onesF_eq] at h
    simpa [cnt] using Nat.eq_of_beq_eq_true h
  | f + 1, x, n, h, y, hy => by
    rw [allB, force_eq, force_eq, Bool.and_eq_true] at h
    rw [Nat.pow_succ] at hy
    by_cases hb : y < 2 ^ f
    · have := allB_ok f _ _ h.1 y hb
      rw [cnt_succ, Nat.testBit_lt_two_pow hb, ← show Nat.mul 2 x * 2 ^ f + y = x * 2 ^ (f+1) + y by
        show 2 * x * 2 ^ f + y = _
        rw [Nat.pow_succ, Nat.mul_comm 2 x, Nat.mul_assoc, Nat.mul_comm 2]]
      simpa using this
    · obtain ⟨z, rfl⟩ : ∃ z, y = 2 ^ f + z := ⟨y - 2 ^ f, by omega⟩
      have hz : z < 2 ^ f := by omega
      have := allB_ok f _ _ h.2 z hz
      rw [cnt_succ, Nat.testBit_two_pow_add_eq, Nat.testBit_lt_two_pow hz, cnt_congr (z := z) fun i hi => Nat.testBit_two_pow_add_gt hi z,
        ← show Nat.add (Nat.mul 2 x) 1 * 2 ^ f + z = x * 2 ^ (f+1) + (2 ^ f + z) by
        show (2 * x + 1) * 2 ^ f + z = _
        rw [Nat.pow_succ, Nat.add_mul, Nat.one_mul, Nat.mul_comm 2 x, Nat.mul_assoc, Nat.mul_comm 2, Nat.add_assoc]]
      simp only [Bool.not_false, if_true]
      omega
theorem ones_cnt {y : Nat} (h : y < 65536) : ones y = cnt 16 y := by
  have := allB_ok 16 0 0 all_ok y h
  simpa using this

/-- m has the pages of h as its bits. -/
def Msk (m : Nat) (h : List Int) : Prop := m < 65536 ∧ ∀ i : Nat, i < 16 → (m.testBit i = true ↔ (i : Int) ∈ h)
def allIn (h : List Int) : Prop := ∀ p, p ∈ h → 0 ≤ p ∧ p < 16
theorem nodup_casts {A : List Nat} (h : A.Nodup) : (A.map fun i : Nat => (i : Int)).Nodup := by
  induction A with
  | nil => exact List.nodup_nil
  | cons x A ih =>
    rw [List.nodup_cons] at h
    rw [List.map_cons, List.nodup_cons]
    refine ⟨fun hm => ?_, ih h.2⟩
    obtain ⟨y, hy, e⟩ := List.mem_map.1 hm
    exact h.1 (by rw [← show y = x by omega]; exact hy)
theorem msk_count {m : Nat} {h : List Int} (hm : Msk m h) (hn : h.Nodup) (hr : allIn h) : ones m = h.length := by
  rw [ones_cnt hm.1]
  unfold cnt
  rw [← List.length_map (fun i : Nat => (i : Int))]
  have hmem : ∀ p : Int, p ∈ ((List.range 16).filter m.testBit).map (fun i : Nat => (i : Int)) ↔ p ∈ h := by
    intro p
    rw [List.mem_map]
    constructor
    · rintro ⟨i, hi, rfl⟩
      rw [List.mem_filter, List.mem_range] at hi
      exact (hm.2 i hi.1).1 hi.2
    · intro hp
      have := hr p hp
      refine ⟨p.toNat, ?_, by omega⟩
      rw [List.mem_filter, List.mem_range]
      refine ⟨by omega, (hm.2 _ (by omega)).2 ?_⟩
      rwa [Int.toNat_of_nonneg this.1]
  have a := length_le_of_subset (nodup_casts (List.nodup_range.filter m.testBit)) fun p hp => (hmem p).1 hp
  have b := length_le_of_subset hn fun p hp => (hmem p).2 hp
  omega
theorem two_pow_lt {p : Int} (h0 : 0 ≤ p) (h1 : p < 16) : 2 ^ p.toNat < 65536 := by
  have : 2 ^ p.toNat < 2 ^ 16 := Nat.pow_lt_pow_right (by omega) (by omega)
  exact this
theorem msk_one {p : Int} (h0 : 0 ≤ p) (h1 : p < 16) : Msk (2 ^ p.toNat) [p] := by
  refine ⟨two_pow_lt h0 h1, fun i hi => ?_⟩
  rw [Nat.testBit_two_pow, List.mem_singleton, decide_eq_true_iff]
  omega
theorem msk_or {m : Nat} {h : List Int} {p : Int} (hm : Msk m h) (h0 : 0 ≤ p) (h1 : p < 16) : Msk (m ||| 2 ^ p.toNat) (h ++ [p]) := by
  have e := msk_one h0 h1
  refine ⟨Nat.or_lt_two_pow (n := 16) hm.1 e.1, fun i hi => ?_⟩
  rw [Nat.testBit_or, Bool.or_eq_true, hm.2 i hi, e.2 i hi, List.mem_append]
theorem msk_same {m : Nat} {h g : List Int} (hm : Msk m h) (hg : ∀ x, x ∈ h ↔ x ∈ g) : Msk m g := ⟨hm.1, fun i hi => by rw [hm.2 i hi, hg]⟩
theorem msk_in {m : Nat} {h : List Int} {p : Int} (hm : Msk m h) (h0 : 0 ≤ p) (h1 : p < 16) (hp : p ∈ h) : Msk (m ||| 2 ^ p.toNat) h :=
  msk_same (msk_or hm h0 h1) fun x => by
    rw [List.mem_append, List.mem_singleton]
    exact ⟨fun h => h.elim id fun e => e ▸ hp, .inl⟩
theorem msk_nil : Msk 0 [] := ⟨by omega, fun i _ => by simp⟩

theorem since_nd (s : Nat) (l : List Int) : ∀ k, (since s l k).Nodup
  | 0 => List.nodup_nil
  | k + 1 => by
    have ih := since_nd s l k
    cases hh : ehit s l k
    · rw [since_miss hh]
      unfold letsGo
      split
      · simp
      · rw [List.nodup_append]
        refine ⟨ih, by simp, fun a ha b hb => ?_⟩
        rw [List.mem_singleton.1 hb]
        intro e
        unfold ehit at hh
        rw [← e, List.contains_iff_mem.2 ha] at hh; cases hh
    · rw [since_hit hh]; exact ih
theorem since_allIn (s : Nat) {l : List Int} (hl : allIn l) : ∀ k, k ≤ l.length → allIn (since s l k)
  | 0, _ => fun p hp => by simp [since] at hp
  | k + 1, hk => by
    have ih := since_allIn s hl k (by omega)
    cases hh : ehit s l k
    · rw [since_miss hh]
      intro p hp
      unfold letsGo at hp
      rcases List.mem_append.1 hp with hp | hp
      · split at hp
        · simp at hp
        · exact ih p hp
      · rw [List.mem_singleton.1 hp, List.getElem?_eq_getElem (by omega)]
        exact hl _ (List.getElem_mem _)
    · rw [since_hit hh]; exact ih
theorem chk_allIn {l : List Int} {s : Int} (h : chk l s = 0) : allIn l := by
  have h40 := (chk_zero h).1
  unfold chk at h
  rw [if_neg (by omega)] at h
  cases hc : l.any bad
  · rw [List.any_eq_false] at hc
    intro p hp
    have := hc p hp
    simp [bad] at this
    omega
  · rw [hc] at h; simp at h

/-- What a request does to the bits: k requests are behind, page p comes. -/
structure Turn (s : Nat) (l : List Int) (k m : Nat) : Prop where
  lt : (m ||| 2 ^ (l[k]?.getD 0).toNat) < 65536
  own : 2 ^ (l[k]?.getD 0).toNat < 65536
  yes : begins s l k = true → Msk (2 ^ (l[k]?.getD 0).toNat) (since s l (k+1)) ∧ (0 < k → s < ones (m ||| 2 ^ (l[k]?.getD 0).toNat) ∧ ones (m ||| 2 ^ (l[k]?.getD 0).toNat) ≤ 9)
  no : begins s l k = false → 0 < k ∧ Msk (m ||| 2 ^ (l[k]?.getD 0).toNat) (since s l (k+1)) ∧ ones (m ||| 2 ^ (l[k]?.getD 0).toNat) ≤ s
theorem turn_all {s : Nat} (hs : 1 ≤ s) (hs8 : s ≤ 8) {l : List Int} (hl : allIn l) {k m : Nat} (hk : k < l.length) (hm : Msk m (since s l k)) : Turn s l k m := by
  have hp : 0 ≤ l[k]?.getD 0 ∧ l[k]?.getD 0 < 16 := by
    rw [List.getElem?_eq_getElem hk]
    exact hl _ (List.getElem_mem _)
  have hle := since_le hs l k
  have hin := since_allIn s hl k (by omega)
  have hin1 := since_allIn s hl (k+1) (by omega)
  have hor := msk_or hm hp.1 hp.2
  refine ⟨hor.1, two_pow_lt hp.1 hp.2, fun hb => ⟨?_, fun h0 => ?_⟩, fun hb => ⟨begins_pos hb, ?_⟩⟩
  · rw [begins_since hb]; exact msk_one hp.1 hp.2
  · have hmiss := begins_miss hb
    have hfull : (since s l k).length = s := by
      rw [begins_full h0 hmiss] at hb
      exact beq_iff_eq.1 hb
    have hnd : (since s l k ++ [l[k]?.getD 0]).Nodup := by
      rw [List.nodup_append]
      refine ⟨since_nd s l k, by simp, fun a ha b hb => ?_⟩
      rw [List.mem_singleton.1 hb]
      intro e
      unfold ehit at hmiss
      rw [← e, List.contains_iff_mem.2 ha] at hmiss; cases hmiss
    have := msk_count hor hnd fun p hp2 => by
      rcases List.mem_append.1 hp2 with h | h
      · exact hin p h
      · rw [List.mem_singleton.1 h]; exact hp
    rw [List.length_append, List.length_singleton, hfull] at this
    omega
  · cases hh : ehit s l k
    · rw [← stays_since hb hh] at hor
      have := msk_count hor (since_nd s l _) hin1
      have h2 := since_le hs l (k+1)
      exact ⟨hor, by omega⟩
    · rw [since_hit hh]
      have hor2 := msk_in hm hp.1 hp.2 (List.contains_iff_mem.1 hh)
      have := msk_count hor2 (since_nd s l _) hin
      exact ⟨hor2, by omega⟩
end Go.Proofs.YtmibnceadciidaaDoor
