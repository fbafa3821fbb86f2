/- Lists alone: the pages in the order of the last asking, the one asked for last first. -/
import Derived.Test.YtennlinnclcngaaKeep
namespace Go.Proofs.Ytennlinnclcngaa
open Go.RowKit

/-- Of requests, the last one first: the pages in the order of the last asking. -/
def mru : List Int → List Int
  | [] => []
  | p :: r => p :: (mru r).erase p

def full (l : List Int) : List Int := mru l.reverse

theorem mru_mem {x : Int} : ∀ {r : List Int}, x ∈ mru r ↔ x ∈ r
  | [] => by simp [mru]
  | p :: r => by
    rw [mru, List.mem_cons, List.mem_cons]
    by_cases h : x = p
    · simp [h]
    · simp only [h, false_or]
      rw [List.mem_erase_of_ne h]; exact mru_mem

theorem mru_nodup : ∀ (r : List Int), (mru r).Nodup
  | [] => by simp [mru]
  | p :: r => by
    rw [mru, List.nodup_cons]
    exact ⟨(mru_nodup r).not_mem_erase, (mru_nodup r).erase p⟩

theorem full_nodup (l : List Int) : (full l).Nodup := mru_nodup _
theorem full_mem {l : List Int} {x : Int} : x ∈ full l ↔ x ∈ l := by rw [full, mru_mem, List.mem_reverse]
theorem full_snoc (l : List Int) (p : Int) : full (l ++ [p]) = p :: (full l).erase p := by
  simp [full, mru]
theorem full_succ {l : List Int} {k : Nat} (h : k < l.length) : full (l.take (k+1)) = (l[k]?.getD 0) :: (full (l.take k)).erase (l[k]?.getD 0) := by
  rw [List.take_succ_eq_append_getElem h, full_snoc, List.getElem?_eq_getElem h, Option.getD_some]

theorem take_erase_out {p : Int} : ∀ {F : List Int} {n : Nat}, p ∉ F.take n → (F.erase p).take n = F.take n
  | [], n, _ => by simp
  | x :: F, 0, _ => by simp
  | x :: F, n+1, h => by
    rw [List.take_succ_cons, List.mem_cons, not_or] at h
    rw [List.erase_cons, if_neg (by simpa using Ne.symm h.1), List.take_succ_cons, List.take_succ_cons, take_erase_out h.2]

theorem take_erase_in {p : Int} : ∀ {F : List Int} {n : Nat}, p ∈ F.take (n+1) → (F.erase p).take n = (F.take (n+1)).erase p
  | [], n, h => by simp at h
  | x :: F, n, h => by
    rw [List.take_succ_cons] at h ⊢
    by_cases hx : x = p
    · subst hx; simp
    · rw [List.erase_cons, if_neg (by simpa using hx), List.erase_cons, if_neg (by simpa using hx)]
      have h2 : p ∈ F.take n := by simpa [Ne.symm hx] using h
      cases n with
      | zero => simp at h2
      | succ n => rw [List.take_succ_cons, take_erase_in h2]

/-- One asking: the page goes to the front; who goes is the last one. -/
def front (s : Nat) (held : List Int) (p : Int) : List Int :=
  if held.contains p then p :: held.erase p else if held.length < s then p :: held else p :: held.take (held.length - 1)

theorem front_full {s k : Nat} {l : List Int} (hs : 1 ≤ s) (hk : k < l.length) : front s ((full (l.take k)).take s) (l[k]?.getD 0) = (full (l.take (k+1))).take s := by
  rw [full_succ hk]
  generalize full (l.take k) = F
  generalize l[k]?.getD 0 = p
  obtain ⟨n, rfl⟩ : ∃ n, s = n + 1 := ⟨s - 1, by omega⟩
  rw [List.take_succ_cons]
  unfold front
  by_cases h : p ∈ F.take (n+1)
  · rw [if_pos (by simpa using h), take_erase_in h]
  · rw [if_neg (by simpa using h)]
    have h2 : p ∉ F.take n := fun h3 => h (List.mem_of_mem_take (i := n) (by rw [List.take_take, Nat.min_eq_left (by omega)]; exact h3))
    rw [take_erase_out h2]
    have hl := List.length_take (i := n + 1) (l := F)
    split
    · rw [List.take_of_length_le (by omega), List.take_of_length_le (by omega)]
    · rw [List.take_take, show min ((F.take (n+1)).length - 1) (n+1) = n by omega]

/-- Was the page of request k there? -/
def hitAt (s : Nat) (l : List Int) (k : Nat) : Bool := ((full (l.take k)).take s).contains (l[k]?.getD 0)
def hits (s : Nat) (l : List Int) (k : Nat) : List Bool := (List.range k).map (hitAt s l)
theorem hits_succ (s : Nat) (l : List Int) (k : Nat) : hits s l (k+1) = hits s l k ++ [hitAt s l k] := by
  simp [hits, List.range_succ]
theorem hits_length (s : Nat) (l : List Int) (k : Nat) : (hits s l k).length = k := by simp [hits]
theorem hits_get {s : Nat} {l : List Int} {k j : Nat} (h : j < k) : (hits s l k)[j]?.getD false = hitAt s l j := by
  simp [hits, h]

def lruB (l : List Int) (s : Int) : List Bool := if chk l s = 0 then hits s.toNat l l.length else []
def lruL (l : List Int) (s : Int) : List Int := if chk l s = 0 then (full l).take s.toNat else []
theorem lruB_ok {l : List Int} {s : Int} (h : chk l s = 0) : lruB l s = hits s.toNat l l.length := if_pos h
theorem lruL_ok {l : List Int} {s : Int} (h : chk l s = 0) : lruL l s = (full l).take s.toNat := if_pos h
theorem lruB_bad {l : List Int} {s : Int} (h : chk l s ≠ 0) : lruB l s = [] := if_neg h
theorem lruL_bad {l : List Int} {s : Int} (h : chk l s ≠ 0) : lruL l s = [] := if_neg h

end Go.Proofs.Ytennlinnclcngaa
