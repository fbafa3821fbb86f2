/- Windows, as numbers and lists: what wset.Check, wset.Sets and wset.Miss answer. No walk. -/
import Derived.Test.YtbnhlnjbgimibaaDoorWsetL
import Derived.Test.YtbnhlnjbgimibaaDoorKeep
namespace Go.Proofs.YtbnhlnjbgimibaaDoor
open Go.RowKit

/-- What is wrong with requests and a window. -/
def wchk (l : List Int) (win : Int) : Nat := if chk l 8 = 0 then (if win < 1 ∨ 40 < win then 1 else 0) else chk l 8
theorem chk_one_eight (l : List Int) : chk l 1 = chk l 8 := by
  unfold chk
  by_cases h : 40 < l.length
  · rw [if_pos h, if_pos h]
  · rw [if_neg h, if_neg h]
    by_cases hb : l.any bad = true
    · rw [if_pos hb, if_pos hb]
    · rw [if_neg hb, if_neg hb, if_neg (by omega), if_neg (by omega)]
theorem wchk_out {l : List Int} {win : Int} (h : chk l 8 = 0) (hw : win < 1 ∨ 40 < win) : wchk l win = 1 := by unfold wchk; rw [if_pos h, if_pos hw]
theorem wchk_in {l : List Int} {win : Int} (h : chk l 8 = 0) (h1 : 1 ≤ win) (h40 : win ≤ 40) : wchk l win = 0 := by unfold wchk; rw [if_pos h, if_neg (by omega)]
theorem wchk_bad {l : List Int} {win : Int} (h : chk l 8 ≠ 0) : wchk l win = chk l 8 := by unfold wchk; rw [if_neg h]
theorem wchk_zero {l : List Int} {win : Int} (h : wchk l win = 0) : chk l 8 = 0 ∧ 1 ≤ win ∧ win ≤ 40 := by
  unfold wchk at h
  split at h
  · rename_i hc
    split at h
    · cases h
    · exact ⟨hc, by omega, by omega⟩
  · exact absurd h ‹_›
theorem wchk_cases (l : List Int) (win : Int) : wchk l win = 0 ∨ wchk l win = 1 ∨ wchk l win = 4 := by
  unfold wchk
  split
  · split <;> simp
  · exact chk_cases l 8

/-- The sets of the first k requests. -/
def setsOf (w : Nat) (l : List Int) (k : Nat) : List Int := (List.range k).map fun i => (setN (wset w l (i+1)) : Int)
theorem setsOf_length (w : Nat) (l : List Int) (k : Nat) : (setsOf w l k).length = k := by simp [setsOf]
theorem setsOf_succ (w : Nat) (l : List Int) (k : Nat) : setsOf w l (k+1) = setsOf w l k ++ [(setN (wset w l (k+1)) : Int)] := by
  unfold setsOf; rw [List.range_succ, List.map_append]; rfl
theorem setsOf_get {w : Nat} {l : List Int} {k j : Nat} (h : j < k) : (setsOf w l k)[j]?.getD 0 = (setN (wset w l (j+1)) : Int) := by
  unfold setsOf
  rw [List.getElem?_map, List.getElem?_range h]; rfl
def setsTo (w : Nat) (l : List Int) (n k : Nat) : List Int := setsOf w l k ++ List.replicate (n - k) 0
theorem setsTo_length {w : Nat} {l : List Int} {n k : Nat} (h : k ≤ n) : (setsTo w l n k).length = n := by
  unfold setsTo; rw [List.length_append, setsOf_length, List.length_replicate]; omega
theorem setsTo_zero (w : Nat) (l : List Int) (n : Nat) : setsTo w l n 0 = List.replicate n 0 := by simp [setsTo, setsOf]
theorem setsTo_set {w : Nat} {l : List Int} {n k : Nat} (h : k < n) : (setsTo w l n k).set k (setN (wset w l (k+1)) : Int) = setsTo w l n (k+1) := by
  unfold setsTo
  rw [List.set_append_right _ _ (by rw [setsOf_length]; exact Nat.le_refl _), setsOf_length, Nat.sub_self, setsOf_succ, show n - k = (n - (k+1)) + 1 by omega, List.replicate_succ, List.set_cons_zero, List.append_assoc]; rfl
theorem setsTo_all (w : Nat) (l : List Int) (n : Nat) : setsTo w l n n = setsOf w l n := by simp [setsTo]

def wsL (l : List Int) (win : Int) : List Int := if wchk l win = 0 then setsOf win.toNat l l.length else []
def wsN (l : List Int) (win : Int) : Nat := if wchk l win = 0 then mc (whit win.toNat l) l.length else 0
def wsS (l : List Int) (win : Int) : Nat := if wchk l win = 0 then wsum win.toNat l l.length else 0
theorem wsL_ok {l : List Int} {win : Int} (h : wchk l win = 0) : wsL l win = setsOf win.toNat l l.length := if_pos h
theorem wsN_ok {l : List Int} {win : Int} (h : wchk l win = 0) : wsN l win = mc (whit win.toNat l) l.length := if_pos h
theorem wsS_ok {l : List Int} {win : Int} (h : wchk l win = 0) : wsS l win = wsum win.toNat l l.length := if_pos h
theorem wsL_bad {l : List Int} {win : Int} (h : wchk l win ≠ 0) : wsL l win = [] := if_neg h
theorem wsN_bad {l : List Int} {win : Int} (h : wchk l win ≠ 0) : wsN l win = 0 := if_neg h
theorem wsS_bad {l : List Int} {win : Int} (h : wchk l win ≠ 0) : wsS l win = 0 := if_neg h

/-- The bits of a part of the requests. -/
theorem msk_wset {w : Nat} {l : List Int} (hl : allIn l) (k : Nat) : Msk (setN (wset w l k)) (wset w l k) := setN_msk (wset_nodup w l k) (wset_allIn hl k)
theorem setN_wset {w k m : Nat} {l : List Int} (hl : allIn l) (hm : Msk m ((l.take k).drop (k - w))) : m = setN (wset w l k) :=
  msk_unique (msk_same hm fun x => by unfold wset; exact full_mem.symm) (msk_wset hl k)
theorem setN_lt {w : Nat} {l : List Int} (hl : allIn l) (k : Nat) : setN (wset w l k) < 65536 := (msk_wset hl k).1
theorem ones_wset {w : Nat} {l : List Int} (hl : allIn l) (k : Nat) : ones (setN (wset w l k)) = (wset w l k).length := msk_count (msk_wset hl k) (wset_nodup w l k) (wset_allIn hl k)
/-- Whether a page is there, out of the bits. -/
theorem bit_whit {w : Nat} {l : List Int} (hl : allIn l) {k : Nat} (hk : k < l.length) : setN (wset w l k) / 2 ^ (l[k]?.getD 0).toNat % 2 = if whit w l k then 1 else 0 := by
  have hp : 0 ≤ l[k]?.getD 0 ∧ l[k]?.getD 0 < 16 := by rw [List.getElem?_eq_getElem hk]; exact hl _ (List.getElem_mem _)
  have hh := msk_half (msk_wset hl (w := w) k) (i := (l[k]?.getD 0).toNat) (by omega)
  rw [Int.toNat_of_nonneg hp.1] at hh
  unfold whit
  by_cases hin : l[k]?.getD 0 ∈ wset w l k
  · rw [if_pos (by simpa using hin)]; exact hh.2 hin
  · rw [if_neg (by simpa using hin)]
    have : ¬ setN (wset w l k) / 2 ^ (l[k]?.getD 0).toNat % 2 = 1 := fun e => hin (hh.1 e)
    omega
theorem mc_most (f : Nat → Bool) (n : Nat) : mc f n ≤ n := by have := mc_count f n; omega
theorem cnt_most : ∀ j m : Nat, cnt j m ≤ j
  | 0, m => by simp [cnt]
  | j + 1, m => by
    have := cnt_most j m
    have h2 : m / 2 ^ j % 2 < 2 := Nat.mod_lt _ (by omega)
    rw [cnt_step]; omega
theorem setN_zero (w : Nat) (l : List Int) : setN (wset w l 0) = 0 := by rw [wset_zero]; rfl
end Go.Proofs.YtbnhlnjbgimibaaDoor
