/- Lists alone: the store of chapter 1. -/
import Derived.Test.YtkhjpelghlchnabKeep
namespace Go.Proofs.Ytkhjpelghlchnab
open Go.RowKit

/-- The document's store: requests, what is let go of, what is held, how often a page was not there. -/
def play (s : Nat) : List Int → List Int → List Int → Nat → Nat × List Int × Nat
  | [], _, held, n => (n, held, 0)
  | p :: r, out, held, n =>
    if held.contains p then play s r out held n
    else if held.length = s then
      match out with
      | [] => (0, [], 3)
      | o :: out' => if held.contains o then play s r out' (held.erase o ++ [p]) (n + 1) else (0, [], 5)
    else play s r out (held ++ [p]) (n + 1)

theorem play_hit {s k n : Nat} {l out held : List Int} (hk : k < l.length) (h : held.contains (l[k]?.getD 0) = true) :
    play s (l.drop k) out held n = play s (l.drop (k+1)) out held n := by
  rw [List.drop_eq_getElem_cons hk]; rw [List.getElem?_eq_getElem hk] at h; simp only [Option.getD_some] at h
  cases out <;> rw [play, if_pos h]
theorem play_room {s k n : Nat} {l out held : List Int} (hk : k < l.length) (h : held.contains (l[k]?.getD 0) = false) (hs : held.length ≠ s) :
    play s (l.drop k) out held n = play s (l.drop (k+1)) out (held ++ [l[k]?.getD 0]) (n+1) := by
  rw [List.drop_eq_getElem_cons hk]; rw [List.getElem?_eq_getElem hk] at h ⊢; simp only [Option.getD_some] at h ⊢
  cases out <;> rw [play, if_neg (by rw [h]; simp), if_neg hs]
theorem play_shape {s k n : Nat} {l held : List Int} (hk : k < l.length) (h : held.contains (l[k]?.getD 0) = false) (hs : held.length = s) :
    play s (l.drop k) [] held n = (0, [], 3) := by
  rw [List.drop_eq_getElem_cons hk]; rw [List.getElem?_eq_getElem hk] at h; simp only [Option.getD_some] at h
  rw [play, if_neg (by rw [h]; simp), if_pos hs]
theorem play_none {s k n : Nat} {l out held : List Int} {o : Int} (hk : k < l.length) (h : held.contains (l[k]?.getD 0) = false) (hs : held.length = s) (ho : o ∉ held) :
    play s (l.drop k) (o :: out) held n = (0, [], 5) := by
  rw [List.drop_eq_getElem_cons hk]; rw [List.getElem?_eq_getElem hk] at h; simp only [Option.getD_some] at h
  rw [play, if_neg (by rw [h]; simp), if_pos hs]; simp [ho]
theorem play_let {s k n : Nat} {l out held : List Int} {o : Int} (hk : k < l.length) (h : held.contains (l[k]?.getD 0) = false) (hs : held.length = s) (ho : o ∈ held) :
    play s (l.drop k) (o :: out) held n = play s (l.drop (k+1)) out (held.erase o ++ [l[k]?.getD 0]) (n+1) := by
  rw [List.drop_eq_getElem_cons hk]; rw [List.getElem?_eq_getElem hk] at h ⊢; simp only [Option.getD_some] at h ⊢
  rw [play, if_neg (by rw [h]; simp), if_pos hs]; simp [ho]
end Go.Proofs.Ytkhjpelghlchnab
