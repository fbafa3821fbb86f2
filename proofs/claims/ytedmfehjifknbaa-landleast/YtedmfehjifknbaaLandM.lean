/- Numbers, for chapter 10: what is paid is no more than so much. -/
import Derived.Test.YtedmfehjifknbaaLRun
import Derived.Test.YtedmfehjifknbaaLandY
namespace Go.Proofs.Ytedmfehjifknbaa

theorem chkC_same {l c : List Int} {s t : Int} (hs : 1 ≤ s ∧ s ≤ 8) (ht : 1 ≤ t ∧ t ≤ 8) : chkC l c s = chkC l c t := by
  have h1 : ¬ (s < 1 ∨ 8 < s) := by omega
  have h2 : ¬ (t < 1 ∨ 8 < t) := by omega
  unfold chkC
  rw [if_neg h1, if_neg h2]
theorem lpaid_most {s : Nat} {c l : List Int} {x : Int} (F : FineC l c x) : lpaid s (cf c) l l.length ≤ 800 := by
  have := lpaid_le (s := s) (f := cf c) (l := l) (cf_le F) l.length
  have := F.reqs
  omega
theorem least_most {s : Nat} {c l : List Int} {x : Int} (F : FineC l c x) (hs : 1 ≤ s) {y : Nat} (h : IsLeast s (cf c) l y) : y ≤ 800 := Nat.le_trans (least_land hs h) (lpaid_most F)

end Go.Proofs.Ytedmfehjifknbaa
