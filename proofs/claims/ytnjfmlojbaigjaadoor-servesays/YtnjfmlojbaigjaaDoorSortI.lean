/- slices.Sort at a row of numbers of one's own, out of the library's contract. (Run holds the same: not both in one seat.) -/
import Derived.Test.YtnjfmlojbaigjaaDoorBools
import Derived.Test.YtnjfmlojbaigjaaDoorShelfSort
namespace Go.Proofs.YtnjfmlojbaigjaaDoor
open Go.RowKit Go.Sort

theorem sort_any (base : Nat) (v : Value) (l : List Int) (w : World) (hown : OwnI w base v l) (hl : l.length ≤ 40) :
    Calls Tryd.prog 46 #[v] w fun e w' => e = .returned (.tuple #[]) ∧ OwnI w' base v (l.mergeSort le) ∧ w.grownBy w' v.ownBlock := by
  by_cases h0 : l = []
  · subst h0
    obtain ⟨ao, cap, rfl⟩ := hown.form
    refine (Tryd.slices_Sort_int_none ao cap w).mono ?_
    rintro e w' ⟨rfl, hw⟩
    subst hw
    exact ⟨rfl, by simpa using hown, World.grownBy.refl _ _⟩
  · obtain ⟨g, cap, cur, rfl, hb, hgs, hg, hn, hm, hs, ht⟩ := hown.block h0
    refine (Tryd.slices_Sort_int g 0 cap l w (own_holds hown rfl) hgs (by omega)).mono ?_
    rintro e w' ⟨rfl, q, os, hw⟩
    have hlen : (l.mergeSort le).length = l.length := List.length_mergeSort _
    have R := own_put (q := q) (os := os) (m := l.length) hown hlen (by omega)
    rw [List.take_of_length_le (by omega)] at R
    subst hw
    exact ⟨rfl, R.1, R.2⟩
end Go.Proofs.YtnjfmlojbaigjaaDoor
