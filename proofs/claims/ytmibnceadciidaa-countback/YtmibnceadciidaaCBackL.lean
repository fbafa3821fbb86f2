/- Lists alone, for chapter 20's CountBack: what is done and undone. -/
import Derived.Test.YtmibnceadciidaaCHere
namespace Go.Proofs.Ytmibnceadciidaa

theorem hereM_congr {c d : KS} (h : d.here = c.here) : ∀ k, hereM d k = hereM c k
  | 0 => rfl
  | k + 1 => by unfold hereM KS.isN; rw [h, hereM_congr h k]
theorem hereB_congr {c d : KS} (h : d.here = c.here) : hereB d = hereB c := by unfold hereB; rw [h, hereM_congr h]
theorem back1 {c : KS} (h : KGood c) (i j : Int) : (c.doK 1 i j = (c, 0, 1) ∨ c.doK 1 i j = (c, 0, 4)) ∨ ∃ r d, c.doK 1 i j = (r, 0, 0) ∧ r.doK 2 i j = (d, 0, 0) ∧ KGood r ∧ KGood d ∧ d.outs = c.outs ∧ d.here = c.here ∧ d.roots.length = c.roots.length := by
  have e1 : c.doK 1 i j = if c.is i = false ∨ (2 < (1 : Int) ∧ c.is j = false) then (c, 0, 1) else if 12 ≤ c.roots.length then (c, 0, 4) else ((⟨c.outs, c.roots ++ [i], c.here⟩ : KS).swept, 0, 0) := by
    unfold KS.doK
    rw [if_neg (by decide), if_pos rfl]
  by_cases hi : c.is i = true
  · have hn : ¬ (c.is i = false ∨ (2 < (1 : Int) ∧ c.is j = false)) := by rintro (e | e); rw [hi] at e; cases e; omega
    rw [if_neg hn] at e1
    by_cases h12 : 12 ≤ c.roots.length
    · rw [if_pos h12] at e1
      exact .inl (.inr e1)
    · rw [if_neg h12] at e1
      have hk := root_good h hi (by omega)
      rw [swept_settled hk.even hk.few hk.good hk.settled] at e1
      have hm : i ∈ (⟨c.outs, c.roots ++ [i], c.here⟩ : KS).roots := by show i ∈ c.roots ++ [i]; simp
      have e2 := drop_do hk hm j
      have e3 : (⟨c.outs, c.roots ++ [i], c.here⟩ : KS).drop i = ⟨c.outs, (c.roots ++ [i]).erase i, c.here⟩ := back_root h i
      rw [e3] at e2
      refine .inr ⟨_, _, e1, e2, hk, by rw [← e3]; exact drop_good hk i, rfl, rfl, ?_⟩
      show ((c.roots ++ [i]).erase i).length = c.roots.length
      rw [List.length_erase_of_mem (by simp)]; simp
  · have hi : c.is i = false := by cases e : c.is i; rfl; exact absurd e hi
    rw [if_pos (.inl hi)] at e1
    exact .inl (.inl e1)
theorem putR_row {c : KS} {x : Int} {r : List Int} (h : c.Even) (hx : c.is x = true) : (c.putR x r).row x = r := by
  have h1 := is_lt hx
  unfold KS.row KS.putR
  rw [List.getElem?_set_self (by rw [h]; omega)]; rfl
theorem putR_same {c : KS} {x : Int} (h : c.Even) (hx : c.is x = true) : (c.putR x (c.row x)).outs = c.outs := by
  have h1 := is_lt hx
  unfold KS.row KS.putR
  have h2 : x.toNat < c.outs.length := by rw [h]; omega
  rw [List.getElem?_eq_getElem h2]
  exact List.set_getElem_self h2
theorem back2 {c : KS} (h : KGood c) (i j : Int) : (c.doK 3 i j = (c, 0, 1) ∨ c.doK 3 i j = (c, 0, 4)) ∨ ∃ r d, c.is i = true ∧ c.doK 3 i j = (r, 0, 0) ∧ r.doK 4 i j = (d, 0, 0) ∧ KGood r ∧ KGood d ∧ d.here = c.here ∧ (j ∉ c.row i → d.outs = c.outs) := by
  have e1 : c.doK 3 i j = if c.is i = false ∨ (2 < (3 : Int) ∧ c.is j = false) then (c, 0, 1) else if 4 ≤ (c.row i).length then (c, 0, 4) else ((c.putR i (c.row i ++ [j])).swept, 0, 0) := by
    unfold KS.doK
    rw [if_neg (show ¬ (3 : Int) = 0 by decide), if_neg (show ¬ (3 : Int) = 1 by decide), if_neg (show ¬ (3 : Int) = 2 by decide), if_pos rfl]
  by_cases hn : c.is i = false ∨ (2 < (3 : Int) ∧ c.is j = false)
  · rw [if_pos hn] at e1
    exact .inl (.inl e1)
  rw [if_neg hn] at e1
  have hi : c.is i = true := by
    cases e : c.is i
    · exact absurd (.inl e) hn
    · rfl
  have hj : c.is j = true := by
    cases e : c.is j
    · exact absurd (.inr ⟨by omega, e⟩) hn
    · rfl
  by_cases h4 : 4 ≤ (c.row i).length
  · rw [if_pos h4] at e1
    exact .inl (.inr e1)
  rw [if_neg h4] at e1
  have hk := link_good h hi hj (by omega)
  rw [swept_settled hk.even hk.few hk.good hk.settled] at e1
  have hrow : (c.putR i (c.row i ++ [j])).row i = c.row i ++ [j] := putR_row h.even hi
  have hput : (c.putR i (c.row i ++ [j])).putR i ((c.row i ++ [j]).erase j) = c.putR i ((c.row i ++ [j]).erase j) := by
    unfold KS.putR; simp only [List.set_set]
  have e2 : (c.putR i (c.row i ++ [j])).doK 4 i j = (c.putR i ((c.row i ++ [j]).erase j), 0, 0) := by
    have hn2 : ¬ ((c.putR i (c.row i ++ [j])).is i = false ∨ (2 < (4 : Int) ∧ (c.putR i (c.row i ++ [j])).is j = false)) := by
      rw [put_here, put_here]
      rintro (e | e)
      · rw [hi] at e; cases e
      · rw [hj] at e; exact Bool.noConfusion e.2
    unfold KS.doK
    rw [if_neg (show ¬ (4 : Int) = 0 by decide), if_neg hn2, if_neg (show ¬ (4 : Int) = 1 by decide), if_neg (show ¬ (4 : Int) = 2 by decide), if_neg (show ¬ (4 : Int) = 3 by decide), if_pos rfl, hrow, if_pos (by simp), hput, back_link h hi]
  have hg : KGood (c.putR i ((c.row i ++ [j]).erase j)) := by have := do_good hk 4 i j; rw [e2] at this; exact this
  refine .inr ⟨_, _, hi, e1, e2, hk, hg, rfl, fun hnj => ?_⟩
  rw [back_same hnj]
  exact putR_same h.even hi
end Go.Proofs.Ytmibnceadciidaa
