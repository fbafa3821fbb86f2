/- Lists alone, for chapter 10: what the document's landlord does, page by page. -/
import Derived.Test.YtedmfehjifknbaaDoorLApart
namespace Go.Proofs.YtedmfehjifknbaaDoor
set_option maxRecDepth 100000
open Go.RowKit Go.Sort

theorem creds_get {st : List (Int × Nat)} {j : Nat} (h : j < st.length) : (creds st)[j]?.getD 0 = ((tenAt st j).2 : Int) := by
  unfold creds
  rw [List.getElem?_map, List.getElem?_eq_getElem h, tenAt_lt h]; rfl
theorem tenants_get {st : List (Int × Nat)} {j : Nat} (h : j < st.length) : (tenants st)[j]?.getD 0 = (tenAt st j).1 := by
  unfold tenants
  rw [List.getElem?_map, List.getElem?_eq_getElem h, tenAt_lt h]; rfl
theorem creds_length (st : List (Int × Nat)) : (creds st).length = st.length := by unfold creds; rw [List.length_map]
theorem tenants_length (st : List (Int × Nat)) : (tenants st).length = st.length := by unfold tenants; rw [List.length_map]
theorem tenAt_in {st : List (Int × Nat)} {j : Nat} (h : j < st.length) : tenAt st j ∈ st := by rw [tenAt_lt h]; exact List.getElem_mem h
theorem take_ten {st : List (Int × Nat)} {j : Nat} (h : j < st.length) : st.take (j+1) = st.take j ++ [tenAt st j] := by rw [List.take_succ_eq_append_getElem h, tenAt_lt h]
theorem least_sorted {st : List (Int × Nat)} (h : st ≠ []) : ((creds st).mergeSort le)[0]?.getD 0 = (leastOf st : Int) := by
  obtain ⟨y, hy, e⟩ := leastOf_mem h
  have hp := List.mergeSort_perm (creds st) le
  have hs := List.pairwise_mergeSort le_trans' le_total' (creds st)
  have hym : (leastOf st : Int) ∈ (creds st).mergeSort le := hp.mem_iff.2 (by rw [← e]; exact List.mem_map.2 ⟨y, hy, rfl⟩)
  cases hm : (creds st).mergeSort le with
  | nil => rw [hm] at hym; cases hym
  | cons a r =>
    rw [hm] at hym hs hp
    have ha : a ∈ creds st := hp.mem_iff.1 (by simp)
    obtain ⟨x, hx, ex⟩ := List.mem_map.1 ha
    have h1 := leastOf_le hx
    have h2 : a ≤ (leastOf st : Int) := by
      rcases List.mem_cons.1 hym with h3 | h3
      · omega
      · have := (List.pairwise_cons.1 hs).1 _ h3
        simpa [le] using this
    show a = _
    omega
theorem again_take {st : List (Int × Nat)} {p : Int} {v j : Nat} (h : j < st.length) : creds (again p v (st.take (j+1))) = creds (again p v (st.take j)) ++ [if (tenAt st j).1 = p then (v : Int) else ((tenAt st j).2 : Int)] := by
  rw [take_ten h]
  unfold creds again
  rw [List.map_append, List.map_append]
  congr 1
  simp only [List.map_cons, List.map_nil]
  split <;> rfl
theorem again_length (p : Int) (v : Nat) (st : List (Int × Nat)) : (creds (again p v st)).length = st.length := by unfold creds again; rw [List.length_map, List.length_map]
/-- The first j, less by d; the first one of d is left out. -/
def outTo (d : Nat) (st : List (Int × Nat)) (j : Nat) : List (Int × Nat) := lessBy d ((st.take j).eraseP fun x => x.2 == d)
def goneTo (d : Nat) (st : List (Int × Nat)) (j : Nat) : Bool := (st.take j).any fun x => x.2 == d
theorem outTo_zero (d : Nat) (st : List (Int × Nat)) : outTo d st 0 = [] := rfl
theorem goneTo_zero (d : Nat) (st : List (Int × Nat)) : goneTo d st 0 = false := rfl
theorem outTo_all (st : List (Int × Nat)) : outTo (leastOf st) st st.length = letOut st := by unfold outTo letOut; rw [List.take_length]
theorem goneTo_succ {d : Nat} {st : List (Int × Nat)} {j : Nat} (h : j < st.length) : goneTo d st (j+1) = (goneTo d st j || ((tenAt st j).2 == d)) := by unfold goneTo; rw [take_ten h, List.any_append]; simp
theorem outTo_skip {d : Nat} {st : List (Int × Nat)} {j : Nat} (h : j < st.length) (hg : goneTo d st j = false) (hd : (tenAt st j).2 = d) : outTo d st (j+1) = outTo d st j := by
  unfold outTo
  rw [take_ten h]
  have hno : ∀ b, b ∈ st.take j → ¬ (fun x : Int × Nat => x.2 == d) b = true := fun b hb => List.any_eq_false.1 hg b hb
  rw [List.eraseP_append_right _ hno, List.eraseP_of_forall_not hno]
  congr 1
  rw [List.eraseP_cons_of_pos (by simpa using hd)]
  simp
theorem outTo_keep {d : Nat} {st : List (Int × Nat)} {j : Nat} (h : j < st.length) (hg : goneTo d st j = true ∨ (tenAt st j).2 ≠ d) : outTo d st (j+1) = outTo d st j ++ [((tenAt st j).1, (tenAt st j).2 - d)] := by
  unfold outTo
  rw [take_ten h]
  have key : (st.take j ++ [tenAt st j]).eraseP (fun x => x.2 == d) = (st.take j).eraseP (fun x => x.2 == d) ++ [tenAt st j] := by
    cases hg2 : goneTo d st j with
    | true =>
      obtain ⟨a, ha, ea⟩ := List.any_eq_true.1 hg2
      exact List.eraseP_append_left (p := fun x : Int × Nat => x.2 == d) ea _ ha
    | false =>
      have hne := hg.resolve_left (by rw [hg2]; simp)
      have hno : ∀ b, b ∈ st.take j → ¬ (fun x : Int × Nat => x.2 == d) b = true := fun b hb => List.any_eq_false.1 hg2 b hb
      rw [List.eraseP_append_right _ hno, List.eraseP_of_forall_not hno, List.eraseP_cons_of_neg (by simpa using hne)]
      rfl
  rw [key]
  unfold lessBy
  rw [List.map_append]; rfl
theorem outTo_length {d : Nat} {st : List (Int × Nat)} (j : Nat) : (outTo d st j).length ≤ j := by
  unfold outTo lessBy
  rw [List.length_map]
  exact Nat.le_trans (List.eraseP_sublist.length_le) (List.length_take_le _ _)
theorem creds_snoc (st : List (Int × Nat)) (x : Int × Nat) : creds (st ++ [x]) = creds st ++ [(x.2 : Int)] := by simp [creds]
theorem tri_lower {w0 w w1 : World} {vp va : Value} {lp la : List Int} (hb : Below w0.heap.size w0 w) (h : Tri w w1 (.slice none 0 0) vp va [] lp la) : Tri w0 w1 (.slice none 0 0) vp va [] lp la :=
  ⟨OwnB.nil _ _, ownI_mono h.p hb.size, ownI_mono h.a hb.size, h.ne, hb.trans (h.below.mono hb.size)⟩
end Go.Proofs.YtedmfehjifknbaaDoor
