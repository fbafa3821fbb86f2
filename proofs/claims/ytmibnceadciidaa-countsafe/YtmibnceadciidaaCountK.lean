/- Lists alone, for chapter 20: the heap that counts, as the document has it: outs, roots, and which nodes are here. -/
import Derived.Test.YtmibnceadciidaaCountL
import Derived.Test.YtmibnceadciidaaHeapK
namespace Go.Proofs.Ytmibnceadciidaa

structure KS where
  outs : List (List Int)
  roots : List Int
  here : List Bool
/-- How often a node is pointed to. -/
def KS.count (c : KS) (x : Int) : Nat := c.roots.count x + (c.outs.map fun r => r.count x).sum
def KS.isN (c : KS) (k : Nat) : Bool := c.here[k]?.getD false
def KS.is (c : KS) (x : Int) : Bool := decide (0 ≤ x) && c.isN x.toNat
def KS.visit (c : KS) (k : Nat) : KS := if c.isN k && c.count k == 0 then ⟨c.outs.set k [], c.roots, c.here.set k false⟩ else c
def KS.pass (c : KS) : Nat → KS
  | 0 => c
  | k + 1 => (c.pass k).visit k
def KS.passes (c : KS) : Nat → KS
  | 0 => c
  | n + 1 => (c.passes n).pass (c.passes n).here.length
@[irreducible] def KS.swept (c : KS) : KS := c.passes 13
def KS.row (c : KS) (x : Int) : List Int := c.outs[x.toNat]?.getD []
def KS.putR (c : KS) (x : Int) (r : List Int) : KS := ⟨c.outs.set x.toNat r, c.roots, c.here⟩
/-- What is done: the heap, the number, what is wrong. -/
def KS.doK (c : KS) (kind i j : Int) : KS × Nat × Nat :=
  if kind = 0 then
    if 12 ≤ c.here.length ∨ 12 ≤ c.roots.length then (c, 0, 4) else (⟨c.outs ++ [[]], c.roots ++ [(c.here.length : Int)], c.here ++ [true]⟩, c.here.length, 0)
  else if c.is i = false ∨ (2 < kind ∧ c.is j = false) then (c, 0, 1)
  else if kind = 1 then (if 12 ≤ c.roots.length then (c, 0, 4) else ((⟨c.outs, c.roots ++ [i], c.here⟩ : KS).swept, 0, 0))
  else if kind = 2 then (if i ∈ c.roots then ((⟨c.outs, c.roots.erase i, c.here⟩ : KS).swept, 0, 0) else (c, 0, 5))
  else if kind = 3 then (if 4 ≤ (c.row i).length then (c, 0, 4) else ((c.putR i (c.row i ++ [j])).swept, 0, 0))
  else if kind = 4 then (if j ∈ c.row i then ((c.putR i ((c.row i).erase j)).swept, 0, 0) else (c, 0, 5))
  else (c.swept, 0, 0)

/-- As nodes, pointers and roots. -/
def KS.abs (c : KS) : CSt := ⟨gOf c.outs, c.roots, fun x => c.is x = true⟩
theorem sum_zero {l : List Nat} : l.sum = 0 ↔ ∀ x, x ∈ l → x = 0 := by
  induction l with
  | nil => simp
  | cons a r ih => simp [ih]
theorem count_zero {c : KS} {x : Int} : c.count x = 0 ↔ c.abs.Unp x := by
  unfold KS.count CSt.Unp KS.abs
  rw [Nat.add_eq_zero_iff, List.count_eq_zero, sum_zero]
  refine and_congr Iff.rfl ⟨fun h y hy => ?_, fun h n hn => ?_⟩
  · obtain ⟨_, _, h3, h4⟩ := gOf_mem hy
    have := h _ (List.mem_map.2 ⟨_, h3, rfl⟩)
    rw [List.count_eq_zero] at this
    exact this h4
  · obtain ⟨r, hr, rfl⟩ := List.mem_map.1 hn
    rw [List.count_eq_zero]
    intro hx
    obtain ⟨k, hk, rfl⟩ := List.getElem_of_mem hr
    refine h (k : Int) ?_
    show x ∈ gOf c.outs (k : Int)
    rw [gOf_at, List.getElem?_eq_getElem hk]; exact hx
theorem gOf_set {L : List (List Int)} {k : Nat} {r : List Int} (hk : k < L.length) : gOf (L.set k r) = fun x => if x = (k : Int) then r else gOf L x := by
  funext x
  unfold gOf
  by_cases hx : 0 ≤ x
  · rw [if_pos hx, if_pos hx]
    by_cases e : x = (k : Int)
    · rw [if_pos e, e, Int.toNat_natCast, List.getElem?_set_self hk]; rfl
    · rw [if_neg e, List.getElem?_set_ne (by omega)]
  · rw [if_neg hx, if_neg hx, if_neg (by omega)]
theorem is_set {c : KS} {k : Nat} (hk : k < c.here.length) (o : List (List Int)) (x : Int) : (⟨o, c.roots, c.here.set k false⟩ : KS).is x = true ↔ c.is x = true ∧ x ≠ (k : Int) := by
  unfold KS.is KS.isN
  simp only [Bool.and_eq_true, decide_eq_true_eq]
  by_cases hx : 0 ≤ x
  · by_cases e : x = (k : Int)
    · subst e
      rw [Int.toNat_natCast, List.getElem?_set_self hk]
      simp
    · rw [List.getElem?_set_ne (by omega)]
      simp [hx, e]
  · simp [hx]
/-- As many rows as nodes. -/
def KS.Even (c : KS) : Prop := c.outs.length = c.here.length
theorem is_lt {c : KS} {x : Int} (h : c.is x = true) : 0 ≤ x ∧ x < c.here.length := by
  unfold KS.is KS.isN at h
  simp only [Bool.and_eq_true, decide_eq_true_eq] at h
  refine ⟨h.1, ?_⟩
  refine Decidable.byContradiction fun hn => ?_
  rw [List.getElem?_eq_none (by omega)] at h
  simp at h
theorem isN_is {c : KS} {k : Nat} : c.is (k : Int) = c.isN k := by unfold KS.is; simp
theorem visit_even {c : KS} (h : c.Even) (k : Nat) : (c.visit k).Even ∧ (c.visit k).here.length = c.here.length := by
  unfold KS.visit
  split
  · unfold KS.Even at h ⊢; simp [h]
  · exact ⟨h, rfl⟩
theorem visit_abs {c : KS} (h : c.Even) (k : Nat) : (c.visit k).abs = c.abs.visit (k : Int) := by
  unfold KS.visit CSt.visit
  by_cases hc : c.abs.here (k : Int) ∧ c.abs.Unp (k : Int)
  · have h1 : c.is (k : Int) = true := hc.1
    have hk := (is_lt h1).2
    have hk : k < c.here.length := by omega
    have h2 := count_zero.2 hc.2
    rw [isN_is] at h1
    have ht : (c.isN k && c.count (k : Int) == 0) = true := by rw [h1, h2]; rfl
    rw [if_pos ht, if_pos hc]
    unfold KS.abs CSt.rem
    simp only
    rw [gOf_set (by rw [h]; exact hk)]
    congr 1
    funext x
    exact propext (is_set hk _ x)
  · have ht : (c.isN k && c.count (k : Int) == 0) = false := by
      rw [Bool.eq_false_iff]
      intro ht
      rw [Bool.and_eq_true, beq_iff_eq] at ht
      exact hc ⟨by show c.is (k : Int) = true; rw [isN_is]; exact ht.1, count_zero.1 ht.2⟩
    rw [ht, if_neg (by simp), if_neg hc]
theorem upTo_next (n : Nat) : upTo (n+1) = upTo n ++ [(n : Int)] := by unfold upTo; rw [List.range_succ, List.map_append]; rfl
theorem passC_snoc : ∀ (l : List Int) (c : CSt) (i : Int), c.pass (l ++ [i]) = (c.pass l).visit i
  | [], _, _ => rfl
  | x :: r, c, i => by rw [List.cons_append, CSt.pass, CSt.pass, passC_snoc r]
theorem pass_abs {c : KS} (h : c.Even) : ∀ k, (c.pass k).abs = c.abs.pass (upTo k) ∧ (c.pass k).Even ∧ (c.pass k).here.length = c.here.length
  | 0 => ⟨rfl, h, rfl⟩
  | k + 1 => by
    obtain ⟨h1, h2, h3⟩ := pass_abs h k
    have h4 := visit_even h2 k
    rw [KS.pass, upTo_next, passC_snoc, visit_abs h2, h1]
    exact ⟨rfl, h4.1, h4.2.trans h3⟩
theorem passes_abs {c : KS} (h : c.Even) : ∀ n, (c.passes n).abs = c.abs.passes (upTo c.here.length) n ∧ (c.passes n).Even ∧ (c.passes n).here.length = c.here.length
  | 0 => ⟨rfl, h, rfl⟩
  | n + 1 => by
    obtain ⟨h1, h2, h3⟩ := passes_abs h n
    have h4 := pass_abs h2 (c.passes n).here.length
    rw [KS.passes, CSt.passes, h4.1, h3, h1]
    exact ⟨rfl, by rw [← h3]; exact h4.2.1, by rw [← h3]; exact h4.2.2⟩
theorem visit_len (c : KS) (k : Nat) : (c.visit k).roots = c.roots ∧ ((∀ r, r ∈ c.outs → r.length ≤ 4) → ∀ r, r ∈ (c.visit k).outs → r.length ≤ 4) := by
  unfold KS.visit
  split
  · refine ⟨rfl, fun hr r hm => ?_⟩
    rcases List.mem_or_eq_of_mem_set hm with h1 | h1
    · exact hr r h1
    · subst h1; simp
  · exact ⟨rfl, fun hr => hr⟩
theorem pass_len (c : KS) : ∀ k, (c.pass k).roots = c.roots ∧ ((∀ r, r ∈ c.outs → r.length ≤ 4) → ∀ r, r ∈ (c.pass k).outs → r.length ≤ 4)
  | 0 => ⟨rfl, fun hr => hr⟩
  | k + 1 => by
    have h1 := pass_len c k
    have h2 := visit_len (c.pass k) k
    rw [KS.pass]
    exact ⟨h2.1.trans h1.1, fun hr => h2.2 (h1.2 hr)⟩
theorem passes_len (c : KS) : ∀ n, (c.passes n).roots = c.roots ∧ ((∀ r, r ∈ c.outs → r.length ≤ 4) → ∀ r, r ∈ (c.passes n).outs → r.length ≤ 4)
  | 0 => ⟨rfl, fun hr => hr⟩
  | n + 1 => by
    have h1 := passes_len c n
    have h2 := pass_len (c.passes n) (c.passes n).here.length
    rw [KS.passes]
    exact ⟨h2.1.trans h1.1, fun hr => h2.2 (h1.2 hr)⟩
/-- The same nodes, pointers and roots are the same lists. -/
theorem abs_inj {c d : KS} (hc : c.Even) (hd : d.Even) (hl : c.here.length = d.here.length) (h : c.abs = d.abs) : c = d := by
  have h1 : gOf c.outs = gOf d.outs := congrArg CSt.outs h
  have h2 : c.roots = d.roots := congrArg CSt.roots h
  have h3 : (fun x => c.is x = true) = fun x => d.is x = true := congrArg CSt.here h
  have e1 : c.outs = d.outs := by
    refine List.ext_getElem (by rw [hc, hd, hl]) fun k k1 k2 => ?_
    have := congrFun h1 (k : Int)
    rw [gOf_at, gOf_at, List.getElem?_eq_getElem k1, List.getElem?_eq_getElem k2] at this
    exact this
  have e3 : c.here = d.here := by
    refine List.ext_getElem hl fun k k1 k2 => ?_
    have h4 := congrFun h3 (k : Int)
    simp only [isN_is, KS.isN, List.getElem?_eq_getElem k1, List.getElem?_eq_getElem k2, Option.getD_some] at h4
    rw [Bool.eq_iff_iff]
    exact Eq.to_iff h4
  cases c; cases d
  simp only at e1 h2 e3
  subst e1 h2 e3
  rfl
/-- Swept: what is settled, by taking away nodes that nothing points to. -/
theorem swept_is {c : KS} (h : c.Even) (h12 : c.here.length ≤ 12) : Rems c.abs c.swept.abs ∧ c.swept.abs.Settled ∧ c.swept.Even ∧ c.swept.here.length = c.here.length ∧ c.swept.roots = c.roots ∧ ((∀ r, r ∈ c.outs → r.length ≤ 4) → ∀ r, r ∈ c.swept.outs → r.length ≤ 4) := by
  obtain ⟨h1, h2, h3⟩ := passes_abs h 13
  unfold KS.swept
  rw [h1]
  refine ⟨passesC_rems _ _ _, passesC_settled (upTo_nodup _) _ (fun x hx => upTo_mem.2 (is_lt hx)) (by rw [upTo_length]; omega), h2, h3, (passes_len c 13).1, (passes_len c 13).2⟩
/-- However nodes go: if it is settled it is what the document has. -/
theorem swept_unique {c d : KS} (h : c.Even) (h12 : c.here.length ≤ 12) (hg : c.abs.Good) (hd : d.Even) (hl : d.here.length = c.here.length) (hr : Rems c.abs d.abs) (hs : d.abs.Settled) : d = c.swept := by
  obtain ⟨h1, h2, h3, h4, _⟩ := swept_is h h12
  exact abs_inj hd h3 (by rw [hl, h4]) (rems_unique hg hr h1 hs h2)
theorem swept_settled {c : KS} (h : c.Even) (h12 : c.here.length ≤ 12) (hg : c.abs.Good) (hs : c.abs.Settled) : c.swept = c := (swept_unique h h12 hg h rfl .refl hs).symm
end Go.Proofs.Ytmibnceadciidaa
