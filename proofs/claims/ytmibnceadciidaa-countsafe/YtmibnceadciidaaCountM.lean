/- Lists alone, for chapter 20: what holds of the heap that counts, whatever was done. -/
import Derived.Test.YtmibnceadciidaaCountK
namespace Go.Proofs.Ytmibnceadciidaa

structure KGood (c : KS) : Prop where
  even : c.Even
  few : c.here.length ≤ 12
  roots : c.roots.length ≤ 12
  rows : ∀ r, r ∈ c.outs → r.length ≤ 4
  good : c.abs.Good
  settled : c.abs.Settled
theorem start_good : KGood ⟨[], [], []⟩ :=
  ⟨rfl, by simp, by simp, by simp, ⟨fun x hx => by simp [KS.abs] at hx, fun x y hy => by simp [KS.abs, gOf] at hy⟩, fun x hx => by have := is_lt (c := ⟨[], [], []⟩) hx; simp at this; omega⟩
theorem swept_good {c : KS} (h1 : c.Even) (h2 : c.here.length ≤ 12) (h3 : c.roots.length ≤ 12) (h4 : ∀ r, r ∈ c.outs → r.length ≤ 4) (h5 : c.abs.Good) : KGood c.swept := by
  obtain ⟨a1, a2, a3, a4, a5, a6⟩ := swept_is h1 h2
  exact ⟨a3, by omega, by rw [a5]; exact h3, a6 h4, a1.good h5, a2⟩
theorem row_g {c : KS} {x : Int} (h : 0 ≤ x) : gOf c.outs x = c.row x := by unfold gOf KS.row; rw [if_pos h]
theorem row_len {c : KS} (h : ∀ r, r ∈ c.outs → r.length ≤ 4) (x : Int) : (c.row x).length ≤ 4 := by
  unfold KS.row
  by_cases hx : x.toNat < c.outs.length
  · rw [List.getElem?_eq_getElem hx]; exact h _ (List.getElem_mem hx)
  · rw [List.getElem?_eq_none (by omega)]; simp
theorem put_here (c : KS) (x : Int) (r : List Int) (y : Int) : (c.putR x r).is y = c.is y := rfl
theorem put_even {c : KS} (h : c.Even) (x : Int) (r : List Int) : (c.putR x r).Even := by unfold KS.Even KS.putR at *; simp [h]
theorem put_outs {c : KS} (h : c.Even) {x : Int} (hx : c.is x = true) (r : List Int) : gOf (c.putR x r).outs = fun y => if y = x then r else gOf c.outs y := by
  have h1 := is_lt hx
  unfold KS.putR
  rw [gOf_set (by rw [h]; omega)]
  funext y
  rw [show ((x.toNat : Nat) : Int) = x by omega]
/-- A row written over by pointers to nodes that are here. -/
theorem put_good {c : KS} (h : c.Even) (hg : c.abs.Good) {x : Int} (hx : c.is x = true) {r : List Int} (hr : ∀ y, y ∈ r → c.is y = true) : (c.putR x r).abs.Good := by
  refine ⟨fun y hy => hg.1 y hy, fun y z hz => ?_⟩
  have hz : z ∈ gOf (c.putR x r).outs y := hz
  rw [put_outs h hx] at hz
  have hz2 : z ∈ if y = x then r else gOf c.outs y := hz
  by_cases e : y = x
  · rw [if_pos e] at hz2
    rw [e]
    exact ⟨hx, hr z hz2⟩
  · rw [if_neg e] at hz2
    exact hg.2 y z hz2
theorem put_rows {c : KS} (h : ∀ r, r ∈ c.outs → r.length ≤ 4) {x : Int} {r : List Int} (hr : r.length ≤ 4) : ∀ q, q ∈ (c.putR x r).outs → q.length ≤ 4 := fun q hq => by
  rcases List.mem_or_eq_of_mem_set hq with h1 | h1
  · exact h q h1
  · rw [h1]; exact hr
theorem row_here {c : KS} (hg : c.abs.Good) {x : Int} (hx : c.is x = true) : ∀ y, y ∈ c.row x → c.is y = true := fun y hy => (hg.2 x y (by show y ∈ gOf c.outs x; rw [row_g (is_lt hx).1]; exact hy)).2
theorem make_good {c : KS} (h : KGood c) (h1 : c.here.length < 12) (h2 : c.roots.length < 12) : KGood ⟨c.outs ++ [[]], c.roots ++ [(c.here.length : Int)], c.here ++ [true]⟩ := by
  have his : ∀ x, (⟨c.outs ++ [[]], c.roots ++ [(c.here.length : Int)], c.here ++ [true]⟩ : KS).is x = true ↔ c.is x = true ∨ x = (c.here.length : Int) := fun x => by
    unfold KS.is KS.isN
    simp only [Bool.and_eq_true, decide_eq_true_eq]
    by_cases hx : x.toNat < c.here.length
    · rw [List.getElem?_append_left hx]
      constructor
      · exact fun h => .inl h
      · rintro (h | h)
        · exact h
        · omega
    · rw [List.getElem?_append_right (by omega), List.getElem?_eq_none (show c.here.length ≤ x.toNat by omega)]
      constructor
      · rintro ⟨a, b⟩
        right
        refine Decidable.byContradiction fun hn => ?_
        rw [List.getElem?_eq_none (by simp; omega)] at b
        simp at b
      · rintro (h | h)
        · simp at h
        · subst h; simp
  have hgo : ∀ x, gOf (c.outs ++ [[]]) x = gOf c.outs x := fun x => by
    unfold gOf
    by_cases hx : 0 ≤ x
    · rw [if_pos hx, if_pos hx]
      by_cases hl : x.toNat < c.outs.length
      · rw [List.getElem?_append_left hl]
      · rw [List.getElem?_append_right (by omega), List.getElem?_eq_none (show c.outs.length ≤ x.toNat by omega)]
        cases hq : x.toNat - c.outs.length <;> simp
    · rw [if_neg hx, if_neg hx]
  refine ⟨by have := h.even; unfold KS.Even at *; simp [this], by simp; omega, by simp; omega, fun r hr => ?_, ⟨fun x hx => ?_, fun x y hy => ?_⟩, fun x hx hu => ?_⟩
  · rcases List.mem_append.1 hr with h3 | h3
    · exact h.rows r h3
    · rw [List.mem_singleton] at h3; rw [h3]; simp
  · have hx : x ∈ c.roots ++ [(c.here.length : Int)] := hx
    refine (his x).2 ?_
    rcases List.mem_append.1 hx with h3 | h3
    · exact .inl (h.good.1 x h3)
    · exact .inr (by simpa using h3)
  · have hy : y ∈ gOf (c.outs ++ [[]]) x := hy
    rw [hgo] at hy
    have := h.good.2 x y hy
    exact ⟨(his x).2 (.inl this.1), (his y).2 (.inl this.2)⟩
  · rcases (his x).1 hx with h3 | h3
    · refine h.settled x h3 ⟨fun hr => hu.1 (by show x ∈ c.roots ++ _; exact List.mem_append_left _ hr), fun y hy => hu.2 y ?_⟩
      show x ∈ gOf (c.outs ++ [[]]) y
      rw [hgo]; exact hy
    · exact hu.1 (by show x ∈ c.roots ++ _; rw [h3]; simp)
theorem root_good {c : KS} (h : KGood c) {i : Int} (hi : c.is i = true) (h2 : c.roots.length < 12) : KGood ⟨c.outs, c.roots ++ [i], c.here⟩ := by
  refine ⟨h.even, h.few, by simp; omega, h.rows, ⟨fun x hx => ?_, h.good.2⟩, fun x hx hu => h.settled x hx ⟨fun hr => hu.1 (by show x ∈ c.roots ++ _; exact List.mem_append_left _ hr), hu.2⟩⟩
  have hx : x ∈ c.roots ++ [i] := hx
  rcases List.mem_append.1 hx with h3 | h3
  · exact h.good.1 x h3
  · rw [List.mem_singleton] at h3; rw [h3]; exact hi
theorem link_good {c : KS} (h : KGood c) {i j : Int} (hi : c.is i = true) (hj : c.is j = true) (h4 : (c.row i).length < 4) : KGood (c.putR i (c.row i ++ [j])) := by
  refine ⟨put_even h.even _ _, h.few, h.roots, put_rows h.rows (by simp; omega), put_good h.even h.good hi fun y hy => ?_, fun x hx hu => h.settled x hx ⟨hu.1, fun y hy => ?_⟩⟩
  · rcases List.mem_append.1 hy with h3 | h3
    · exact row_here h.good hi y h3
    · rw [List.mem_singleton] at h3; rw [h3]; exact hj
  · have hu := hu.2 y
    apply hu
    show x ∈ gOf (c.putR i (c.row i ++ [j])).outs y
    rw [put_outs h.even hi]
    simp only
    split
    · rename_i e
      subst e
      have hy : x ∈ gOf c.outs y := hy
      rw [row_g (is_lt hi).1] at hy
      exact List.mem_append_left _ hy
    · exact hy
/-- Whatever is done. -/
theorem do_good {c : KS} (h : KGood c) (kind i j : Int) : KGood (c.doK kind i j).1 := by
  unfold KS.doK
  split
  · split
    · exact h
    · rename_i hn; exact make_good h (by omega) (by omega)
  split
  · exact h
  rename_i _ hn
  have hi : c.is i = true := by
    cases e : c.is i
    · exact absurd (.inl e) hn
    · rfl
  split
  · split
    · exact h
    · rename_i h2
      have hk := root_good h hi (by omega)
      rw [swept_settled hk.even hk.few hk.good hk.settled]; exact hk
  split
  · split
    · exact swept_good h.even h.few (by have := List.length_erase_le (a := i) (l := c.roots); have := h.roots; show (c.roots.erase i).length ≤ 12; omega) h.rows ⟨fun x hx => h.good.1 x (List.mem_of_mem_erase hx), h.good.2⟩
    · exact h
  split
  · rename_i h3
    have hj : c.is j = true := by
      cases e : c.is j
      · exact absurd (.inr ⟨by omega, e⟩) hn
      · rfl
    split
    · exact h
    · rename_i h2
      have hk := link_good h hi hj (by omega)
      rw [swept_settled hk.even hk.few hk.good hk.settled]; exact hk
  split
  · split
    · refine swept_good (put_even h.even _ _) h.few h.roots (put_rows h.rows ?_) (put_good h.even h.good hi fun y hy => row_here h.good hi y (List.mem_of_mem_erase hy))
      have := List.length_erase_le (a := j) (l := c.row i)
      have := row_len h.rows i
      omega
    · exact h
  · exact swept_good h.even h.few h.roots h.rows h.good
theorem do_len {c : KS} (h : KGood c) (kind i j : Int) : c.here.length ≤ (c.doK kind i j).1.here.length := by
  have key : ∀ d : KS, d.Even → d.here = c.here → c.here.length ≤ d.swept.here.length := fun d hd he => by
    rw [(swept_is hd (by rw [he]; exact h.few)).2.2.2.1, he]; exact Nat.le_refl _
  unfold KS.doK
  repeat' split
  all_goals first
    | exact Nat.le_refl _
    | (simp; done)
    | exact key _ h.even rfl
    | exact key _ (put_even h.even _ _) rfl
/-- Some steps, one behind the other. -/
def KS.run (c : KS) : List (Int × Int × Int) → KS
  | [] => c
  | (k, i, j) :: r => ((c.doK k i j).1).run r
theorem run_good : ∀ {l : List (Int × Int × Int)} {c : KS}, KGood c → KGood (c.run l)
  | [], _, h => h
  | (k, i, j) :: r, _, h => run_good (l := r) (do_good h k i j)

/-- CountTrue: what is here is pointed to, what isn't is not. -/
theorem good_count {c : KS} (h : KGood c) (x : Int) : 0 < c.count x ↔ c.is x = true := by
  constructor
  · intro hc
    have : ¬ c.abs.Unp x := fun hu => by rw [count_zero.2 hu] at hc; omega
    refine Classical.byContradiction fun hn => this ⟨fun hr => hn (h.good.1 x hr), fun y hy => hn (h.good.2 y x hy).2⟩
  · intro hx
    refine Nat.pos_of_ne_zero fun h0 => h.settled x hx (count_zero.1 h0)
/-- It is a heap as chapter 17 has it. -/
theorem good_fine {c : KS} (h : KGood c) : FineH c.outs c.roots := by
  have hb : ∀ x, c.is x = true → 0 ≤ x ∧ x < c.outs.length := fun x hx => by have := is_lt hx; rw [h.even]; exact this
  refine ⟨by rw [h.even]; exact h.few, h.roots, fun x hx => hb x (h.good.1 x hx), h.rows, fun r hr x hx => ?_⟩
  obtain ⟨k, hk, rfl⟩ := List.getElem_of_mem hr
  refine hb x (h.good.2 (k : Int) x ?_).2
  show x ∈ gOf c.outs (k : Int)
  rw [gOf_at, List.getElem?_eq_getElem hk]; exact hx
/-- CountSafe: what can be come to is here; and where there are no rings nothing else is. -/
theorem good_safe {c : KS} (h : KGood c) {x : Int} (hx : Come (gOf c.outs) c.roots x) : c.is x = true := good_come h.good hx
theorem good_all {c : KS} (h : KGood c) (hr : ∀ x, ¬ Ring (gOf c.outs) x) {x : Int} (hx : c.is x = true) : Come (gOf c.outs) c.roots x :=
  settled_come h.good h.settled (nodes := upTo c.here.length) (fun _ hx => upTo_mem.2 (is_lt hx)) hr hx
/-- CountBack: a root laid and dropped. -/
theorem back_root {c : KS} (h : KGood c) (i : Int) : (⟨c.outs, (c.roots ++ [i]).erase i, c.here⟩ : KS).swept = ⟨c.outs, (c.roots ++ [i]).erase i, c.here⟩ := by
  have hp : ((c.roots ++ [i]).erase i).Perm c.roots := by
    have h1 : (c.roots ++ [i]).Perm (i :: c.roots) := List.perm_append_singleton i c.roots
    have h2 := h1.erase i
    rwa [List.erase_cons_head] at h2
  have hm : ∀ x, x ∈ (c.roots ++ [i]).erase i ↔ x ∈ c.roots := fun x => hp.mem_iff
  refine swept_settled h.even h.few ⟨fun x hx => h.good.1 x ((hm x).1 hx), h.good.2⟩ fun x hx hu => h.settled x hx ⟨fun hr => hu.1 ((hm x).2 hr), hu.2⟩
/-- .. and a pointer. -/
theorem back_link {c : KS} (h : KGood c) {i j : Int} (hi : c.is i = true) : (c.putR i ((c.row i ++ [j]).erase j)).swept = c.putR i ((c.row i ++ [j]).erase j) := by
  have hp : ((c.row i ++ [j]).erase j).Perm (c.row i) := by
    have h1 : (c.row i ++ [j]).Perm (j :: c.row i) := List.perm_append_singleton j _
    have h2 := h1.erase j
    rwa [List.erase_cons_head] at h2
  have hm : ∀ x, x ∈ (c.row i ++ [j]).erase j ↔ x ∈ c.row i := fun x => hp.mem_iff
  refine swept_settled (put_even h.even _ _) h.few (put_good h.even h.good hi fun y hy => row_here h.good hi y ((hm y).1 hy)) fun x hx hu => h.settled x hx ⟨hu.1, fun y hy => hu.2 y ?_⟩
  show x ∈ gOf (c.putR i ((c.row i ++ [j]).erase j)).outs y
  rw [put_outs h.even hi]
  simp only
  split
  · rename_i e
    subst e
    have hy : x ∈ gOf c.outs y := hy
    rw [row_g (is_lt hi).1] at hy
    exact (hm x).2 hy
  · exact hy
theorem back_same {l : List Int} {j : Int} (h : j ∉ l) : (l ++ [j]).erase j = l := by
  rw [List.erase_append_right _ h]; simp
/-- A root dropped. -/
def KS.drop (c : KS) (i : Int) : KS := (⟨c.outs, c.roots.erase i, c.here⟩ : KS).swept
theorem drop_do {c : KS} (h : KGood c) {i : Int} (hi : i ∈ c.roots) (j : Int) : c.doK 2 i j = (c.drop i, 0, 0) := by
  have h1 : c.is i = true := h.good.1 i hi
  unfold KS.doK KS.drop
  rw [if_neg (by decide), if_neg (by rw [h1]; simp), if_neg (by decide), if_pos rfl, if_pos hi]
theorem erase_good {c : KS} (h : KGood c) (i : Int) : (⟨c.outs, c.roots.erase i, c.here⟩ : KS).abs.Good := ⟨fun x hx => h.good.1 x (List.mem_of_mem_erase hx), h.good.2⟩
theorem drop_good {c : KS} (h : KGood c) (i : Int) : KGood (c.drop i) :=
  swept_good h.even h.few (by have := List.length_erase_le (a := i) (l := c.roots); have := h.roots; show (c.roots.erase i).length ≤ 12; omega) h.rows (erase_good h i)
theorem drop_roots {c : KS} (h : KGood c) (i : Int) : (c.drop i).roots = c.roots.erase i := (swept_is (c := ⟨c.outs, c.roots.erase i, c.here⟩) h.even h.few).2.2.2.2.1
theorem come_sub {g g' : Int → List Int} {R R' : List Int} (hR : ∀ x, x ∈ R → x ∈ R') (hg : ∀ x y, y ∈ g x → y ∈ g' x) {x : Int} (h : Come g R x) : Come g' R' x := by
  induction h with
  | root h1 => exact .root (hR _ h1)
  | step _ h2 ih => exact .step ih (hg _ _ h2)
/-- Rings stay, and there are no new ones. -/
theorem drop_ring {c : KS} (h : KGood c) (i : Int) : (∃ x, Ring (gOf (c.drop i).outs) x) ↔ ∃ x, Ring (gOf c.outs) x := by
  have hs := swept_is (c := ⟨c.outs, c.roots.erase i, c.here⟩) h.even h.few
  have hg := erase_good h i
  have ho : ∀ x, ((c.drop i).is x = true → gOf (c.drop i).outs x = gOf c.outs x) ∧ (¬ (c.drop i).is x = true → c.is x = true → gOf (c.drop i).outs x = []) := fun x => hs.1.outs
  have hG := drop_good h i
  constructor
  · rintro ⟨x, hx⟩
    refine ⟨x, ?_⟩
    have hsub : ∀ u y, y ∈ gOf (c.drop i).outs u → y ∈ gOf c.outs u := fun u y hy => by
      have hu := (hG.good.2 u y hy).1
      rwa [(ho u).1 hu] at hy
    exact come_sub (hsub x) hsub hx
  · rintro ⟨x, hx⟩
    have hheld : (c.drop i).abs.Held (Ring (gOf c.outs)) := hs.1.held (ring_held hg)
    classical
    have hmem : ∀ y, Ring (gOf c.outs) y → y ∈ (upTo c.here.length).filter fun y => decide (Ring (gOf c.outs) y) := fun y hy =>
      List.mem_filter.2 ⟨upTo_mem.2 (is_lt ((ring_held h.good) y hy).1), by simpa using hy⟩
    obtain ⟨y, _, hy⟩ := ring_of (g := gOf (c.drop i).outs) (S := (upTo c.here.length).filter fun y => decide (Ring (gOf c.outs) y)) (fun e => by have := hmem x hx; rw [e] at this; simp at this) fun y hy => by
      have hy : Ring (gOf c.outs) y := by simpa using (List.mem_filter.1 hy).2
      obtain ⟨z, hz, hyz, _⟩ := hy.from
      exact ⟨z, hmem z hz, by rw [(ho z).1 (hheld z hz).1]; exact hyz⟩
    exact ⟨y, hy⟩
/-- Roots dropped one behind the other. -/
def KS.drops (c : KS) : List Int → KS
  | [] => c
  | i :: r => (c.drop i).drops r
theorem drops_snoc : ∀ (l : List Int) (c : KS) (i : Int), c.drops (l ++ [i]) = (c.drops l).drop i
  | [], _, _ => rfl
  | x :: r, c, i => by rw [List.cons_append, KS.drops, KS.drops, drops_snoc r]
theorem drops_good {c : KS} (h : KGood c) : ∀ (l m : List Int), c.roots.Perm (l ++ m) → KGood (c.drops l) ∧ (c.drops l).roots.Perm m ∧ ((∃ x, Ring (gOf (c.drops l).outs) x) ↔ ∃ x, Ring (gOf c.outs) x)
  | [], m, hp => ⟨h, hp, Iff.rfl⟩
  | i :: r, m, hp => by
    have hp2 : (c.drop i).roots.Perm (r ++ m) := by
      rw [drop_roots h]
      have := hp.erase i
      rwa [List.cons_append, List.erase_cons_head] at this
    obtain ⟨h1, h2, h3⟩ := drops_good (drop_good h i) r m hp2
    exact ⟨h1, h2, h3.trans (drop_ring h i)⟩
/-- CountEmpty: without roots just what is in rings, or what they come to, is here. -/
theorem good_empty {c : KS} (h : KGood c) (hr : c.roots = []) : (∀ x, c.is x = false) ↔ ∀ x, ¬ Ring (gOf c.outs) x := by
  constructor
  · intro hn x hx
    have := ((ring_held h.good) x hx).1
    have h2 : c.is x = true := this
    rw [hn x] at h2
    cases h2
  · intro hn x
    cases e : c.is x
    · rfl
    · exfalso
      have := good_all h hn e
      rw [hr] at this
      exact Come.least (C := fun _ => False) (fun x hx => by simp at hx) (fun _ _ hx _ => hx) this
end Go.Proofs.Ytmibnceadciidaa
