/- Lists alone, for chapter 20: nodes that nothing points to are gone, and those that only they pointed to; whatever the order. -/
import Derived.Test.YtmibnceadciidaaGraphM
namespace Go.Proofs.Ytmibnceadciidaa

structure CSt where
  outs : Int → List Int
  roots : List Int
  here : Int → Prop
/-- Roots and pointers are to nodes that are here, and from such. -/
def CSt.Good (c : CSt) : Prop := (∀ x, x ∈ c.roots → c.here x) ∧ ∀ x y, y ∈ c.outs x → c.here x ∧ c.here y
/-- Nothing points to a node. -/
def CSt.Unp (c : CSt) (x : Int) : Prop := x ∉ c.roots ∧ ∀ y, x ∉ c.outs y
def CSt.Settled (c : CSt) : Prop := ∀ x, c.here x → ¬ c.Unp x
def CSt.rem (c : CSt) (x : Int) : CSt := ⟨fun y => if y = x then [] else c.outs y, c.roots, fun y => c.here y ∧ y ≠ x⟩
inductive Rems : CSt → CSt → Prop
  | refl {c : CSt} : Rems c c
  | step {c a : CSt} {x : Int} : Rems c a → a.here x → a.Unp x → Rems c (a.rem x)
/-- Nodes each of which a root points to, or one of them. -/
def CSt.Held (c : CSt) (S : Int → Prop) : Prop := ∀ x, S x → c.here x ∧ (x ∈ c.roots ∨ ∃ y, S y ∧ x ∈ c.outs y)
theorem rem_good {c : CSt} {x : Int} (h : c.Good) (hu : c.Unp x) : (c.rem x).Good := by
  refine ⟨fun y hy => ⟨h.1 y hy, fun e => hu.1 (e ▸ hy)⟩, fun y z hz => ?_⟩
  unfold CSt.rem at hz
  simp only at hz
  split at hz
  · simp at hz
  · rename_i hne
    have := h.2 y z hz
    exact ⟨⟨this.1, hne⟩, this.2, fun e => hu.2 y (e ▸ hz)⟩
theorem rem_held {c : CSt} {x : Int} {S : Int → Prop} (h : c.Held S) (hu : c.Unp x) : (c.rem x).Held S := fun y hy => by
  have hne : ∀ z, S z → z ≠ x := fun z hz e => by
    subst e
    rcases (h z hz).2 with h1 | ⟨w, _, h1⟩
    · exact hu.1 h1
    · exact hu.2 w h1
  obtain ⟨h1, h2⟩ := h y hy
  refine ⟨⟨h1, hne y hy⟩, ?_⟩
  rcases h2 with h2 | ⟨z, hz, h2⟩
  · exact .inl h2
  · refine .inr ⟨z, hz, ?_⟩
    show y ∈ if z = x then [] else c.outs z
    rw [if_neg (hne z hz)]; exact h2
theorem Rems.good {c a : CSt} (h : Rems c a) (hc : c.Good) : a.Good := by
  induction h with
  | refl => exact hc
  | step _ _ hu ih => exact rem_good ih hu
theorem Rems.held {c a : CSt} (h : Rems c a) {S : Int → Prop} (hS : c.Held S) : a.Held S := by
  induction h with
  | refl => exact hS
  | step _ _ hu ih => exact rem_held ih hu
theorem Rems.roots {c a : CSt} (h : Rems c a) : a.roots = c.roots := by
  induction h with
  | refl => rfl
  | step _ _ _ ih => exact ih
theorem Rems.sub {c a : CSt} (h : Rems c a) {x : Int} (hx : a.here x) : c.here x := by
  induction h with
  | refl => exact hx
  | step _ _ _ ih => exact ih hx.1
theorem Rems.outs {c a : CSt} (h : Rems c a) {x : Int} : (a.here x → a.outs x = c.outs x) ∧ (¬ a.here x → c.here x → a.outs x = []) := by
  induction h with
  | refl => exact ⟨fun _ => rfl, fun h1 h2 => absurd h2 h1⟩
  | @step a y _ _ _ ih =>
    refine ⟨fun hx => ?_, fun hx hc => ?_⟩
    · show (if x = y then [] else a.outs x) = _
      rw [if_neg hx.2]; exact ih.1 hx.1
    · show (if x = y then [] else a.outs x) = []
      by_cases e : x = y
      · rw [if_pos e]
      · rw [if_neg e]
        exact ih.2 (fun h => hx ⟨h, e⟩) hc
theorem good_none {c : CSt} (h : c.Good) {x : Int} (hx : ¬ c.here x) : c.outs x = [] :=
  List.eq_nil_iff_forall_not_mem.2 fun y hy => hx (h.2 x y hy).1
theorem settled_held {c : CSt} (h : c.Good) (hs : c.Settled) : c.Held c.here := fun x hx => by
  refine ⟨hx, Classical.byContradiction fun hn => hs x hx ⟨fun h1 => hn (.inl h1), fun y hy => hn (.inr ⟨y, (h.2 y x hy).1, hy⟩)⟩⟩
/-- However nodes go, the same are left. -/
theorem rems_unique {c a b : CSt} (hc : c.Good) (ha : Rems c a) (hb : Rems c b) (sa : a.Settled) (sb : b.Settled) : a = b := by
  have key : ∀ {u v : CSt}, Rems c u → Rems c v → u.Settled → ∀ x, u.here x → v.here x := fun {u v} hu hv su x hx => by
    have h1 : u.Held u.here := settled_held (hu.good hc) su
    have h2 : c.Held u.here := fun y hy => by
      obtain ⟨_, h3⟩ := h1 y hy
      refine ⟨hu.sub hy, ?_⟩
      rcases h3 with h3 | ⟨z, hz, h3⟩
      · exact .inl (hu.roots ▸ h3)
      · exact .inr ⟨z, hz, by rw [← hu.outs.1 hz]; exact h3⟩
    exact (hv.held h2 x hx).1
  have hh : a.here = b.here := funext fun x => propext ⟨key ha hb sa x, key hb ha sb x⟩
  have ho : a.outs = b.outs := funext fun x => by
    by_cases hx : a.here x
    · rw [ha.outs.1 hx, hb.outs.1 (hh ▸ hx)]
    · rw [good_none (ha.good hc) hx, good_none (hb.good hc) (hh ▸ hx)]
  have hr : a.roots = b.roots := by rw [ha.roots, hb.roots]
  cases a; cases b
  simp only at hh ho hr
  subst hh ho hr
  rfl
theorem Rems.trans {a b c : CSt} (h1 : Rems a b) (h2 : Rems b c) : Rems a c := by
  induction h2 with
  | refl => exact h1
  | step _ hx hu ih => exact .step ih hx hu

open Classical in
/-- One look at a node. -/
noncomputable def CSt.visit (c : CSt) (i : Int) : CSt := if c.here i ∧ c.Unp i then c.rem i else c
noncomputable def CSt.pass (c : CSt) : List Int → CSt
  | [] => c
  | i :: r => (c.visit i).pass r
noncomputable def CSt.passes (c : CSt) (nodes : List Int) : Nat → CSt
  | 0 => c
  | n + 1 => (c.passes nodes n).pass nodes
theorem visit_rems (c : CSt) (i : Int) : Rems c (c.visit i) := by
  unfold CSt.visit
  split
  · rename_i h; exact .step .refl h.1 h.2
  · exact .refl
theorem passC_rems : ∀ (l : List Int) (c : CSt), Rems c (c.pass l)
  | [], _ => .refl
  | i :: r, c => (visit_rems c i).trans (passC_rems r (c.visit i))
theorem passesC_rems (c : CSt) (nodes : List Int) : ∀ n, Rems c (c.passes nodes n)
  | 0 => .refl
  | n + 1 => (passesC_rems c nodes n).trans (passC_rems nodes _)
open Classical in
/-- How many of the nodes are here. -/
noncomputable def CSt.many (c : CSt) (nodes : List Int) : Nat := (nodes.filter fun x => decide (c.here x)).length
theorem many_sub {a b : CSt} {nodes : List Int} (hn : nodes.Nodup) (h : ∀ x, b.here x → a.here x) : b.many nodes ≤ a.many nodes := by
  unfold CSt.many
  refine length_le_of_subset (hn.filter _) fun p hp => ?_
  rw [List.mem_filter] at hp ⊢
  exact ⟨hp.1, by simpa using h p (by simpa using hp.2)⟩
theorem many_less {a b : CSt} {nodes : List Int} (hn : nodes.Nodup) (h : ∀ x, b.here x → a.here x) {i : Int} (hi : i ∈ nodes) (h1 : a.here i) (h2 : ¬ b.here i) : b.many nodes + 1 ≤ a.many nodes := by
  unfold CSt.many
  classical
  have hm : i ∈ nodes.filter fun x => decide (a.here x) := List.mem_filter.2 ⟨hi, by simpa using h1⟩
  have := length_le_of_subset (B := (nodes.filter fun x => decide (a.here x)).erase i) (hn.filter fun x => decide (b.here x)) fun p hp => by
    rw [List.mem_filter] at hp
    have hb : b.here p := by simpa using hp.2
    have hne : p ≠ i := fun e => h2 (e ▸ hb)
    rw [List.mem_erase_of_ne hne]
    exact List.mem_filter.2 ⟨hp.1, by simpa using h p hb⟩
  rw [List.length_erase_of_mem hm] at this
  have := List.length_pos_of_mem hm
  omega
/-- A pass takes something away, or there is nothing to take. -/
theorem passC_less {nodes : List Int} (hn : nodes.Nodup) : ∀ (l : List Int) (c : CSt), (∀ x, x ∈ l → x ∈ nodes) → (c.pass l = c ∧ ∀ i, i ∈ l → ¬ (c.here i ∧ c.Unp i)) ∨ (c.pass l).many nodes + 1 ≤ c.many nodes
  | [], c, _ => .inl ⟨rfl, fun i hi => by simp at hi⟩
  | i :: r, c, hl => by
    by_cases h : c.here i ∧ c.Unp i
    · right
      have e : c.visit i = c.rem i := by unfold CSt.visit; rw [if_pos h]
      rw [CSt.pass, e]
      have h1 := many_less (a := c) (b := c.rem i) hn (fun x hx => hx.1) (hl i (by simp)) h.1 (fun hx => hx.2 rfl)
      have h2 := many_sub (a := c.rem i) (b := (c.rem i).pass r) hn fun x hx => (passC_rems r (c.rem i)).sub hx
      omega
    · have e : c.visit i = c := by unfold CSt.visit; rw [if_neg h]
      rw [CSt.pass, e]
      rcases passC_less hn r c fun x hx => hl x (by simp [hx]) with ⟨h1, h2⟩ | h1
      · refine .inl ⟨h1, fun j hj => ?_⟩
        rcases List.mem_cons.1 hj with rfl | hj
        · exact h
        · exact h2 j hj
      · exact .inr h1
theorem passesC_less {nodes : List Int} (hn : nodes.Nodup) (c : CSt) (hc : ∀ x, c.here x → x ∈ nodes) : ∀ n, (c.passes nodes n).Settled ∨ (c.passes nodes n).many nodes + n ≤ c.many nodes
  | 0 => .inr (Nat.le_refl _)
  | n + 1 => by
    have hs : ∀ x, (c.passes nodes n).here x → x ∈ nodes := fun x hx => hc x ((passesC_rems c nodes n).sub hx)
    rcases passC_less hn nodes (c.passes nodes n) fun x hx => hx with ⟨h1, h2⟩ | h1
    · left
      rw [CSt.passes, h1]
      exact fun x hx hu => h2 x (hs x hx) ⟨hx, hu⟩
    · rcases passesC_less hn c hc n with h2 | h2
      · left
        have : (c.passes nodes n).pass nodes = c.passes nodes n := by
          rcases passC_less hn nodes (c.passes nodes n) fun x hx => hx with ⟨h3, _⟩ | h3
          · exact h3
          · exfalso
            have key : ∀ (l : List Int) (d : CSt), d.Settled → d.pass l = d := fun l => by
              induction l with
              | nil => exact fun d _ => rfl
              | cons i r ih =>
                intro d hd
                have e : d.visit i = d := by unfold CSt.visit; rw [if_neg fun h => hd i h.1 h.2]
                rw [CSt.pass, e]; exact ih d hd
            rw [key nodes _ h2] at h1
            omega
        rw [CSt.passes, this]; exact h2
      · right
        rw [CSt.passes]; omega
/-- More passes than nodes, and all is settled. -/
theorem passesC_settled {nodes : List Int} (hn : nodes.Nodup) (c : CSt) (hc : ∀ x, c.here x → x ∈ nodes) {n : Nat} (h : nodes.length < n) : (c.passes nodes n).Settled := by
  rcases passesC_less hn c hc n with h1 | h1
  · exact h1
  · exfalso
    have : c.many nodes ≤ nodes.length := by unfold CSt.many; exact List.length_filter_le _ _
    omega
/-- Collins: what can be come to is here. -/
theorem good_come {c : CSt} (h : c.Good) {x : Int} (hx : Come c.outs c.roots x) : c.here x := by
  induction hx with
  | root h1 => exact h.1 _ h1
  | step _ h2 _ => exact (h.2 _ _ h2).2
/-- Where there are no rings nothing else is. -/
theorem settled_come {c : CSt} (h : c.Good) (hs : c.Settled) {nodes : List Int} (hn : ∀ x, c.here x → x ∈ nodes) (hr : ∀ x, ¬ Ring c.outs x) {x : Int} (hx : c.here x) : Come c.outs c.roots x := by
  classical
  refine Classical.byContradiction fun hno => ?_
  have hm : x ∈ nodes.filter fun y => decide (c.here y ∧ ¬ Come c.outs c.roots y) := List.mem_filter.2 ⟨hn x hx, by simp [hx, hno]⟩
  obtain ⟨y, _, hy⟩ := ring_of (g := c.outs) (S := nodes.filter fun y => decide (c.here y ∧ ¬ Come c.outs c.roots y)) (fun e => by rw [e] at hm; simp at hm) fun y hy => by
    have hy := (List.mem_filter.1 hy).2
    have hy : c.here y ∧ ¬ Come c.outs c.roots y := by simpa using hy
    rcases (settled_held h hs y hy.1).2 with h1 | ⟨z, hz, h1⟩
    · exact absurd (.root h1) hy.2
    · refine ⟨z, List.mem_filter.2 ⟨hn z hz, ?_⟩, h1⟩
      have : ¬ Come c.outs c.roots z := fun hc => hy.2 (.step hc h1)
      simp [hz, this]
  exact hr y hy
/-- What is in a ring is held by rings alone. -/
theorem ring_held {c : CSt} (h : c.Good) : c.Held (Ring c.outs) := fun x hx => by
  obtain ⟨y, hy, hxy, _⟩ := hx.from
  exact ⟨(h.2 y x hxy).2, .inr ⟨y, hy, hxy⟩⟩
end Go.Proofs.Ytmibnceadciidaa
