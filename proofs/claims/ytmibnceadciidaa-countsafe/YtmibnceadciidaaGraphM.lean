/- Lists alone, for chapter 17: nodes are taken away one by one, each pointed to by none that is left. -/
import Derived.Test.YtmibnceadciidaaGraphL
namespace Go.Proofs.Ytmibnceadciidaa

def pointed (g : Int → List Int) (left : List Int) (i : Int) : Bool := !left.contains i || left.any fun k => (g k).contains i
def visit (g : Int → List Int) (left : List Int) (i : Int) : List Int := if pointed g left i then left else left.erase i
def pass (g : Int → List Int) : List Int → List Int → List Int
  | left, [] => left
  | left, i :: r => pass g (visit g left i) r
def passes (g : Int → List Int) (nodes : List Int) : Nat → List Int
  | 0 => nodes
  | n + 1 => pass g (passes g nodes n) nodes
theorem pass_snoc (g : Int → List Int) : ∀ (left l : List Int) (i : Int), pass g left (l ++ [i]) = visit g (pass g left l) i
  | _, [], _ => rfl
  | left, x :: r, i => by rw [List.cons_append, pass, pass, pass_snoc]
theorem pointed_iff {g : Int → List Int} {left : List Int} {i : Int} : pointed g left i = true ↔ i ∉ left ∨ ∃ k, k ∈ left ∧ i ∈ g k := by
  unfold pointed
  rw [Bool.or_eq_true, Bool.not_eq_true', ← Bool.not_eq_true, List.contains_iff_mem, List.any_eq_true]
  constructor
  · rintro (h | ⟨k, hk, h⟩)
    · exact .inl h
    · exact .inr ⟨k, hk, List.contains_iff_mem.1 h⟩
  · rintro (h | ⟨k, hk, h⟩)
    · exact .inl h
    · exact .inr ⟨k, hk, List.contains_iff_mem.2 h⟩
theorem visit_sub {g : Int → List Int} {left : List Int} {i x : Int} (h : x ∈ visit g left i) : x ∈ left := by
  unfold visit at h
  split at h
  · exact h
  · exact List.mem_of_mem_erase h
theorem visit_nodup {g : Int → List Int} {left : List Int} {i : Int} (h : left.Nodup) : (visit g left i).Nodup := by
  unfold visit
  split
  · exact h
  · exact h.erase _
theorem pass_sub {g : Int → List Int} {x : Int} : ∀ {l left : List Int}, x ∈ pass g left l → x ∈ left
  | [], _, h => h
  | _ :: r, _, h => visit_sub (pass_sub (l := r) h)
theorem pass_nodup {g : Int → List Int} : ∀ {l left : List Int}, left.Nodup → (pass g left l).Nodup
  | [], _, h => h
  | _ :: r, _, h => pass_nodup (l := r) (visit_nodup h)
/-- What is in a ring stays. -/
theorem visit_ring {g : Int → List Int} {left : List Int} {i : Int} (h : ∀ x, Ring g x → x ∈ left) : ∀ x, Ring g x → x ∈ visit g left i := fun x hx => by
  unfold visit
  split
  · exact h x hx
  · rename_i hp
    by_cases e : x = i
    · subst e
      obtain ⟨y, hy, hxy, _⟩ := hx.from
      exact absurd (pointed_iff.2 (.inr ⟨y, h y hy, hxy⟩)) hp
    · rw [List.mem_erase_of_ne e]; exact h x hx
theorem pass_ring {g : Int → List Int} : ∀ {l left : List Int}, (∀ x, Ring g x → x ∈ left) → ∀ x, Ring g x → x ∈ pass g left l
  | [], _, h => h
  | _ :: r, _, h => pass_ring (l := r) (visit_ring h)
theorem passes_ring {g : Int → List Int} {nodes : List Int} (h : ∀ x, Ring g x → x ∈ nodes) : ∀ n x, Ring g x → x ∈ passes g nodes n
  | 0 => h
  | n + 1 => pass_ring (passes_ring h n)
/-- What none of those left points to goes. -/
theorem pass_gone {g : Int → List Int} {x : Int} : ∀ {l left : List Int}, left.Nodup → x ∈ l → (∀ k, k ∈ left → x ∉ g k) → x ∉ pass g left l
  | [], _, _, h, _ => by simp at h
  | i :: r, left, hn, h, hp => by
    rw [pass]
    by_cases e : x = i
    · subst e
      intro hm
      have hm := pass_sub hm
      unfold visit at hm
      split at hm
      · rename_i h1
        rcases pointed_iff.1 h1 with h2 | ⟨k, hk, h2⟩
        · exact h2 hm
        · exact hp k hk h2
      · exact hn.not_mem_erase hm
    · have hr : x ∈ r := by
        rcases List.mem_cons.1 h with h | h
        · exact absurd h e
        · exact h
      exact pass_gone (visit_nodup hn) hr fun k hk => hp k (visit_sub hk)
theorem pass_less {g : Int → List Int} {nodes left : List Int} (hn : left.Nodup) (hs : ∀ x, x ∈ left → x ∈ nodes) (hr : ∀ x, ¬ Ring g x) (h0 : left ≠ []) : (pass g left nodes).length < left.length := by
  have ⟨x, hx, hxp⟩ : ∃ x, x ∈ left ∧ ∀ k, k ∈ left → x ∉ g k := by
    refine Classical.byContradiction fun hno => ?_
    obtain ⟨x, _, hx⟩ := ring_of (g := g) h0 fun x hx => Classical.byContradiction fun h => hno ⟨x, hx, fun k hk hg => h ⟨k, hk, hg⟩⟩
    exact hr x hx
  have hg := pass_gone hn (hs x hx) hxp
  have := length_le_of_subset (B := left.erase x) (pass_nodup (g := g) (l := nodes) hn) fun p hp => by
    have hne : p ≠ x := fun e => hg (e ▸ hp)
    rw [List.mem_erase_of_ne hne]
    exact pass_sub hp
  rw [List.length_erase_of_mem hx] at this
  have := List.length_pos_of_mem hx
  omega
theorem passes_nodup {g : Int → List Int} {nodes : List Int} (hn : nodes.Nodup) : ∀ n, (passes g nodes n).Nodup
  | 0 => hn
  | n + 1 => pass_nodup (passes_nodup hn n)
theorem passes_sub {g : Int → List Int} {nodes : List Int} : ∀ n x, x ∈ passes g nodes n → x ∈ nodes
  | 0, _, h => h
  | n + 1, x, h => passes_sub n x (pass_sub h)
theorem passes_less {g : Int → List Int} {nodes : List Int} (hn : nodes.Nodup) (hr : ∀ x, ¬ Ring g x) : ∀ n, (passes g nodes n).length ≤ nodes.length - n
  | 0 => by simp [passes]
  | n + 1 => by
    have ih := passes_less hn hr n
    by_cases h0 : passes g nodes n = []
    · have : passes g nodes (n+1) = [] := by
        refine List.eq_nil_iff_forall_not_mem.2 fun x hx => ?_
        have := pass_sub (g := g) (l := nodes) hx
        rw [h0] at this; simp at this
      rw [this]; simp
    · have := pass_less (passes_nodup hn n) (passes_sub n) hr h0
      rw [passes]; omega
/-- Where nothing comes to itself all has an order; and where something does it has none. -/
theorem sorts {g : Int → List Int} {nodes : List Int} (hn : nodes.Nodup) (hR : ∀ x, Ring g x → x ∈ nodes) : (∀ x, ¬ Ring g x) ↔ passes g nodes nodes.length = [] := by
  constructor
  · intro hr
    have := passes_less hn hr nodes.length
    exact List.eq_nil_of_length_eq_zero (by omega)
  · intro h x hx
    have := passes_ring hR nodes.length x hx
    rw [h] at this; simp at this
theorem ring_node {g : Int → List Int} {nodes : List Int} (h : ∀ x, x ∉ nodes → g x = []) {x : Int} (hx : Ring g x) : x ∈ nodes := by
  refine Classical.byContradiction fun hn => ?_
  have e := h x hn
  unfold Ring at hx
  rw [e] at hx
  exact Come.least (C := fun _ => False) (fun y hy => by simp at hy) (fun _ _ h _ => h) hx
end Go.Proofs.Ytmibnceadciidaa
