/- Slices of bools. -/
import Derived.Test.YtmibnceadciidaaDoorOwn
namespace Go.Proofs.YtmibnceadciidaaDoor
open Go.RowKit Go.Sort

/-- v is a slice of bools that holds l in the world w. -/
def IsBools (w : World) (v : Value) (l : List Bool) : Prop :=
  (l = [] ∧ ∃ ao cap, v = .slice ao 0 cap ∧ cap ≤ maxLen) ∨
  ∃ b off cap, v = .slice (some ⟨b, off, none⟩) l.length cap ∧ 0 < l.length ∧ l.length ≤ cap ∧ cap ≤ maxLen ∧
    ∀ j, j < l.length → w.cell? ⟨b, off + j, none⟩ = some (.bool (l[j]?.getD false))

def OwnB (w : World) (base : Nat) (v : Value) (l : List Bool) : Prop := w.ownsRow base 4 1 v l.length (l.map Value.bool)

theorem OwnB.nil (w : World) (base : Nat) : OwnB w base (.slice none 0 0) [] := World.ownsRow_nil _ _ _ _

theorem OwnB.isBools {w : World} {base : Nat} {v : Value} {l : List Bool} (h : OwnB w base v l) : IsBools w v l := by
  rcases h.2 with ⟨rfl, h0⟩ | ⟨g, cap, cur, rfl, hb, hg, hn, hm, hs, ht⟩
  · exact .inl ⟨List.eq_nil_of_length_eq_zero h0, none, 0, rfl, by simp⟩
  · by_cases hl : l = []
    · subst hl
      exact .inl ⟨rfl, _, cap, rfl, hm⟩
    · refine .inr ⟨g, 0, cap, rfl, List.length_pos_iff.2 hl, hn, hm, fun j hj => ?_⟩
      have hcj : (cur.toList.take (l.length * 1))[j]? = some (.bool (l[j]?.getD false)) := by
        rw [ht, List.getElem?_map, List.getElem?_eq_getElem hj]; rfl
      rw [Nat.mul_one, List.getElem?_take_of_lt hj] at hcj
      simp [World.cell?, hg]
      simpa using hcj

theorem OwnB.form {w : World} {base : Nat} {v : Value} {l : List Bool} (h : OwnB w base v l) : ∃ ao cap, v = .slice ao l.length cap := by
  rcases h.2 with ⟨rfl, h0⟩ | ⟨g, cap, cur, rfl, _⟩
  · exact ⟨none, 0, by rw [h0]⟩
  · exact ⟨_, cap, rfl⟩
theorem OwnI.form {w : World} {base : Nat} {v : Value} {l : List Int} (h : OwnI w base v l) : ∃ ao cap, v = .slice ao l.length cap := by
  rcases h.2 with ⟨rfl, h0⟩ | ⟨g, cap, cur, rfl, _⟩
  · exact ⟨none, 0, by rw [h0]⟩
  · exact ⟨_, cap, rfl⟩

theorem OwnB.kept {w w' : World} {base : Nat} {v : Value} {l : List Bool} {row : Option Nat} (h : OwnB w base v l) (hg : w.grownBy w' row) (hne : v.ownBlock = none ∨ v.ownBlock ≠ row) : OwnB w' base v l :=
  World.ownsRow.kept h hg hne

theorem IsInts.below {w w' : World} {v : Value} {l : List Int} (h : IsInts w v l) (hb : Below w.heap.size w w') : IsInts w' v l := by
  rcases h with h | ⟨b, off, cap, hv, hp, hlc, hcap, hc⟩
  · exact .inl h
  · refine .inr ⟨b, off, cap, hv, hp, hlc, hcap, fun j hj => ?_⟩
    have := hc j hj
    rw [hb.cell (World.block_lt_of_cell? w _ this)]
    exact this
theorem IsBools.below {w w' : World} {v : Value} {l : List Bool} (h : IsBools w v l) (hb : Below w.heap.size w w') : IsBools w' v l := by
  rcases h with h | ⟨b, off, cap, hv, hp, hlc, hcap, hc⟩
  · exact .inl h
  · refine .inr ⟨b, off, cap, hv, hp, hlc, hcap, fun j hj => ?_⟩
    have := hc j hj
    rw [hb.cell (World.block_lt_of_cell? w _ this)]
    exact this
theorem IsInts.drewN {w : World} {v : Value} {l : List Int} (h : IsInts w v l) (n : Nat) : IsInts (w.drewN n) v l := h
theorem IsBools.drewN {w : World} {v : Value} {l : List Bool} (h : IsBools w v l) (n : Nat) : IsBools (w.drewN n) v l := h

theorem one_cellB (p : Bool) : ∀ u ∈ [Value.bool p], u.oneCell' = true := by
  intro u hu
  have : u = Value.bool p := by simpa using hu
  subst this; rfl

theorem ownB_append {w wr w' : World} {B : Nat} {v v' : Value} {l : List Bool} {p : Bool} {o : Obj} (hown : OwnB wr B v l) (hb : Below B w wr) (hB : B ≤ w.heap.size)
    (h1 : w'.ownsRow B 4 1 v' (l.length + 1) (l.map Value.bool ++ [.bool p])) (h2 : (wr.alloc o).grownBy w' v.ownBlock) : OwnB w' B v' (l ++ [p]) ∧ Below B w w' := by
  have hs := hb.size
  refine ⟨?_, ?_⟩
  · unfold OwnB
    rw [List.length_append, List.map_append]
    exact h1
  · refine (hb.alloc (by omega) o).grown h2 (by simp; omega) fun k hk => (World.ownsRow.lt hown k hk).1

theorem Tryd.info3 : (Tryd.prog.info? 3).map (fun i => (i.zero, i.size, i.bytes)) = some (some (.int .i64 0), 1, 8) := by kernel_rfl
theorem Tryd.infoB : (Tryd.prog.info? 4).map (fun i => (i.zero, i.size, i.bytes)) = some (some (.bool false), 1, 1) := by kernel_rfl

end Go.Proofs.YtmibnceadciidaaDoor
