/- Slices of tenants (a page and a credit each: two cells) that a call has made itself. -/
import Derived.Test.YtedmfehjifknbaaDoorLandK
import Derived.Test.YtedmfehjifknbaaDoorKeep
import Derived.Deep.DeepAppendRoom
import Derived.Deep.RegionLaw
import Derived.Lib.SliceRun
namespace Go.Proofs.YtedmfehjifknbaaDoor
set_option maxRecDepth 100000
open Go.RowKit Go.Sort

def rowT : List (Int × Nat) → List Value
  | [] => []
  | x :: l => .int .i64 x.1 :: .int .i64 x.2 :: rowT l
theorem rowT_length : ∀ l : List (Int × Nat), (rowT l).length = l.length * 2
  | [] => rfl
  | x :: l => by simp [rowT, rowT_length l]; omega
theorem rowT_append : ∀ a b : List (Int × Nat), rowT (a ++ b) = rowT a ++ rowT b
  | [], b => rfl
  | x :: a, b => by simp [rowT, rowT_append a b]
theorem rowT_take : ∀ (l : List (Int × Nat)) (i : Nat), rowT (l.take i) = (rowT l).take (i * 2)
  | l, 0 => by simp [rowT]
  | [], i + 1 => by simp [rowT]
  | x :: l, i + 1 => by rw [show (i + 1) * 2 = i * 2 + 1 + 1 by omega]; simp [rowT, rowT_take l i]
theorem rowT_drop : ∀ (l : List (Int × Nat)) (i : Nat), rowT (l.drop i) = (rowT l).drop (i * 2)
  | l, 0 => by simp
  | [], i + 1 => by simp [rowT]
  | x :: l, i + 1 => by rw [show (i + 1) * 2 = i * 2 + 1 + 1 by omega]; simp [rowT, rowT_drop l i]
theorem rowT_page : ∀ (l : List (Int × Nat)) (j : Nat), j < l.length → (rowT l)[j * 2]? = some (.int .i64 (tenAt l j).1)
  | x :: l, 0, _ => by simp [rowT, tenAt]
  | x :: l, j + 1, h => by
    have := rowT_page l j (by simpa using h)
    rw [show (j + 1) * 2 = j * 2 + 1 + 1 by omega]
    simpa [rowT, tenAt] using this
theorem rowT_credit : ∀ (l : List (Int × Nat)) (j : Nat), j < l.length → (rowT l)[j * 2 + 1]? = some (.int .i64 ((tenAt l j).2 : Nat))
  | x :: l, 0, _ => by simp [rowT, tenAt]
  | x :: l, j + 1, h => by
    have := rowT_credit l j (by simpa using h)
    rw [show (j + 1) * 2 + 1 = j * 2 + 1 + 1 + 1 by omega]
    simpa [rowT, tenAt] using this
theorem rowT_set : ∀ (l : List (Int × Nat)) (j : Nat) (m : Nat), (rowT l).set (j * 2 + 1) (.int .i64 m) = rowT (l.set j ((tenAt l j).1, m))
  | [], j, m => by simp [rowT]
  | x :: l, 0, m => by simp [rowT, tenAt]
  | x :: l, j + 1, m => by
    have := rowT_set l j m
    rw [show (j + 1) * 2 + 1 = j * 2 + 1 + 1 + 1 by omega]
    simpa [rowT, tenAt] using this
theorem rowT_one : ∀ (l : List (Int × Nat)), ∀ u ∈ rowT l, u.oneCell' = true
  | [], u, h => by cases h
  | x :: l, u, h => by
    simp only [rowT, List.mem_cons] at h
    rcases h with rfl | rfl | h
    · rfl
    · rfl
    · exact rowT_one l u h

def OwnT (w : World) (base : Nat) (v : Value) (l : List (Int × Nat)) : Prop := w.ownsRow base 48 2 v l.length (rowT l)
theorem OwnT.nil (w : World) (base : Nat) : OwnT w base (.slice none 0 0) [] := World.ownsRow_nil _ _ _ _
theorem OwnT.form {w : World} {base : Nat} {v : Value} {l : List (Int × Nat)} (h : OwnT w base v l) : ∃ ao cap, v = .slice ao l.length cap := by
  rcases h.2 with ⟨rfl, h0⟩ | ⟨g, cap, cur, rfl, _⟩
  · exact ⟨none, 0, by rw [h0]⟩
  · exact ⟨_, cap, rfl⟩
theorem OwnT.block {w : World} {base : Nat} {v : Value} {l : List (Int × Nat)} (h : OwnT w base v l) (hl : 0 < l.length) : ∃ g cap, v = .slice (some ⟨g, 0, none⟩) l.length cap ∧ base ≤ g ∧ g < w.heap.size ∧ l.length ≤ cap ∧ cap ≤ maxLen := by
  rcases h.2 with ⟨rfl, h0⟩ | ⟨g, cap, cur, rfl, hb, hg, hn, hm, hs, ht⟩
  · omega
  · exact ⟨g, cap, rfl, hb, (Array.getElem?_eq_some_iff.1 hg).1, hn, hm⟩
theorem OwnT.page {w : World} {base g n cap : Nat} {l : List (Int × Nat)} (h : OwnT w base (.slice (some ⟨g, 0, none⟩) n cap) l) (hn : n = l.length) {j : Nat} (hj : j < l.length) : w.cell? ⟨g, j * 2, none⟩ = some (.int .i64 (tenAt l j).1) := by
  subst hn
  rw [World.ownsRow.cellAt h (j * 2) (by omega)]
  exact rowT_page l j hj
theorem OwnT.credit {w : World} {base g n cap : Nat} {l : List (Int × Nat)} (h : OwnT w base (.slice (some ⟨g, 0, none⟩) n cap) l) (hn : n = l.length) {j : Nat} (hj : j < l.length) : w.cell? ⟨g, j * 2 + 1, none⟩ = some (.int .i64 ((tenAt l j).2 : Nat)) := by
  subst hn
  rw [World.ownsRow.cellAt h (j * 2 + 1) (by omega)]
  exact rowT_credit l j hj
theorem OwnT.unfrozen {w : World} {base g n cap : Nat} {l : List (Int × Nat)} (h : OwnT w base (.slice (some ⟨g, 0, none⟩) n cap) l) (hn : n = l.length) (j : Nat) : w.frozen? ⟨g, j, none⟩ = false := by
  subst hn
  exact World.ownsRow.frozenAt h j
theorem OwnT.setCredit {w : World} {base g n cap : Nat} {l : List (Int × Nat)} (h : OwnT w base (.slice (some ⟨g, 0, none⟩) n cap) l) (hn : n = l.length) (j : Nat) (m : Nat) :
    OwnT (w.setCell ⟨g, j * 2 + 1, none⟩ (.int .i64 m)) base (.slice (some ⟨g, 0, none⟩) n cap) (l.set j ((tenAt l j).1, m)) ∧ w.grownBy (w.setCell ⟨g, j * 2 + 1, none⟩ (.int .i64 m)) (some g) := by
  subst hn
  have := World.ownsRow.stored h (j * 2 + 1) (.int .i64 m)
  rw [rowT_set] at this
  refine ⟨?_, this.2⟩
  unfold OwnT
  rw [List.length_set]
  exact this.1
theorem OwnT.kept {w w' : World} {base : Nat} {v : Value} {l : List (Int × Nat)} {row : Option Nat} (h : OwnT w base v l) (hg : w.grownBy w' row) (hne : v.ownBlock = none ∨ v.ownBlock ≠ row) : OwnT w' base v l :=
  World.ownsRow.kept h hg hne
theorem OwnT.later {w w' : World} {base : Nat} {v : Value} {l : List (Int × Nat)} (h : OwnT w base v l) (hb : Below w.heap.size w w') : OwnT w' base v l :=
  h.kept (grown_of_below hb) (by cases v.ownBlock <;> simp)
/-- The first i of them. -/
theorem OwnT.cut {w : World} {base g n cap : Nat} {l : List (Int × Nat)} (h : OwnT w base (.slice (some ⟨g, 0, none⟩) n cap) l) {i : Nat} (hi : i ≤ l.length) : w.ownsRow base 48 2 (.slice (some ⟨g, 0, none⟩) i cap) i (rowT (l.take i)) := by
  rcases h.2 with ⟨h0, _⟩ | ⟨g', cap', cur, hv, hb, hg, hn, hmx, hs, ht⟩
  · simp at h0
  · simp at hv
    obtain ⟨rfl, _, rfl⟩ := hv
    refine ⟨by rw [rowT_length]; simp; omega, .inr ⟨g, cap, cur, rfl, hb, hg, by omega, hmx, hs, ?_⟩⟩
    rw [rowT_take, ← ht, List.take_take, Nat.min_eq_left (by omega)]
theorem apart_T {w : World} {base : Nat} {v vi : Value} {l : List (Int × Nat)} {li : List Int} (h : OwnT w base v l) (hi : OwnI w base vi li) : v.ownBlock = none ∨ v.ownBlock ≠ vi.ownBlock := by
  rcases h.2 with ⟨rfl, _⟩ | ⟨g, cap, cur, rfl, _, hg, _⟩
  · exact .inl rfl
  · refine .inr fun he => ?_
    rcases hi.2 with ⟨rfl, _⟩ | ⟨g2, cap2, cur2, rfl, _, hg2, _⟩
    · cases he
    · have : g = g2 := by simpa [Value.ownBlock] using he
      subst this
      rw [hg] at hg2
      simp at hg2
theorem belowT_grown {w w0 w' : World} {base : Nat} {v : Value} {l : List (Int × Nat)} (h : OwnT w base v l) (hb : Below base w0 w) (h0 : base ≤ w0.heap.size) (hg : w.grownBy w' v.ownBlock) : Below base w0 w' :=
  hb.grown hg (by have := hb.size; omega) fun k hk => (World.ownsRow.lt h k hk).1
theorem new_twoT (w : World) (x y : Value) (t : TypeId) : ∀ j u, [x, y][j]? = some u → (w.alloc (.cells #[x, y] t)).cell? (Addr.add ⟨w.heap.size, 0, none⟩ j) = some u := by
  intro j u hj
  match j, hj with
  | 0, hj =>
    have h : x = u := by simpa using hj
    subst h
    simp [Addr.add]
  | 1, hj =>
    have h : y = u := by simpa using hj
    subst h
    simp [Addr.add]
theorem two_cellT (p m : Int) : ∀ u ∈ [Value.int .i64 p, Value.int .i64 m], u.oneCell' = true := by
  intro u hu
  simp at hu
  rcases hu with rfl | rfl <;> rfl
theorem Tryd.infoT : (Tryd.prog.info? 48).map (fun i => (i.zero, i.size, i.bytes)) = some (some (.agg #[.int .i64 0, .int .i64 0]), 2, 16) := by kernel_rfl

/-- append where there is room, to a row of one's own, as one step of a region that draws. -/
theorem step_append_spare {P : Program} {ops : Array Oper} {o : Oper} {a : Act} {w : World} {K : Act → World → Prop} {Q : Exit → Act → World → Prop} {E : Prop}
    (hg : o.guard = none) (s x : Operand) (t : TypeId) (hop : o.op = Op.call { callee := Callee.builtin Builtin.append, args := #[s, x], argTypes := #[t, t] })
    (base : Nat) (e : TypeId) (i : TypeInfo) (size : Nat) (h1 : P.underlying t = some (.slice e)) (h2 : P.info? e = some i) (h4 : i.size = size)
    (g n cap : Nat) (xs : List Value) (hs : a.eval s = .slice (some ⟨g, 0, none⟩) n cap) (hown : w.ownsRow base e size (.slice (some ⟨g, 0, none⟩) n cap) n xs)
    (ad : Addr) (m c : Nat) (news : List Value) (hx : a.eval x = .slice (some ad) m c) (hn : news.length = m * size) (hc : ∀ j u, news[j]? = some u → w.cell? (ad.add j) = some u) (h1c : ∀ u ∈ news, u.oneCell' = true)
    (hroom : n + m ≤ cap)
    (hK : ∀ w', w'.ownsRow base e size (.slice (some ⟨g, 0, none⟩) (n + m) cap) (n + m) (xs ++ news) → w.grownBy w' (some g) → K (a.put o.dst (.slice (some ⟨g, 0, none⟩) (n + m) cap)) w') :
    if Region.wanted o (yielded ops a.tmps) = true then Oper.wp P o a w K Q else E := by
  have hw : Region.wanted o (yielded ops a.tmps) = true := by simp [Region.wanted, hg]
  rw [if_pos hw]
  exact wp_append_own_spare w s x t hop base e i size h1 h2 h4 g n cap xs hs hown ad m c news hx hn hc h1c hroom hK
end Go.Proofs.YtedmfehjifknbaaDoor
