/- Slices of slots (a page and a mark each: two cells) that a call has made itself. -/
import Derived.Test.YtldeonnbpfkmoaaHands
namespace Go.Proofs.Ytldeonnbpfkmoaa
open Go.RowKit Go.Sort

def encS (x : Slot) : List Value := [.int .i64 x.1, .bool x.2]
def rowS : List Slot → List Value
  | [] => []
  | x :: l => .int .i64 x.1 :: .bool x.2 :: rowS l
theorem rowS_length : ∀ l : List Slot, (rowS l).length = l.length * 2
  | [] => rfl
  | x :: l => by simp [rowS, rowS_length l]; omega
theorem rowS_append : ∀ a b : List Slot, rowS (a ++ b) = rowS a ++ rowS b
  | [], b => rfl
  | x :: a, b => by simp [rowS, rowS_append a b]
theorem rowS_page : ∀ (l : List Slot) (j : Nat), j < l.length → (rowS l)[j * 2]? = some (.int .i64 (slotAt l j).1)
  | x :: l, 0, _ => by simp [rowS, slotAt]
  | x :: l, j + 1, h => by
    have := rowS_page l j (by simpa using h)
    rw [show (j + 1) * 2 = j * 2 + 1 + 1 by omega]
    simpa [rowS, slotAt] using this
theorem rowS_mark : ∀ (l : List Slot) (j : Nat), j < l.length → (rowS l)[j * 2 + 1]? = some (.bool (slotAt l j).2)
  | x :: l, 0, _ => by simp [rowS, slotAt]
  | x :: l, j + 1, h => by
    have := rowS_mark l j (by simpa using h)
    rw [show (j + 1) * 2 + 1 = j * 2 + 1 + 1 + 1 by omega]
    simpa [rowS, slotAt] using this
theorem rowS_setMark : ∀ (l : List Slot) (j : Nat) (m : Bool), (rowS l).set (j * 2 + 1) (.bool m) = rowS (l.set j ((slotAt l j).1, m))
  | [], j, m => by simp [rowS]
  | x :: l, 0, m => by simp [rowS, slotAt]
  | x :: l, j + 1, m => by
    have := rowS_setMark l j m
    rw [show (j + 1) * 2 + 1 = j * 2 + 1 + 1 + 1 by omega]
    simpa [rowS, slotAt] using this
theorem rowS_set : ∀ (l : List Slot) (j : Nat) (p : Int) (m : Bool), ((rowS l).set (j * 2) (.int .i64 p)).set (j * 2 + 1) (.bool m) = rowS (l.set j (p, m))
  | [], j, p, m => by simp [rowS]
  | x :: l, 0, p, m => by simp [rowS]
  | x :: l, j + 1, p, m => by
    have := rowS_set l j p m
    rw [show (j + 1) * 2 = j * 2 + 1 + 1 by omega]
    simpa [rowS] using this

def OwnS (w : World) (base : Nat) (v : Value) (l : List Slot) : Prop := w.ownsRow base 56 2 v l.length (rowS l)
theorem OwnS.nil (w : World) (base : Nat) : OwnS w base (.slice none 0 0) [] := World.ownsRow_nil _ _ _ _
theorem OwnS.form {w : World} {base : Nat} {v : Value} {l : List Slot} (h : OwnS w base v l) : ∃ ao cap, v = .slice ao l.length cap := by
  rcases h.2 with ⟨rfl, h0⟩ | ⟨g, cap, cur, rfl, _⟩
  · exact ⟨none, 0, by rw [h0]⟩
  · exact ⟨_, cap, rfl⟩
theorem OwnS.block {w : World} {base : Nat} {v : Value} {l : List Slot} (h : OwnS w base v l) (hl : 0 < l.length) : ∃ g cap, v = .slice (some ⟨g, 0, none⟩) l.length cap ∧ base ≤ g ∧ g < w.heap.size ∧ l.length ≤ cap ∧ cap ≤ maxLen := by
  rcases h.2 with ⟨rfl, h0⟩ | ⟨g, cap, cur, rfl, hb, hg, hn, hm, hs, ht⟩
  · omega
  · exact ⟨g, cap, rfl, hb, (Array.getElem?_eq_some_iff.1 hg).1, hn, hm⟩
theorem OwnS.page {w : World} {base g n cap : Nat} {l : List Slot} (h : OwnS w base (.slice (some ⟨g, 0, none⟩) n cap) l) (hn : n = l.length) {j : Nat} (hj : j < l.length) : w.cell? ⟨g, j * 2, none⟩ = some (.int .i64 (slotAt l j).1) := by
  subst hn
  rw [World.ownsRow.cellAt h (j * 2) (by omega)]
  exact rowS_page l j hj
theorem OwnS.mark {w : World} {base g n cap : Nat} {l : List Slot} (h : OwnS w base (.slice (some ⟨g, 0, none⟩) n cap) l) (hn : n = l.length) {j : Nat} (hj : j < l.length) : w.cell? ⟨g, j * 2 + 1, none⟩ = some (.bool (slotAt l j).2) := by
  subst hn
  rw [World.ownsRow.cellAt h (j * 2 + 1) (by omega)]
  exact rowS_mark l j hj
theorem OwnS.unfrozen {w : World} {base g n cap : Nat} {l : List Slot} (h : OwnS w base (.slice (some ⟨g, 0, none⟩) n cap) l) (hn : n = l.length) (j : Nat) : w.frozen? ⟨g, j, none⟩ = false := by
  subst hn
  exact World.ownsRow.frozenAt h j
theorem OwnS.setMark {w : World} {base g n cap : Nat} {l : List Slot} (h : OwnS w base (.slice (some ⟨g, 0, none⟩) n cap) l) (hn : n = l.length) (j : Nat) (m : Bool) :
    OwnS (w.setCell ⟨g, j * 2 + 1, none⟩ (.bool m)) base (.slice (some ⟨g, 0, none⟩) n cap) (l.set j ((slotAt l j).1, m)) ∧ w.grownBy (w.setCell ⟨g, j * 2 + 1, none⟩ (.bool m)) (some g) := by
  subst hn
  have := World.ownsRow.stored h (j * 2 + 1) (.bool m)
  rw [rowS_setMark] at this
  refine ⟨?_, this.2⟩
  unfold OwnS
  rw [List.length_set]
  exact this.1
theorem OwnS.setSlot {w : World} {base g n cap : Nat} {l : List Slot} (h : OwnS w base (.slice (some ⟨g, 0, none⟩) n cap) l) (hn : n = l.length) (j : Nat) (p : Int) (m : Bool) :
    OwnS ((w.setCell ⟨g, j * 2, none⟩ (.int .i64 p)).setCell ⟨g, j * 2 + 1, none⟩ (.bool m)) base (.slice (some ⟨g, 0, none⟩) n cap) (l.set j (p, m)) ∧ w.grownBy ((w.setCell ⟨g, j * 2, none⟩ (.int .i64 p)).setCell ⟨g, j * 2 + 1, none⟩ (.bool m)) (some g) := by
  subst hn
  have h1 := World.ownsRow.stored h (j * 2) (.int .i64 p)
  have h2 := World.ownsRow.stored h1.1 (j * 2 + 1) (.bool m)
  rw [rowS_set] at h2
  refine ⟨?_, ?_⟩
  · unfold OwnS
    rw [List.length_set]
    exact h2.1
  · exact ⟨h2.2.os.trans h1.2.os, h2.2.tape.trans h1.2.tape, h2.2.output.trans h1.2.output, Nat.le_trans h1.2.size h2.2.size, fun i hi hr => (h2.2.block i (Nat.lt_of_lt_of_le hi h1.2.size) hr).trans (h1.2.block i hi hr)⟩
theorem OwnS.kept {w w' : World} {base : Nat} {v : Value} {l : List Slot} {row : Option Nat} (h : OwnS w base v l) (hg : w.grownBy w' row) (hne : v.ownBlock = none ∨ v.ownBlock ≠ row) : OwnS w' base v l :=
  World.ownsRow.kept h hg hne
theorem OwnS.later {w w' : World} {base : Nat} {v : Value} {l : List Slot} (h : OwnS w base v l) (hb : Below w.heap.size w w') : OwnS w' base v l :=
  h.kept (grown_of_below hb) (by cases v.ownBlock <;> simp)
theorem OwnS.rows {w w1 : World} {base n : Nat} {v : Value} {l : List Slot} (h : OwnS w base v l) (hn : l.length = n) (hw : w1.heap = w.heap) : w1.ownsRow base 56 2 v n (rowS l) := by
  subst hn
  unfold World.ownsRow
  rw [hw]
  exact h

theorem apart_S {w : World} {base : Nat} {v vb : Value} {l : List Slot} {lb : List Bool} (h : OwnS w base v l) (hb : OwnB w base vb lb) : vb.ownBlock = none ∨ vb.ownBlock ≠ v.ownBlock := by
  rcases hb.2 with ⟨rfl, _⟩ | ⟨g, cap, cur, rfl, _, hg, _⟩
  · exact .inl rfl
  · refine .inr fun he => ?_
    rcases h.2 with ⟨rfl, _⟩ | ⟨g2, cap2, cur2, rfl, _, hg2, _⟩
    · cases he
    · have : g = g2 := by simpa [Value.ownBlock] using he
      subst this
      rw [hg] at hg2
      simp at hg2
theorem apart_S' {w : World} {base : Nat} {v vb : Value} {l : List Slot} {lb : List Bool} (h : OwnS w base v l) (hb : OwnB w base vb lb) : v.ownBlock = none ∨ v.ownBlock ≠ vb.ownBlock := by
  rcases apart_S h hb with h1 | h1
  · rw [h1]
    cases v.ownBlock <;> simp
  · exact .inr (Ne.symm h1)
theorem apart_SI {w : World} {base : Nat} {v vi : Value} {l : List Slot} {li : List Int} (h : OwnS w base v l) (hi : OwnI w base vi li) : v.ownBlock = none ∨ v.ownBlock ≠ vi.ownBlock := by
  rcases h.2 with ⟨rfl, _⟩ | ⟨g, cap, cur, rfl, _, hg, _⟩
  · exact .inl rfl
  · refine .inr fun he => ?_
    rcases hi.2 with ⟨rfl, _⟩ | ⟨g2, cap2, cur2, rfl, _, hg2, _⟩
    · cases he
    · have : g = g2 := by simpa [Value.ownBlock] using he
      subst this
      rw [hg] at hg2
      simp at hg2

theorem keepsS_grown {w w' : World} {base : Nat} {v : Value} {l : List Slot} (h : OwnS w base v l) (hg : w.grownBy w' v.ownBlock) : Keeps base w w' :=
  ⟨fun _ _ hb => hb.kept hg (apart_S h hb), fun _ h0 hb => hb.grown hg (by have := hb.size; omega) fun k hk => (World.ownsRow.lt h k hk).1⟩
theorem keeps_below {w w' : World} {base : Nat} (hB : base ≤ w.heap.size) (h : Below w.heap.size w w') : Keeps base w w' :=
  ⟨fun _ _ hb => hb.later h, fun _ _ hb => hb.trans (h.mono hB)⟩

/-- An append to a row of slots. -/
theorem keepsS_append {wr w1 : World} {B n : Nat} {v v1 : Value} {l : List Slot} {p : Int} {m : Bool} {o : Obj} (hoh : OwnS wr B v l) (hn : l.length = n) (hB : B ≤ wr.heap.size)
    (h1 : w1.ownsRow B 56 2 v1 (n + 1) (rowS l ++ [.int .i64 p, .bool m])) (h2 : (wr.alloc o).grownBy w1 v.ownBlock) : OwnS w1 B v1 (l ++ [(p, m)]) ∧ Keeps B wr w1 := by
  subst hn
  refine ⟨?_, (keeps_alloc hB o).trans (keepsS_grown (l := l) (World.ownsRow.alloc hoh o) h2)⟩
  unfold OwnS
  rw [List.length_append, rowS_append]
  exact h1
/-- An append to the row of bools beside a row of slots. -/
theorem boolS_append {w wr w1 : World} {B n : Nat} {vb vb' vs : Value} {lb : List Bool} {t : List Slot} {p : Bool} {o : Obj} (hob : OwnB wr B vb lb) (hn : lb.length = n) (hos : OwnS wr B vs t) (hb : Below B w wr) (hB : B ≤ w.heap.size)
    (h1 : w1.ownsRow B 4 1 vb' (n + 1) (lb.map Value.bool ++ [.bool p])) (h2 : (wr.alloc o).grownBy w1 vb.ownBlock) : OwnB w1 B vb' (lb ++ [p]) ∧ OwnS w1 B vs t ∧ Below B w w1 := by
  subst hn
  have R := ownB_append hob hb hB h1 h2
  have hos2 : OwnS (wr.alloc o) B vs t := World.ownsRow.alloc hos o
  have hob2 : OwnB (wr.alloc o) B vb lb := World.ownsRow.alloc hob o
  exact ⟨R.1, hos2.kept h2 (apart_S' hos2 hob2), R.2⟩
/-- An append to a row of ints beside a row of slots. -/
theorem intS_append {wr w1 : World} {B n : Nat} {v v1 vs : Value} {l : List Int} {t : List Slot} {x : Int} {o : Obj} (hoh : OwnI wr B v l) (hn : l.length = n) (hos : OwnS wr B vs t) (hB : B ≤ wr.heap.size)
    (h1 : w1.ownsRow B 3 1 v1 (n + 1) (l.map (Value.int .i64) ++ [.int .i64 x])) (h2 : (wr.alloc o).grownBy w1 v.ownBlock) : OwnI w1 B v1 (l ++ [x]) ∧ OwnS w1 B vs t ∧ Keeps B wr w1 := by
  have R := keeps_append hoh hn hB h1 h2
  have hos2 : OwnS (wr.alloc o) B vs t := World.ownsRow.alloc hos o
  have hoh2 : OwnI (wr.alloc o) B v l := World.ownsRow.alloc hoh o
  exact ⟨R.1, hos2.kept h2 (apart_SI hos2 hoh2), R.2⟩

theorem new_two (w : World) (x y : Value) (t : TypeId) : ∀ j u, [x, y][j]? = some u → (w.alloc (.cells #[x, y] t)).cell? (Addr.add ⟨w.heap.size, 0, none⟩ j) = some u := by
  intro j u hj
  match j, hj with
  | 0, hj =>
    have h : x = u := by simpa using hj
    subst h
    simp [Addr.add]
  | 1, hj =>
    have h : y = u := by simpa using hj
    subst h
    simp [Addr.add]
theorem two_cellS (p : Int) (m : Bool) : ∀ u ∈ [Value.int .i64 p, Value.bool m], u.oneCell' = true := by
  intro u hu
  simp at hu
  rcases hu with rfl | rfl <;> rfl
theorem Try.infoS : (Try.prog.info? 56).map (fun i => (i.zero, i.size, i.bytes)) = some (some (.agg #[.int .i64 0, .bool false]), 2, 16) := by kernel_rfl
end Go.Proofs.Ytldeonnbpfkmoaa
