/- Two rows of one's own beside each other, and lists of marks: plain lemmas, no function of the program is named here. -/
import Derived.Test.YtmibnceadciidaaDoorBools
namespace Go.Proofs.YtmibnceadciidaaDoor
open Go.RowKit Go.Sort

theorem grown_of_below {w w' : World} (h : Below w.heap.size w w') : w.grownBy w' none := ⟨h.os, h.tape, h.output, h.size, fun i hi _ => h.block i hi⟩
theorem OwnI.later {w w' : World} {base : Nat} {v : Value} {l : List Int} (h : OwnI w base v l) (hb : Below w.heap.size w w') : OwnI w' base v l :=
  h.kept (grown_of_below hb) (by cases v.ownBlock <;> simp)
theorem OwnB.later {w w' : World} {base : Nat} {v : Value} {l : List Bool} (h : OwnB w base v l) (hb : Below w.heap.size w w') : OwnB w' base v l :=
  h.kept (grown_of_below hb) (by cases v.ownBlock <;> simp)

theorem apart_rows {w : World} {base : Nat} {v vb : Value} {l : List Int} {lb : List Bool} (h : OwnI w base v l) (hb : OwnB w base vb lb) : vb.ownBlock = none ∨ vb.ownBlock ≠ v.ownBlock := by
  rcases hb.2 with ⟨rfl, _⟩ | ⟨g, cap, cur, rfl, _, hg, _⟩
  · exact .inl rfl
  · refine .inr fun he => ?_
    rcases h.2 with ⟨rfl, _⟩ | ⟨g2, cap2, cur2, rfl, _, hg2, _⟩
    · cases he
    · have : g = g2 := by simpa [Value.ownBlock] using he
      subst this
      rw [hg] at hg2
      simp at hg2
theorem apart_rows' {w : World} {base : Nat} {v vb : Value} {l : List Int} {lb : List Bool} (h : OwnI w base v l) (hb : OwnB w base vb lb) : v.ownBlock = none ∨ v.ownBlock ≠ vb.ownBlock := by
  rcases apart_rows h hb with h1 | h1
  · rw [h1]
    cases v.ownBlock <;> simp
  · exact .inr (Ne.symm h1)

/-- Rows of bools, and what lies below, are kept. -/
def Keeps (base : Nat) (w w' : World) : Prop :=
  (∀ vb lb, OwnB w base vb lb → OwnB w' base vb lb) ∧ ∀ w0, base ≤ w0.heap.size → Below base w0 w → Below base w0 w'
theorem Keeps.refl (base : Nat) (a : World) : Keeps base a a := ⟨fun _ _ x => x, fun _ _ x => x⟩
theorem Keeps.trans {base : Nat} {a b c : World} (h : Keeps base a b) (k : Keeps base b c) : Keeps base a c :=
  ⟨fun vb lb x => k.1 vb lb (h.1 vb lb x), fun w0 h0 x => k.2 w0 h0 (h.2 w0 h0 x)⟩
theorem keeps_grown {w w' : World} {base : Nat} {v : Value} {l : List Int} (h : OwnI w base v l) (hg : w.grownBy w' v.ownBlock) : Keeps base w w' :=
  ⟨fun _ _ hb => hb.kept hg (apart_rows h hb), fun _ h0 hb => hb.grown hg (by have := hb.size; omega) fun k hk => (World.ownsRow.lt h k hk).1⟩
theorem keeps_alloc {w : World} {base : Nat} (hB : base ≤ w.heap.size) (o : Obj) : Keeps base w (w.alloc o) :=
  ⟨fun _ _ hb => hb.kept (World.grownBy_alloc w o none) (by cases h : Value.ownBlock _ <;> simp), fun _ _ hb => hb.alloc hB o⟩

theorem OwnB.rows {w w1 : World} {base n : Nat} {v : Value} {l : List Bool} (h : OwnB w base v l) (hn : l.length = n) (hw : w1.heap = w.heap) : w1.ownsRow base 4 1 v n (l.map Value.bool) := by
  subst hn
  unfold World.ownsRow
  rw [hw]
  exact h

/-- What an append to the row of bools leaves. -/
theorem bool_append {w wr w1 : World} {B n : Nat} {vb vb' vh : Value} {lb : List Bool} {held : List Int} {p : Bool} {o : Obj} (hob : OwnB wr B vb lb) (hn : lb.length = n) (hoh : OwnI wr B vh held) (hb : Below B w wr) (hB : B ≤ w.heap.size)
    (h1 : w1.ownsRow B 4 1 vb' (n + 1) (lb.map Value.bool ++ [.bool p])) (h2 : (wr.alloc o).grownBy w1 vb.ownBlock) : OwnB w1 B vb' (lb ++ [p]) ∧ OwnI w1 B vh held ∧ Below B w w1 := by
  subst hn
  have R := ownB_append hob hb hB h1 h2
  have hoh2 : OwnI (wr.alloc o) B vh held := World.ownsRow.alloc hoh o
  have hob2 : OwnB (wr.alloc o) B vb lb := World.ownsRow.alloc hob o
  exact ⟨R.1, hoh2.kept h2 (apart_rows' hoh2 hob2), R.2⟩

/-- What an append to the row of ints leaves. -/
theorem held_append {w wr w1 : World} {B n : Nat} {v v1 vb : Value} {l : List Int} {lb : List Bool} {x : Int} {o : Obj} (hoh : OwnI wr B v l) (hn : l.length = n) (hob : OwnB wr B vb lb) (hb : Below B w wr) (hB : B ≤ w.heap.size)
    (h1 : w1.ownsRow B 3 1 v1 (n + 1) (l.map (Value.int .i64) ++ [.int .i64 x])) (h2 : (wr.alloc o).grownBy w1 v.ownBlock) : OwnI w1 B v1 (l ++ [x]) ∧ OwnB w1 B vb lb ∧ Below B w w1 := by
  subst hn
  have R := own_append hoh hb hB h1 h2
  have hoh2 : OwnI (wr.alloc o) B v l := World.ownsRow.alloc hoh o
  have hob2 : OwnB (wr.alloc o) B vb lb := World.ownsRow.alloc hob o
  exact ⟨R.1, hob2.kept h2 (apart_rows hoh2 hob2), R.2⟩

/-- An append to a row of ints, where nothing else is asked but what is kept. -/
theorem keeps_append {wr w1 : World} {B n : Nat} {v v1 : Value} {l : List Int} {x : Int} {o : Obj} (hoh : OwnI wr B v l) (hn : l.length = n) (hB : B ≤ wr.heap.size)
    (h1 : w1.ownsRow B 3 1 v1 (n + 1) (l.map (Value.int .i64) ++ [.int .i64 x])) (h2 : (wr.alloc o).grownBy w1 v.ownBlock) : OwnI w1 B v1 (l ++ [x]) ∧ Keeps B wr w1 := by
  subst hn
  refine ⟨?_, (keeps_alloc hB o).trans (keeps_grown (l := l) (World.ownsRow.alloc hoh o) h2)⟩
  unfold OwnI
  rw [List.length_append, List.map_append]
  exact h1

theorem isInts_new {w : World} {B : Nat} {l : List Int} {cur : Array Value} {t : TypeId} (hcur : cur.toList = l.map (Value.int .i64)) (hl : l.length ≤ 100) (hb : w.heap[B]? = some (.cells cur t (0, 0))) : IsInts w (.slice (some ⟨B, 0, none⟩) l.length l.length) l := by
  by_cases h0 : l = []
  · subst h0; exact .inl ⟨rfl, _, 0, rfl, by simp⟩
  · refine .inr ⟨B, 0, l.length, rfl, List.length_pos_iff.2 h0, Nat.le_refl _, by unfold maxLen; omega, fun j hj => ?_⟩
    have : cur[j]? = some (.int .i64 (l[j]?.getD 0)) := by
      rw [← Array.getElem?_toList, hcur, List.getElem?_map, List.getElem?_eq_getElem hj]; rfl
    simpa [World.cell?, hb] using this
theorem isBools_new {w : World} {B : Nat} {l : List Bool} {cur : Array Value} {t : TypeId} (hcur : cur.toList = l.map Value.bool) (hl : l.length ≤ 100) (hb : w.heap[B]? = some (.cells cur t (0, 0))) : IsBools w (.slice (some ⟨B, 0, none⟩) l.length l.length) l := by
  by_cases h0 : l = []
  · subst h0; exact .inl ⟨rfl, _, 0, rfl, by simp⟩
  · refine .inr ⟨B, 0, l.length, rfl, List.length_pos_iff.2 h0, Nat.le_refl _, by unfold maxLen; omega, fun j hj => ?_⟩
    have : cur[j]? = some (.bool (l[j]?.getD false)) := by
      rw [← Array.getElem?_toList, hcur, List.getElem?_map, List.getElem?_eq_getElem hj]; rfl
    simpa [World.cell?, hb] using this
theorem errV_pos {n : Nat} (h : n ≠ 0) : errV n = .iface 57 (.int .i64 n) := by unfold errV; rw [if_neg h]

theorem IsInts.heap {w0 w : World} {v : Value} {l : List Int} (h : IsInts w0 v l) (hh : w.heap = w0.heap) : IsInts w v l := by
  unfold IsInts World.cell? at *
  rw [hh]; exact h
theorem IsBools.heap {w0 w : World} {v : Value} {l : List Bool} (h : IsBools w0 v l) (hh : w.heap = w0.heap) : IsBools w v l := by
  unfold IsBools World.cell? at *
  rw [hh]; exact h

/-- The rest of a slice: what lies from place a on. -/
theorem isInts_drop {w : World} {ao : Option Addr} {n cap a : Nat} {l : List Int} (h : IsInts w (.slice ao n cap) l) (hn : l.length = n) (ha : a ≤ n) {ao2 : Option Addr} (hao : ∀ x, ao = some x → a < n → ao2 = some ⟨x.block, x.off + a, none⟩) : IsInts w (.slice ao2 (n - a) (cap - a)) (l.drop a) := by
  rcases h with ⟨rfl, ao3, cap2, hv, hm⟩ | ⟨b, off, cap2, hv, hp, hlc, hm, hc⟩
  · simp at hv hn
    obtain ⟨rfl, rfl, rfl⟩ := hv
    exact .inl ⟨by simp, ao2, cap - a, by rw [Nat.zero_sub], by omega⟩
  · simp at hv
    obtain ⟨rfl, rfl, rfl⟩ := hv
    by_cases h0 : a = l.length
    · exact .inl ⟨by simp [h0], ao2, cap - a, by rw [h0, Nat.sub_self], by omega⟩
    · rw [hao _ rfl (by omega)]
      refine .inr ⟨b, off + a, cap - a, by rw [List.length_drop], by rw [List.length_drop]; omega, by rw [List.length_drop]; omega, by omega, fun j hj => ?_⟩
      rw [List.length_drop] at hj
      rw [List.getElem?_drop, Nat.add_assoc]
      exact hc (a + j) (by omega)

/-- The beginning of a slice. -/
theorem isInts_prefix {w : World} {ao : Option Addr} {n cap a : Nat} {l : List Int} (h : IsInts w (.slice ao n cap) l) (hn : l.length = n) (ha : a ≤ n) : IsInts w (.slice ao a cap) (l.take a) := by
  rcases h with ⟨rfl, ao2, cap2, hv, hm⟩ | ⟨b, off, cap2, hv, hp, hlc, hm, hc⟩
  · simp at hv hn
    obtain ⟨rfl, rfl, rfl⟩ := hv
    exact .inl ⟨by simp, ao, cap, by rw [show a = 0 by omega], hm⟩
  · simp at hv
    obtain ⟨rfl, rfl, rfl⟩ := hv
    have hlen : (l.take a).length = a := by rw [List.length_take]; omega
    by_cases h0 : a = 0
    · exact .inl ⟨by simp [h0], _, cap, by rw [h0], hm⟩
    · refine .inr ⟨b, off, cap, by rw [hlen], by omega, by omega, hm, fun j hj => ?_⟩
      have hj' : j < a := by omega
      rw [List.getElem?_take_of_lt hj']
      exact hc j (by omega)

theorem errV_cases (n : Nat) : errV n = .nilIface ∨ ∃ m : Int, errV n = .iface 57 (.int .i64 m) := by
  unfold errV
  split
  · exact .inl rfl
  · exact .inr ⟨_, rfl⟩

theorem chk_zero {l : List Int} {s : Int} (h : chk l s = 0) : l.length ≤ 40 ∧ 1 ≤ s ∧ s ≤ 8 := by
  unfold chk at h
  split at h
  · cases h
  · split at h
    · cases h
    · split at h
      · cases h
      · omega
theorem chk_cases (l : List Int) (s : Int) : chk l s = 0 ∨ chk l s = 1 ∨ chk l s = 4 := by
  unfold chk
  split
  · simp
  · split
    · simp
    · split <;> simp

/-- Marks of the first k requests. -/
def marks (f : Nat → Bool) (k : Nat) : List Bool := (List.range k).map f
theorem marks_succ (f : Nat → Bool) (k : Nat) : marks f (k+1) = marks f k ++ [f k] := by
  simp [marks, List.range_succ]
theorem marks_length (f : Nat → Bool) (k : Nat) : (marks f k).length = k := by simp [marks]
theorem marks_get {f : Nat → Bool} {k j : Nat} (h : j < k) : (marks f k)[j]?.getD false = f j := by
  simp [marks, h]
theorem marks_cells {w : World} {v : Value} {n : Nat} {f : Nat → Bool} (h : IsBools w v (marks f n)) (hn : 0 < n) : ∃ b off cap, v = .slice (some ⟨b, off, none⟩) n cap ∧ n ≤ cap ∧ cap ≤ maxLen ∧ ∀ j, j < n → w.cell? ⟨b, off + j, none⟩ = some (.bool (f j)) := by
  rcases h with ⟨h0, _⟩ | ⟨b, off, cap, hv, hp, hlc, hm, hc⟩
  · have := marks_length f n
    rw [h0] at this; simp at this; omega
  · rw [marks_length] at hv hlc hc
    exact ⟨b, off, cap, hv, hlc, hm, fun j hj => by rw [hc j hj, marks_get hj]⟩
theorem ownB_mono {w : World} {B B' : Nat} {v : Value} {l : List Bool} (h : OwnB w B v l) (hB : B' ≤ B) : OwnB w B' v l := by
  refine ⟨h.1, ?_⟩
  rcases h.2 with h0 | ⟨g, cap, cur, hv, hb, rest⟩
  · exact .inl h0
  · exact .inr ⟨g, cap, cur, hv, Nat.le_trans hB hb, rest⟩

theorem results_four {fn : Func} {a b c d : Tmp} (h : fn.results = #[.tmp a, .tmp b, .tmp c, .tmp d]) (tmps : Array Value) (P : Program) (w : World) :
    (results fn tmps).run P w = .ok (.tuple #[tmps.getD a undef, tmps.getD b undef, tmps.getD c undef, tmps.getD d undef]) w := by
  simp [results, h]
end Go.Proofs.YtmibnceadciidaaDoor
