/- Slices of ints that a call has made itself: plain lemmas on worlds and lists. -/
import Derived.Test.YtmibnceadciidaaDoorBase
import Derived.Sort.OwnSortedInts
import Derived.Lib.Slices
import Derived.Deep.QuietTactic
import Derived.BigQuiet
namespace Go.Proofs.YtmibnceadciidaaDoor
open Go.RowKit Go.Sort

def OwnI (w : World) (base : Nat) (v : Value) (l : List Int) : Prop := w.ownsRow base 3 1 v l.length (l.map (Value.int .i64))

theorem OwnI.nil (w : World) (base : Nat) : OwnI w base (.slice none 0 0) [] := World.ownsRow_nil _ _ _ _

theorem OwnI.isInts {w : World} {base : Nat} {v : Value} {l : List Int} (h : OwnI w base v l) : IsInts w v l := by
  rcases h.2 with ⟨rfl, h0⟩ | ⟨g, cap, cur, rfl, hb, hg, hn, hm, hs, ht⟩
  · exact .inl ⟨List.eq_nil_of_length_eq_zero h0, none, 0, rfl, by simp⟩
  · by_cases hl : l = []
    · subst hl
      exact .inl ⟨rfl, _, cap, rfl, hm⟩
    · refine .inr ⟨g, 0, cap, rfl, List.length_pos_iff.2 hl, hn, hm, fun j hj => ?_⟩
      have hcj : (cur.toList.take (l.length * 1))[j]? = some (.int .i64 (l[j]?.getD 0)) := by
        rw [ht, List.getElem?_map, List.getElem?_eq_getElem hj]; rfl
      rw [Nat.mul_one, List.getElem?_take_of_lt hj] at hcj
      simp [World.cell?, hg]
      simpa using hcj

/-- Out of a value that is not nil: the block. -/
theorem OwnI.block {w : World} {base : Nat} {v : Value} {l : List Int} (h : OwnI w base v l) (hl : l ≠ []) :
    ∃ g cap cur, v = .slice (some ⟨g, 0, none⟩) l.length cap ∧ base ≤ g ∧ g < w.heap.size ∧ w.heap[g]? = some (.cells cur 3 (0, 0)) ∧ l.length ≤ cap ∧ cap ≤ maxLen ∧ cur.size = cap * 1 ∧ cur.toList.take (l.length * 1) = l.map (Value.int .i64) := by
  rcases h.2 with ⟨rfl, h0⟩ | ⟨g, cap, cur, rfl, hb, hg, hn, hm, hs, ht⟩
  · exact absurd (List.eq_nil_of_length_eq_zero h0) hl
  · exact ⟨g, cap, cur, rfl, hb, (Array.getElem?_eq_some_iff.1 hg).1, hg, hn, hm, hs, ht⟩

theorem OwnI.kept {w w' : World} {base : Nat} {v : Value} {l : List Int} {row : Option Nat} (h : OwnI w base v l) (hg : w.grownBy w' row) (hne : v.ownBlock = none ∨ v.ownBlock ≠ row) : OwnI w' base v l :=
  World.ownsRow.kept h hg hne

theorem idx_miss {l : List Int} {x : Int} (h : x ∉ l) : Lib.idxOf (l.take l.length) x = -1 :=
  Lib.idxOf_miss l l.length x fun j hj e => h (by
    rw [List.getD_eq_getElem?_getD, List.getElem?_eq_getElem hj] at e
    exact e ▸ List.getElem_mem hj)

theorem idx_hit {l : List Int} {x : Int} (h : x ∈ l) : ∃ i : Nat, i < l.length ∧ Lib.idxOf (l.take l.length) x = i ∧ l.take i ++ l.drop (i + 1) = l.erase x := by
  have hi : l.idxOf x < l.length := List.idxOf_lt_length_iff.2 h
  refine ⟨l.idxOf x, hi, ?_, ?_⟩
  · refine Lib.idxOf_hit l l.length _ x hi (Nat.le_refl _) ?_ ?_
    · rw [List.getD_eq_getElem?_getD, List.getElem?_eq_getElem hi]; simp
    · intro j hj e
      have hjl : j < l.length := by omega
      rw [List.getD_eq_getElem?_getD, List.getElem?_eq_getElem hjl] at e
      simp at e
      have := List.not_of_lt_findIdx (xs := l) (p := fun y => y == x) (i := j) hj
      simp [e] at this
  · rw [← List.eraseIdx_eq_take_drop_succ, ← List.erase_eq_eraseIdx_of_idxOf rfl]

theorem own_put {w : World} {base g cap q m : Nat} {l d : List Int} {os : Array Obj} (h : OwnI w base (.slice (some ⟨g, 0, none⟩) l.length cap) l) (hd : d.length = l.length) (hm : m ≤ d.length) :
    OwnI (grow (putRow (Value.int .i64) (Sort.ahead w q) g 0 d.toArray) os) base (.slice (some ⟨g, 0, none⟩) m cap) (d.take m) ∧ w.grownBy (grow (putRow (Value.int .i64) (Sort.ahead w q) g 0 d.toArray) os) (some g) := by
  refine ⟨?_, grownBy_sortedI _⟩
  rcases h.2 with ⟨h0, _⟩ | ⟨g', cap', cur, hv, hb, hg, hn, hmx, hs, ht⟩
  · simp at h0
  · simp at hv
    obtain ⟨rfl, rfl⟩ := hv
    have hlen : (d.take m).length = m := by simp; omega
    have hput := take_putCellsI cur d (by omega)
    refine ⟨by simp, .inr ⟨g, cap, _, by rw [hlen], hb, heap_sortedI _ hg, by omega, hmx, by simp [putCells, hs], ?_⟩⟩
    have h2 := congrArg (List.take m) hput
    rw [List.take_take, Nat.min_eq_left (by omega)] at h2
    rw [hlen, Nat.mul_one, h2, List.map_take]

theorem own_holds {w : World} {base g cap n : Nat} {l : List Int} (h : OwnI w base (.slice (some ⟨g, 0, none⟩) n cap) l) (hn : n = l.length) : Holds (Value.int .i64) w g 0 l.toArray := by
  subst hn
  rcases h.2 with ⟨h0, _⟩ | ⟨g', cap', cur, hv, hb, hg, hn, hmx, hs, ht⟩
  · simp at h0
  · simp at hv
    obtain ⟨rfl, rfl⟩ := hv
    exact holds_of_blockI hg (by simpa using ht)

theorem own_drop {w : World} {base g cap q i : Nat} {l : List Int} {x : Int} (h : OwnI w base (.slice (some ⟨g, 0, none⟩) l.length cap) l) (hi : i < l.length) (he : l.take i ++ l.drop (i + 1) = l.erase x) (hx : x ∈ l) :
    OwnI (putRow (Value.int .i64) (Sort.ahead w q) g 0 (l.take i ++ l.drop (i + 1) ++ List.replicate (i + 1 - i) 0).toArray) base (.slice (some ⟨g, 0, none⟩) (l.length - (i + 1 - i)) cap) (l.erase x) ∧ w.grownBy (putRow (Value.int .i64) (Sort.ahead w q) g 0 (l.take i ++ l.drop (i + 1) ++ List.replicate (i + 1 - i) 0).toArray) (some g) := by
  have hlen : (l.take i ++ l.drop (i + 1) ++ List.replicate (i + 1 - i) 0).length = l.length := by simp; omega
  have hel : (l.erase x).length = l.length - 1 := List.length_erase_of_mem hx
  have := own_put (q := q) (m := l.length - (i + 1 - i)) (os := #[]) h hlen (by omega)
  rw [grow_empty] at this
  refine ⟨?_, this.2⟩
  have h3 : (l.take i ++ l.drop (i + 1) ++ List.replicate (i + 1 - i) 0).take (l.length - (i + 1 - i)) = l.erase x := by
    rw [he, List.take_append_of_le_length (by omega), List.take_of_length_le (by omega)]
  rw [h3] at this
  exact this.1

theorem new_one (w : World) (x : Value) (t : TypeId) : ∀ j u, [x][j]? = some u → (w.alloc (.cells #[x] t)).cell? (Addr.add ⟨w.heap.size, 0, none⟩ j) = some u := by
  intro j u hj
  match j, hj with
  | 0, hj =>
    have h : x = u := by simpa using hj
    subst h
    simp [Addr.add]

theorem one_cell (p : Int) : ∀ u ∈ [Value.int .i64 p], u.oneCell' = true := by
  intro u hu
  have : u = Value.int .i64 p := by simpa using hu
  subst this; rfl

/-- What an append of one number to a slice of one's own leaves. -/
theorem own_append {w wr w' : World} {B : Nat} {v v' : Value} {l : List Int} {p : Int} {o : Obj} (hown : OwnI wr B v l) (hb : Below B w wr) (hB : B ≤ w.heap.size)
    (h1 : w'.ownsRow B 3 1 v' (l.length + 1) (l.map (Value.int .i64) ++ [.int .i64 p])) (h2 : (wr.alloc o).grownBy w' v.ownBlock) : OwnI w' B v' (l ++ [p]) ∧ Below B w w' := by
  have hs := hb.size
  refine ⟨?_, ?_⟩
  · unfold OwnI
    rw [List.length_append, List.map_append]
    exact h1
  · refine (hb.alloc (by omega) o).grown h2 (by simp; omega) fun k hk => (World.ownsRow.lt hown k hk).1

theorem OwnI.rows {w w1 : World} {base n : Nat} {v : Value} {l : List Int} (h : OwnI w base v l) (hn : l.length = n) (hw : w1.heap = w.heap) : w1.ownsRow base 3 1 v n (l.map (Value.int .i64)) := by
  subst hn
  unfold World.ownsRow
  rw [hw]
  exact h

theorem own_append2 {w wr w' : World} {B n : Nat} {v v' : Value} {l : List Int} {p : Int} {o : Obj} (hown : OwnI wr B v l) (hn : l.length = n) (hb : Below B w wr) (hB : B ≤ w.heap.size)
    (h1 : w'.ownsRow B 3 1 v' (n + 1) (l.map (Value.int .i64) ++ [.int .i64 p])) (h2 : (wr.alloc o).grownBy w' v.ownBlock) : OwnI w' B v' (l ++ [p]) ∧ Below B w w' := by
  subst hn
  exact own_append hown hb hB h1 h2

theorem below_drewN {B : Nat} {a w : World} (h : RowKit.Below B a w) (n : Nat) : RowKit.Below B a (w.drewN n) := ⟨h.os, h.tape, h.output, h.size, h.block⟩
theorem OwnI.drewN {w : World} {base : Nat} {v : Value} {l : List Int} (h : OwnI w base v l) (n : Nat) : OwnI (w.drewN n) base v l := h

def le (x y : Int) : Bool := decide (x ≤ y)
theorem le_trans' (a b c : Int) (h1 : le a b = true) (h2 : le b c = true) : le a c = true := by simp [le] at *; omega
theorem le_total' (a b : Int) : (le a b || le b a) = true := by simp [le]; omega
def lenOf : Value → Nat | .slice _ n _ => n | _ => 0

theorem sort_min {r : List Int} {m : Int} (hm : m ∈ r) (hle : ∀ x ∈ r, m ≤ x) : r.mergeSort le = m :: (r.erase m).mergeSort le := by
  refine List.Perm.eq_of_pairwise (le := fun a b => le a b = true) (fun a b _ _ h1 h2 => by simp [le] at h1 h2; omega) ?_ ?_ ?_
  · exact List.pairwise_mergeSort le_trans' le_total' r
  · refine List.pairwise_cons.2 ⟨fun x hx => ?_, List.pairwise_mergeSort le_trans' le_total' _⟩
    have : x ∈ r := List.mem_of_mem_erase (List.mem_mergeSort.1 hx)
    simpa [le] using hle x this
  · exact (List.mergeSort_perm r le).trans ((List.perm_cons_erase hm).trans ((List.mergeSort_perm (r.erase m) le).symm.cons m))

theorem ownI_mono {w : World} {B B' : Nat} {v : Value} {l : List Int} (h : OwnI w B v l) (hB : B' ≤ B) : OwnI w B' v l := by
  refine ⟨h.1, ?_⟩
  rcases h.2 with h0 | ⟨g, cap, cur, hv, hb, rest⟩
  · exact .inl h0
  · exact .inr ⟨g, cap, cur, hv, Nat.le_trans hB hb, rest⟩
end Go.Proofs.YtmibnceadciidaaDoor
