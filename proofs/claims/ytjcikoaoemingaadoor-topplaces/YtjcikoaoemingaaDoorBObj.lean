/- The arena of chapter 15 in the world: its cells, its map, and what they tell of the blocks. -/
import Derived.Test.YtjcikoaoemingaaDoorTurn
import Derived.Test.YtjcikoaoemingaaDoorMapI
import Derived.Test.YtjcikoaoemingaaDoorBuddyW
namespace Go.Proofs.YtjcikoaoemingaaDoor
open Go.RowKit Go.Maps Go.Sort

def arenaCells (F : Nat → Nat) (b : Nat) : Array Value := #[.int .u64 (F 0 : Nat), .int .u64 (F 1 : Nat), .int .u64 (F 2 : Nat), .int .u64 (F 3 : Nat), .int .u64 (F 4 : Nat), .int .u64 (F 5 : Nat), .int .u64 (F 6 : Nat), .map (some b)]
/-- The arena's cells lie in block a: the words F, the map in block b. -/
def Cells (w : World) (a : Nat) (F : Nat → Nat) (b : Nat) : Prop := w.heap[a]? = some (.cells (arenaCells F b) 73 (0, 0))
section
variable {w w1 : World} {a b : Nat} {F : Nat → Nat}
theorem Cells.lt (h : Cells w a F b) : a < w.heap.size := (Array.getElem?_eq_some_iff.1 h).1
theorem Cells.same (h : Cells w a F b) (he : w1.heap[a]? = w.heap[a]?) : Cells w1 a F b := he.trans h
theorem Cells.word (h : Cells w a F b) {k : Nat} (hk : k < 7) : w.cell? ⟨a, k, none⟩ = some (.int .u64 (F k : Nat)) := by
  unfold World.cell?
  rw [show w.heap[(⟨a, k, none⟩ : Addr).block]? = some (.cells (arenaCells F b) 73 (0, 0)) from h]
  have : k = 0 ∨ k = 1 ∨ k = 2 ∨ k = 3 ∨ k = 4 ∨ k = 5 ∨ k = 6 := by omega
  rcases this with rfl | rfl | rfl | rfl | rfl | rfl | rfl <;> rfl
theorem Cells.map (h : Cells w a F b) : w.cell? ⟨a, 7, none⟩ = some (.map (some b)) := by
  unfold World.cell?
  rw [show w.heap[(⟨a, 7, none⟩ : Addr).block]? = some (.cells (arenaCells F b) 73 (0, 0)) from h]
  rfl
theorem Cells.frozen (h : Cells w a F b) (k : Nat) : w.frozen? ⟨a, k, none⟩ = false := by
  unfold World.frozen?
  rw [show w.heap[(⟨a, k, none⟩ : Addr).block]? = some (.cells (arenaCells F b) 73 (0, 0)) from h]
  simp
def upF (F : Nat → Nat) (k x : Nat) : Nat → Nat := fun j => if j = k then x else F j
theorem Cells.set (h : Cells w a F b) {k : Nat} (hk : k < 7) (x : Nat) : Cells (w.setCell ⟨a, k, none⟩ (.int .u64 (x : Nat))) a (upF F k x) b := by
  unfold Cells
  simp only [World.setCell, Array.getElem?_modify]
  rw [if_pos trivial, show w.heap[a]? = some (.cells (arenaCells F b) 73 (0, 0)) from h]
  have : k = 0 ∨ k = 1 ∨ k = 2 ∨ k = 3 ∨ k = 4 ∨ k = 5 ∨ k = 6 := by omega
  rcases this with rfl | rfl | rfl | rfl | rfl | rfl | rfl <;> rfl
end

/-- What the map tells, when L is lent. -/
def lookI (L : List (Nat × Nat)) (z : Int) : Option Int := (look L z).map fun o : Nat => (o : Int)
/-- The words: bit by bit where free blocks begin. -/
def Words (F : Nat → Nat) (L : List (Nat × Nat)) : Prop := ∀ k, k < 7 → Bits (F k) fun q => MaxF L q k
/-- An arena: its cells in block a, its map in block b, both from base on; L is lent. -/
structure Arena (H : Type) (w : World) (base a b : Nat) (L : List (Nat × Nat)) : Prop where
  cells : ∃ F, Cells w a F b ∧ Words F L
  map : IsMapI H w b 64 (lookI L)
  okay : Okay L
  up : Up L
  fromA : base ≤ a
  fromB : base ≤ b
section
variable {H : Type} {w w1 : World} {base a b : Nat} {L : List (Nat × Nat)}
theorem lookI_keys (hL : Okay L) : ∀ z, lookI L z ≠ none → 0 ≤ z ∧ z < (64 : Nat) := by
  intro z hz
  unfold lookI at hz
  cases hl : look L z with
  | none => rw [hl] at hz; exact absurd rfl hz
  | some o =>
    obtain ⟨p, rfl, hm⟩ := look_some hl
    have := (hL.1 _ hm).2.2
    have := pow_pos2 o
    simp only at *
    omega
theorem Arena.ne (h : Arena H w base a b L) : a ≠ b := by
  intro e
  obtain ⟨F, hF, _⟩ := h.cells
  obtain ⟨es, ck, hb⟩ := h.map.obj
  rw [← e, show w.heap[a]? = _ from hF] at hb
  cases hb
theorem Arena.same (h : Arena H w base a b L) (ha : w1.heap[a]? = w.heap[a]?) (hb : w1.heap[b]? = w.heap[b]?) : Arena H w1 base a b L := by
  obtain ⟨⟨F, h1, h2⟩, h3, h4, h5, h6, h7⟩ := h
  exact ⟨⟨F, h1.same ha, h2⟩, h3.same hb, h4, h5, h6, h7⟩
theorem Arena.lt (h : Arena H w base a b L) : a < w.heap.size ∧ b < w.heap.size := by
  obtain ⟨F, hF, _⟩ := h.cells
  exact ⟨hF.lt, h.map.lt⟩
theorem Arena.later (h : Arena H w base a b L) (hb : Below w.heap.size w w1) : Arena H w1 base a b L :=
  h.same (hb.block a h.lt.1) (hb.block b h.lt.2)
theorem Arena.notA (h : Arena H w base a b L) : ∀ cur fz, w.heap[a]? ≠ some (.cells cur 3 fz) := by
  intro cur fz e
  obtain ⟨F, hF, _⟩ := h.cells
  rw [show w.heap[a]? = _ from hF] at e
  simp at e
theorem Arena.notB (h : Arena H w base a b L) : ∀ cur fz, w.heap[b]? ≠ some (.cells cur 3 fz) := by
  intro cur fz e
  obtain ⟨es, ck, hb⟩ := h.map.obj
  rw [hb] at e
  cases e
theorem Arena.own (h : Arena H w base a b L) {B : Nat} {v : Value} {l : List Int} (ho : OwnI w B v l) (ht : Turn a b w w1) : OwnI w1 B v l := ho.turn ht h.notA h.notB
theorem Arena.perm {M : List (Nat × Nat)} (h : Arena H w base a b L) (e : L = M) : Arena H w base a b M := e ▸ h
end
theorem words_none : Words (fun k => if k = 6 then 1 else 0) [] := by
  intro k hk
  refine ⟨?_, fun q => ?_⟩
  · show (if k = 6 then 1 else 0) < _
    split <;> omega
  · show Nat.testBit (if k = 6 then 1 else 0) q = true ↔ MaxF [] q k
    rw [maxF_none]
    by_cases h6 : k = 6
    · rw [if_pos h6]
      have : (1 : Nat) = 2 ^ 0 := rfl
      rw [this, Nat.testBit_two_pow]
      simp [h6, eq_comm]
    · rw [if_neg h6]
      simp [h6]
end Go.Proofs.YtjcikoaoemingaaDoor
