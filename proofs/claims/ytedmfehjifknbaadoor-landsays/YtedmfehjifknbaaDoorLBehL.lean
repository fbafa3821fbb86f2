/- The stores that may be behind a request, as the program goes through them: lists, and what is kept meanwhile. -/
import Derived.Test.YtedmfehjifknbaaDoorLAll
namespace Go.Proofs.YtedmfehjifknbaaDoor
set_option maxRecDepth 100000
open Go.RowKit Go.Maps

def S6.set (s : S6) (i : Nat) (x : Bool) : S6 :=
  match i with
  | 0 => { s with a := x } | 1 => { s with b := x } | 2 => { s with c := x } | 3 => { s with d := x } | 4 => { s with e := x } | 5 => { s with f := x } | _ => s
/-- What comes of the first k pages: those that are there are let go of, one each. -/
def leftTo (s cm : S6) (co : Fin 1024) : Nat → List Ent
  | 0 => []
  | k + 1 => bif s.at k then leftTo s cm co k ++ [(cm.set k false, co)] else leftTo s cm co k
theorem left_few (s cm : S6) (co : Fin 1024) : ∀ k, k < 7 → (leftTo s cm co k).length < 7 := by
  have : ∀ k, (leftTo s cm co k).length ≤ k := fun k => by
    induction k with
    | zero => simp [leftTo]
    | succ k ih => unfold leftTo; cases s.at k <;> simp <;> omega
  intro k hk
  have := this k
  omega
def behindL (s : S6) (p : Nat) (co : Fin 1024) (sl : Nat) : List Ent :=
  bif s.at p then [(s, 0)] else if s.to 6 < sl then [(s.set p true, co)] else leftTo s (s.set p true) co 6
/-- What the iterator has taken in. -/
structure Boxes (W : World) (B Bp Bs Bc : Nat) (s : S6) (p : Nat) (co : Fin 1024) (sl : Nat) : Prop where
  b0 : W.cell? ⟨B, 0, none⟩ = some (.bool s.a)
  b1 : W.cell? ⟨B, 1, none⟩ = some (.bool s.b)
  b2 : W.cell? ⟨B, 2, none⟩ = some (.bool s.c)
  b3 : W.cell? ⟨B, 3, none⟩ = some (.bool s.d)
  b4 : W.cell? ⟨B, 4, none⟩ = some (.bool s.e)
  b5 : W.cell? ⟨B, 5, none⟩ = some (.bool s.f)
  b6 : W.cell? ⟨Bp, 0, none⟩ = some (.int .i64 (p : Nat))
  b7 : W.cell? ⟨Bc, 0, none⟩ = some (.int .i64 (co.val : Nat))
  b8 : W.cell? ⟨Bs, 0, none⟩ = some (.int .i64 (sl : Nat))
theorem grown_left (W : World) (o : Obj) (j : Nat) (u : Value) : W.grownBy ((W.alloc o).setCell ⟨W.heap.size, j, none⟩ u) none := by
  refine ⟨rfl, rfl, rfl, ?_, fun i hi _ => ?_⟩
  · show W.heap.size ≤ ((W.alloc o).heap.modify _ _).size
    rw [Array.size_modify]; simp
  · rw [Below.heap_setCell _ _ _ _ (by show i ≠ W.heap.size; omega)]
    exact Below.heap_alloc _ _ _ hi
theorem KeepB.drew (bn : Nat) (W : World) : KeepB bn W W.drew := ⟨Nat.le_refl _, fun _ _ h _ _ => h⟩
theorem KeepB.left (bn : Nat) (W : World) (o : Obj) (j : Nat) (u : Value) : KeepB bn W ((W.alloc o).setCell ⟨W.heap.size, j, none⟩ u) := by
  have g := grown_left W o j u
  exact ⟨g.size, fun k _ hk _ _ => (g.block k (Array.getElem?_eq_some_iff.1 hk).1 (by simp)).trans hk⟩
end Go.Proofs.YtedmfehjifknbaaDoor
