/- Lists alone, for chapter 11: the orders of the first n of four things, and what changes of neighbours, and moving forward, make of them: closed checks over all orders. -/
import Derived.Test.YtnjfmlojbaigjabLists
import Derived.Test.YtnjfmlojbaigjabORear
namespace Go.Proofs.Ytnjfmlojbaigjab
set_option maxRecDepth 100000

def Un (n : Nat) : List Int := (List.range n).map fun (k : Nat) => (k : Int)
def O4.row (n : Nat) (s : O4) : List Int := s.l.take n
def goodB (n : Nat) (s : O4) : Bool := decide (s.row n).Nodup && (s.row n).all (fun x => decide (x < (n : Int))) && (s.l.drop n == (Un 4).drop n)
def fin4 : List (Fin 4) := [0, 1, 2, 3]
theorem fin4_all (x : Fin 4) : x ∈ fin4 := by
  have : x = 0 ∨ x = 1 ∨ x = 2 ∨ x = 3 := by
    have := x.isLt
    rcases (by omega : x.val = 0 ∨ x.val = 1 ∨ x.val = 2 ∨ x.val = 3) with h | h | h | h
    · exact .inl (Fin.ext h)
    · exact .inr (.inl (Fin.ext h))
    · exact .inr (.inr (.inl (Fin.ext h)))
    · exact .inr (.inr (.inr (Fin.ext h)))
  rcases this with rfl | rfl | rfl | rfl <;> simp [fin4]
def allO : List O4 := fin4.flatMap fun a => fin4.flatMap fun b => fin4.flatMap fun c => fin4.map fun d => ⟨a, b, c, d⟩
theorem allO_mem (s : O4) : s ∈ allO := by
  obtain ⟨a, b, c, d⟩ := s
  unfold allO
  simp only [List.mem_flatMap, List.mem_map]
  exact ⟨a, fin4_all a, b, fin4_all b, c, fin4_all c, d, fin4_all d, rfl⟩
def perms (n : Nat) : List O4 := allO.filter (goodB n)
theorem mem_perms {n : Nat} {s : O4} : s ∈ perms n ↔ goodB n s = true := by
  unfold perms
  rw [List.mem_filter]
  exact ⟨fun h => h.2, fun h => ⟨allO_mem s, h⟩⟩
def tn (n : Nat) (A B : O4) : Nat := turn2 (Un n) (A.row n) (B.row n)
def fwB (A B : List Int) (x : Int) : Bool := (B.erase x == A.erase x) && decide (pos B x ≤ pos A x)
/-- What holds of all orders of n things. -/
def chkSwap (n : Nat) : Bool := (perms n).all fun M => (List.range (n - 1)).all fun k => goodB n (M.fw (k + 1) k) && (perms n).all fun B => decide (tn n B (M.fw (k + 1) k) ≤ tn n B M + 1)
def chkNear (n : Nat) : Bool := (perms n).all fun B => (perms n).all fun M => decide (tn n B M ≤ pairs n) && (decide (B = M) || (List.range (n - 1)).any fun k => decide (tn n B (M.fw (k + 1) k) + 1 = tn n B M))
def chkFound (n : Nat) : Bool := (perms n).all fun M => (List.range n).all fun x => decide (at_ M.l (x : Int) = (pos (M.row n) (x : Int) : Int)) && decide (pos (M.row n) (x : Int) < n) && (List.range (pos (M.row n) (x : Int) + 1)).all fun j => goodB n (M.fw (pos (M.row n) (x : Int)) j) && fwB (M.row n) ((M.fw (pos (M.row n) (x : Int)) j).row n) (x : Int)
def chkBack (n : Nat) : Bool := (perms n).all fun M => (List.range n).all fun x => (perms n).all fun C => !fwB (M.row n) (C.row n) (x : Int) || (List.range (pos (M.row n) (x : Int) + 1)).any fun j => decide (C = M.fw (pos (M.row n) (x : Int)) j)
def chkRow (n : Nat) : Bool := (perms n).all fun s => (Un n).all fun u => (s.row n).contains u
theorem four_n {n : Nat} (h1 : 1 ≤ n) (h4 : n ≤ 4) : n = 1 ∨ n = 2 ∨ n = 3 ∨ n = 4 := by omega
theorem swap_ok {n : Nat} (h1 : 1 ≤ n) (h4 : n ≤ 4) : chkSwap n = true := by
  rcases four_n h1 h4 with rfl | rfl | rfl | rfl <;> decide +kernel
theorem near_ok {n : Nat} (h1 : 1 ≤ n) (h4 : n ≤ 4) : chkNear n = true := by
  rcases four_n h1 h4 with rfl | rfl | rfl | rfl <;> decide +kernel
theorem found_ok {n : Nat} (h1 : 1 ≤ n) (h4 : n ≤ 4) : chkFound n = true := by
  rcases four_n h1 h4 with rfl | rfl | rfl | rfl <;> decide +kernel
theorem back_ok {n : Nat} (h1 : 1 ≤ n) (h4 : n ≤ 4) : chkBack n = true := by
  rcases four_n h1 h4 with rfl | rfl | rfl | rfl <;> decide +kernel
theorem row_ok {n : Nat} (h1 : 1 ≤ n) (h4 : n ≤ 4) : chkRow n = true := by
  rcases four_n h1 h4 with rfl | rfl | rfl | rfl <;> decide +kernel
end Go.Proofs.Ytnjfmlojbaigjab
