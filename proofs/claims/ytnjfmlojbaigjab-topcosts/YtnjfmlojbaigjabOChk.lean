/- What is wrong with a list and requests; the walk of lists.Check. -/
import Derived.Test.YtnjfmlojbaigjabOpened
import Derived.Test.YtnjfmlojbaigjabKeep
namespace Go.Proofs.Ytnjfmlojbaigjab
set_option maxRecDepth 100000
open Go.RowKit

def badThing (n : Int) (p : Int) : Bool := decide (p < 0) || decide (n ≤ p)
def chkL (n : Int) (l : List Int) : Nat := if 40 < l.length then 4 else if n < 1 ∨ 4 < n then 1 else if l.any (badThing n) then 1 else 0
theorem any_succ {f : Int → Bool} {l : List Int} {k : Nat} (h : k < l.length) (h0 : (l.take k).any f = false) (hb : f (l[k]?.getD 0) = false) : (l.take (k+1)).any f = false := by
  rw [List.take_succ_eq_append_getElem h, List.any_append, h0]
  simp [List.getElem?_eq_getElem h] at hb ⊢
  exact hb
theorem any_here {f : Int → Bool} {l : List Int} {k : Nat} (h : k < l.length) (hb : f (l[k]?.getD 0) = true) : l.any f = true := by
  rw [List.any_eq_true]
  exact ⟨l[k], List.getElem_mem h, by simpa [List.getElem?_eq_getElem h] using hb⟩
theorem chkL_long {n : Int} {l : List Int} (h : 40 < l.length) : chkL n l = 4 := by simp [chkL, h]
theorem chkL_n {n : Int} {l : List Int} (h : l.length ≤ 40) (hn : n < 1 ∨ 4 < n) : chkL n l = 1 := by
  have : ¬ 40 < l.length := by omega
  simp [chkL, this, hn]
theorem chkL_bad {n : Int} {l : List Int} (h : l.length ≤ 40) (hb : l.any (badThing n) = true) : chkL n l = 1 := by
  have : ¬ 40 < l.length := by omega
  unfold chkL
  rw [if_neg this, if_pos hb]
  split <;> rfl
theorem chkL_ok {n : Int} {l : List Int} (h : l.length ≤ 40) (hn : 1 ≤ n ∧ n ≤ 4) (hb : l.any (badThing n) = false) : chkL n l = 0 := by
  have h1 : ¬ 40 < l.length := by omega
  have h2 : ¬ (n < 1 ∨ 4 < n) := by omega
  simp [chkL, h1, h2, hb]
theorem chkL_cases (n : Int) (l : List Int) : chkL n l = 0 ∨ chkL n l = 1 ∨ chkL n l = 4 := by
  unfold chkL
  repeat' split
  all_goals simp
structure FineL (n : Int) (l : List Int) : Prop where
  reqs : l.length ≤ 40
  low : 1 ≤ n ∧ n ≤ 4
  thing : ∀ k, k < l.length → 0 ≤ l[k]?.getD 0 ∧ l[k]?.getD 0 < n
theorem chkL_zero {n : Int} {l : List Int} (h : chkL n l = 0) : FineL n l := by
  by_cases h1 : 40 < l.length
  · rw [chkL_long h1] at h; cases h
  have h40 : l.length ≤ 40 := by omega
  by_cases h2 : n < 1 ∨ 4 < n
  · rw [chkL_n h40 h2] at h; cases h
  cases hp : l.any (badThing n) with
  | true => rw [chkL_bad h40 hp] at h; cases h
  | false =>
    refine ⟨h40, by omega, fun k hk => ?_⟩
    have := List.any_eq_false.1 hp (l[k]) (List.getElem_mem hk)
    rw [List.getElem?_eq_getElem hk]
    simp [badThing] at this ⊢; omega
set_option maxHeartbeats 2000000 in
theorem ocheck_any (n : Int) (v : Value) (l : List Int) (w : World) (hv : IsInts w v l) :
    Calls Try.prog 16 #[.int .i64 n, v] w fun e w' => e = .returned (errV (chkL n l)) ∧ w' = w := by
  obtain ⟨ao, cap, rfl, hcap, ho⟩ := hv.opened
  have HO : Hid (∀ k, k < l.length → ∃ b off, ao = some ⟨b, off, none⟩ ∧ l.length ≤ cap ∧ b < w.heap.size ∧ ∀ j, j < l.length → w.cell? ⟨b, off + j, none⟩ = some (.int .i64 (l[j]?.getD 0))) := ho
  clear ho hv
  unfold maxLen at hcap
  by_cases h1 : 40 < l.length
  · have HK : Hid (chkL n l = 4) := chkL_long h1
    go_enter Try.func16, Try.ntmps16
    go_wp2
    go_ret
    exact ⟨by rw [HK.out]; rfl, rfl⟩
  have hl40 : l.length ≤ 40 := by omega
  clear h1
  rcases (by omega : n < 1 ∨ (1 ≤ n ∧ n ≤ 4) ∨ 4 < n) with h | ⟨h1, h2⟩ | h
  · have HK : Hid (chkL n l = 1) := chkL_n hl40 (.inl h)
    go_enter Try.func16, Try.ntmps16
    go_wp2
    go_ret
    exact ⟨by rw [HK.out]; rfl, rfl⟩
  · go_enter Try.func16, Try.ntmps16
    go_wp2
    go_loop [6, 20] (fun _ i => ∃ k : Nat, k ≤ l.length ∧ i = .int .i64 k ∧ Hid ((l.take k).any (badThing n) = false)) (fun _ i => l.length - (intOf i).toNat)
    case atStart => exact ⟨0, by omega, rfl, by simp [Hid]⟩
    case round =>
      obtain ⟨k, hk, rfl, HB⟩ := hrel
      by_cases hlt : k < l.length
      · obtain ⟨b, off, rfl, hlc, _, hcell⟩ := HO.out k hlt
        have hck := hcell k hlt
        clear hcell
        generalize hp : l[k]?.getD 0 = p at *
        have HP : Hid (l[k]?.getD 0 = p) := hp
        clear hp
        rcases (by omega : p < 0 ∨ (0 ≤ p ∧ p < n) ∨ n ≤ p) with g | ⟨g1, g2⟩ | g
        · go_wp2
          go_ret
          exact ⟨by rw [chkL_bad hl40 (any_here hlt (by rw [HP.out]; simp [badThing]; omega))]; rfl, rfl⟩
        · go_wp2
          go_round
          case rel => exact ⟨k + 1, by omega, by go_num, any_succ hlt HB.out (by rw [HP.out]; simp [badThing]; omega)⟩
          case measure => simp [intOf]; omega
        · go_wp2
          go_ret
          exact ⟨by rw [chkL_bad hl40 (any_here hlt (by rw [HP.out]; simp [badThing]; omega))]; rfl, rfl⟩
      · have hkl : k = l.length := by omega
        subst hkl
        go_wp2
        go_ret
        have hb : l.any (badThing n) = false := by have := HB.out; rwa [List.take_length] at this
        exact ⟨by rw [chkL_ok hl40 ⟨h1, h2⟩ hb]; rfl, rfl⟩
  · have HK : Hid (chkL n l = 1) := chkL_n hl40 (.inr h)
    go_enter Try.func16, Try.ntmps16
    go_wp2
    go_ret
    exact ⟨by rw [HK.out]; rfl, rfl⟩
end Go.Proofs.Ytnjfmlojbaigjab
