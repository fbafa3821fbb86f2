/- Lists alone: the pages in the order of the last asking, looked at from the end of the requests. -/
import Derived.Test.YtennlinnclcngaaFull
namespace Go.Proofs.Ytennlinnclcngaa
open Go.RowKit

theorem mru_snoc (x : Int) : ∀ q : List Int, mru (q ++ [x]) = if x ∈ q then mru q else mru q ++ [x]
  | [] => by simp [mru]
  | p :: q => by
    rw [List.cons_append, mru, mru_snoc x q, mru]
    by_cases hx : x ∈ q
    · rw [if_pos hx, if_pos (List.mem_cons_of_mem _ hx)]
    · rw [if_neg hx]
      have hx2 : x ∉ mru q := fun h => hx (mru_mem.1 h)
      by_cases hp : x = p
      · subst hp
        rw [if_pos (by simp), List.erase_append_right _ hx2]
        simp [List.erase_of_not_mem hx2]
      · rw [if_neg (by simp [hp, hx]), List.cons_append]
        congr 1
        by_cases hm : p ∈ mru q
        · rw [List.erase_append_left _ hm]
        · rw [List.erase_append_right _ hm, List.erase_of_not_mem hm]
          simp [hp]

theorem full_cons (x : Int) (r : List Int) : full (x :: r) = if x ∈ r then full r else full r ++ [x] := by
  unfold full
  rw [List.reverse_cons, mru_snoc]
  simp

theorem full_drop {l : List Int} {u : Nat} (h : u < l.length) : full (l.drop u) = if l[u]?.getD 0 ∈ l.drop (u+1) then full (l.drop (u+1)) else full (l.drop (u+1)) ++ [l[u]?.getD 0] := by
  rw [List.drop_eq_getElem_cons h, full_cons, List.getElem?_eq_getElem h, Option.getD_some]

theorem full_prefix (l : List Int) : ∀ u, u ≤ l.length → full (l.drop u) <+: full l
  | 0, _ => by simp
  | u + 1, h => by
    have ih := full_prefix l u (by omega)
    rw [full_drop (by omega)] at ih
    split at ih
    · exact ih
    · exact (List.prefix_append _ _).trans ih

theorem full_length_succ {l : List Int} {k : Nat} (h : k < l.length) : (full (l.take (k+1))).length = (full (l.take k)).length + (if (l.take k).contains (l[k]?.getD 0) then 0 else 1) := by
  rw [full_succ h, List.length_cons]
  by_cases hm : l[k]?.getD 0 ∈ l.take k
  · rw [List.length_erase_of_mem (full_mem.2 hm), if_pos (by simpa using hm)]
    have := List.length_pos_of_mem (full_mem.2 hm)
    omega
  · rw [List.erase_of_not_mem (fun h => hm (full_mem.1 h)), if_neg (by simpa using hm)]

theorem full_firsts (l : List Int) : ∀ k, k ≤ l.length → (full (l.take k)).length = firsts l k
  | 0, _ => by simp [full, mru, firsts]
  | k + 1, h => by rw [full_length_succ (by omega), full_firsts l k (by omega), firsts_succ]

theorem full_length (l : List Int) : (full l).length = firsts l l.length := by
  have := full_firsts l l.length (Nat.le_refl _)
  rwa [List.take_length] at this

theorem firsts_nodup {l : List Int} (h : l.Nodup) : ∀ k, k ≤ l.length → firsts l k = k
  | 0, _ => by simp [firsts]
  | k + 1, hk => by
    rw [firsts_succ, firsts_nodup h k (by omega), if_neg]
    have hk' : k < l.length := by omega
    rw [List.getElem?_eq_getElem hk', Option.getD_some]
    intro hm
    obtain ⟨i, hi, he⟩ := List.getElem_of_mem (List.contains_iff_mem.1 hm)
    rw [List.getElem_take] at he
    have hi2 : i < k := by simp at hi; omega
    have := (List.getElem_inj (h₀ := by omega) (h₁ := hk') h).1 he
    omega

theorem take_nodup {l : List Int} (h : l.Nodup) (n : Nat) : (l.take n).Nodup := h.sublist (List.take_sublist _ _)

theorem last_pos {l : List Int} {t k s : Nat} (h : full (l.drop t) = (full l).take k) (hk : k < ((full l).take s).length) : 1 ≤ t := by
  cases t with
  | succ t => omega
  | zero =>
    rw [List.drop_zero] at h
    have := congrArg List.length h
    rw [List.length_take] at hk this
    omega

theorem take_held {F : List Int} {s k : Nat} (hk : k < (F.take s).length) : (F.take s).take k = F.take k := by
  rw [List.take_take, Nat.min_eq_left]
  rw [List.length_take] at hk; omega

theorem step_in {l : List Int} {u k s : Nat} (hu : u < l.length) (h : full (l.drop (u+1)) = (full l).take k) (hk : k < ((full l).take s).length) (hm : (((full l).take s).take k).contains (l[u]?.getD 0) = true) : 1 ≤ u ∧ full (l.drop u) = (full l).take k := by
  rw [take_held hk, ← h, List.contains_iff_mem, full_mem] at hm
  have h2 : full (l.drop u) = (full l).take k := by rw [full_drop hu, if_pos hm, h]
  exact ⟨last_pos h2 hk, h2⟩

theorem step_out {l : List Int} {u k s : Nat} (hu : u < l.length) (h : full (l.drop (u+1)) = (full l).take k) (hk : k < ((full l).take s).length) (hm : (((full l).take s).take k).contains (l[u]?.getD 0) = false) : ((full l).take s)[k]?.getD 0 = l[u]?.getD 0 ∧ full (l.drop u) = (full l).take (k+1) := by
  have hm2 : ¬ (l[u]?.getD 0 ∈ l.drop (u+1)) := by
    intro hx
    rw [take_held hk, ← h] at hm
    have := List.contains_iff_mem.2 (full_mem.2 hx)
    rw [hm] at this; cases this
  have h2 : full (l.drop u) = (full l).take k ++ [l[u]?.getD 0] := by rw [full_drop hu, if_neg hm2, h]
  have hkF : k < (full l).length := by rw [List.length_take] at hk; omega
  have hks : k < s := by rw [List.length_take] at hk; omega
  have hp := List.prefix_iff_eq_take.1 (full_prefix l u (by omega))
  have hlen : (full (l.drop u)).length = k + 1 := by rw [h2]; simp; omega
  rw [hlen] at hp
  refine ⟨?_, hp⟩
  rw [List.getElem?_take_of_lt hks]
  rw [h2] at hp
  have := congrArg (fun x => x[k]?) hp
  rw [List.getElem?_take_of_lt (by omega), List.getElem?_append_right (by simp; omega)] at this
  have hl : ((full l).take k).length = k := by rw [List.length_take]; omega
  rw [hl] at this
  simp at this
  rw [← this]; rfl
end Go.Proofs.Ytennlinnclcngaa
