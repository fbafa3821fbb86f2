/- Lists and numbers alone, for chapter 16: blocks where they fit first, and the holes between them. -/
import Derived.Test.YtjcikoaoemingaaDoorBase
namespace Go.Proofs.YtjcikoaoemingaaDoor

/-- So many places are free from p on. -/
def Fits (F : List (Nat × Nat)) (p n : Nat) : Prop := p + n ≤ 64 ∧ ∀ b, b ∈ F → ¬ (b.1 < p + n ∧ p < b.1 + b.2)
/-- Blocks from the place p on: rising, none empty, within the 64 places. -/
def LaidF : Nat → List (Nat × Nat) → Prop
  | p, [] => p ≤ 64
  | p, b :: r => p ≤ b.1 ∧ 1 ≤ b.2 ∧ LaidF (b.1 + b.2) r
theorem LaidF.le {p : Nat} : ∀ {F : List (Nat × Nat)}, LaidF p F → p ≤ 64
  | [], h => h
  | b :: r, h => by
    have := LaidF.le h.2.2
    have := h.1
    omega
theorem LaidF.mono {p q : Nat} (hqp : q ≤ p) : ∀ {F : List (Nat × Nat)}, LaidF p F → LaidF q F
  | [], h => Nat.le_trans hqp h
  | _ :: _, h => ⟨Nat.le_trans hqp h.1, h.2⟩
theorem LaidF.mem {p : Nat} : ∀ {F : List (Nat × Nat)}, LaidF p F → ∀ b, b ∈ F → p ≤ b.1 ∧ 1 ≤ b.2 ∧ b.1 + b.2 ≤ 64
  | [], _, b, hb => by simp at hb
  | c :: r, h, b, hb => by
    rcases List.mem_cons.1 hb with rfl | hb
    · exact ⟨h.1, h.2.1, h.2.2.le⟩
    · have := LaidF.mem h.2.2 b hb
      have := h.1
      exact ⟨by omega, by omega, by omega⟩
/-- Where free places begin, and how many. -/
def holes : Nat → List (Nat × Nat) → List (Nat × Nat)
  | p, [] => if p < 64 then [(p, 64 - p)] else []
  | p, b :: r => if p < b.1 then (p, b.1 - p) :: holes (b.1 + b.2) r else holes (b.1 + b.2) r
/-- The least place from p on where n fit. -/
def roomF : Nat → List (Nat × Nat) → Nat → Option Nat
  | p, [], n => if p + n ≤ 64 then some p else none
  | p, b :: r, n => if p + n ≤ b.1 then some p else roomF (b.1 + b.2) r n
theorem roomF_holes {n : Nat} (hn : 1 ≤ n) : ∀ {p : Nat} {F : List (Nat × Nat)}, LaidF p F → roomF p F n = ((holes p F).find? fun h => decide (n ≤ h.2)).map Prod.fst
  | p, [], h => by
    unfold roomF holes
    have hp : p ≤ 64 := h
    by_cases h1 : p < 64
    · rw [if_pos h1, List.find?_cons]
      by_cases h2 : p + n ≤ 64
      · rw [if_pos h2, show decide (n ≤ (p, 64 - p).2) = true from decide_eq_true (by show n ≤ 64 - p; omega)]; rfl
      · rw [if_neg h2, show decide (n ≤ (p, 64 - p).2) = false from decide_eq_false (by show ¬ n ≤ 64 - p; omega)]; rfl
    · rw [if_neg h1, if_neg (by omega)]; rfl
  | p, b :: r, h => by
    unfold roomF holes
    have ih := roomF_holes hn h.2.2
    have hp := h.1
    by_cases h1 : p < b.1
    · rw [if_pos h1, List.find?_cons]
      by_cases h2 : p + n ≤ b.1
      · rw [if_pos h2, show decide (n ≤ (p, b.1 - p).2) = true from decide_eq_true (by show n ≤ b.1 - p; omega)]; rfl
      · rw [if_neg h2, show decide (n ≤ (p, b.1 - p).2) = false from decide_eq_false (by show ¬ n ≤ b.1 - p; omega)]; exact ih
    · rw [if_neg h1, if_neg (by omega)]; exact ih
theorem roomF_some {n : Nat} (hn : 1 ≤ n) : ∀ {p : Nat} {F : List (Nat × Nat)}, LaidF p F → ∀ {q : Nat}, roomF p F n = some q → p ≤ q ∧ Fits F q n ∧ ∀ x, p ≤ x → x < q → ¬ Fits F x n
  | p, [], h, q, e => by
    unfold roomF at e
    split at e
    · rename_i h1
      injection e with e
      subst e
      exact ⟨Nat.le_refl _, ⟨h1, fun b hb => by simp at hb⟩, fun x h1 h2 => by omega⟩
    · cases e
  | p, b :: r, h, q, e => by
    unfold roomF at e
    obtain ⟨h1, h2, h3⟩ := h
    split at e
    · rename_i h4
      injection e with e
      subst e
      refine ⟨Nat.le_refl _, ⟨by have := h3.le; omega, fun c hc => ?_⟩, fun x h1 h2 => by omega⟩
      rcases List.mem_cons.1 hc with rfl | hc
      · rintro ⟨g1, g2⟩; omega
      · have := h3.mem c hc
        rintro ⟨g1, g2⟩; omega
    · rename_i h4
      obtain ⟨a, b', c⟩ := roomF_some hn h3 e
      refine ⟨by omega, ⟨b'.1, fun d hd => ?_⟩, fun x g1 g2 hf => ?_⟩
      · rcases List.mem_cons.1 hd with rfl | hd
        · rintro ⟨g1, g2⟩; omega
        · exact b'.2 d hd
      · by_cases hx : b.1 + b.2 ≤ x
        · exact c x hx g2 ⟨hf.1, fun d hd => hf.2 d (by simp [hd])⟩
        · exact hf.2 b (by simp) ⟨by omega, by omega⟩
theorem roomF_none {n : Nat} (hn : 1 ≤ n) : ∀ {p : Nat} {F : List (Nat × Nat)}, LaidF p F → roomF p F n = none → ∀ x, p ≤ x → ¬ Fits F x n
  | p, [], h, e, x, hx => by
    unfold roomF at e
    split at e
    · cases e
    · intro hf; have := hf.1; omega
  | p, b :: r, h, e, x, hx => by
    unfold roomF at e
    obtain ⟨h1, h2, h3⟩ := h
    split at e
    · cases e
    · rename_i h4
      intro hf
      by_cases hx2 : b.1 + b.2 ≤ x
      · exact roomF_none hn h3 e x hx2 ⟨hf.1, fun d hd => hf.2 d (by simp [hd])⟩
      · exact hf.2 b (by simp) ⟨by omega, by omega⟩
/-- With a block more, by rising places. -/
def putF (q n : Nat) : List (Nat × Nat) → List (Nat × Nat)
  | [] => [(q, n)]
  | b :: r => if b.1 < q then b :: putF q n r else (q, n) :: b :: r
theorem putF_laid {q n : Nat} (hn : 1 ≤ n) : ∀ {p : Nat} {F : List (Nat × Nat)}, LaidF p F → p ≤ q → Fits F q n → LaidF p (putF q n F)
  | p, [], h, hpq, hf => ⟨hpq, hn, hf.1⟩
  | p, b :: r, h, hpq, hf => by
    unfold putF
    obtain ⟨h1, h2, h3⟩ := h
    have hb := hf.2 b (by simp)
    split
    · rename_i h4
      have : b.1 + b.2 ≤ q := by
        refine Nat.le_of_not_lt fun h => hb ⟨by omega, by omega⟩
      exact ⟨h1, h2, putF_laid hn h3 this ⟨hf.1, fun d hd => hf.2 d (by simp [hd])⟩⟩
    · rename_i h4
      have : q + n ≤ b.1 := by
        refine Nat.le_of_not_lt fun h => hb ⟨by omega, by omega⟩
      exact ⟨hpq, hn, this, h2, h3⟩
theorem putF_mem {q n : Nat} {x : Nat × Nat} : ∀ {F : List (Nat × Nat)}, x ∈ putF q n F ↔ x = (q, n) ∨ x ∈ F
  | [] => by simp [putF]
  | b :: r => by
    unfold putF
    split
    · rw [List.mem_cons, putF_mem, List.mem_cons]
      constructor
      · rintro (h | h | h)
        · exact .inr (.inl h)
        · exact .inl h
        · exact .inr (.inr h)
      · rintro (h | h | h)
        · exact .inr (.inl h)
        · exact .inl h
        · exact .inr (.inr h)
    · rw [List.mem_cons]
/-- Without a block. -/
theorem eraseIdx_laid : ∀ {p : Nat} {F : List (Nat × Nat)} (i : Nat), LaidF p F → LaidF p (F.eraseIdx i)
  | p, [], i, h => by simpa using h
  | p, b :: r, 0, h => h.2.2.mono (by have := h.1; omega)
  | p, b :: r, i + 1, h => ⟨h.1, h.2.1, eraseIdx_laid i h.2.2⟩
/-- All moved down. -/
def packF : Nat → List (Nat × Nat) → List (Nat × Nat)
  | _, [] => []
  | p, b :: r => (p, b.2) :: packF (p + b.2) r
def sumF : List (Nat × Nat) → Nat
  | [] => 0
  | b :: r => b.2 + sumF r
theorem laid_sum : ∀ {p : Nat} {F : List (Nat × Nat)}, LaidF p F → p + sumF F ≤ 64
  | p, [], h => h
  | p, b :: r, h => by
    have := laid_sum h.2.2
    have := h.1
    unfold sumF
    omega
theorem packF_laid : ∀ {p : Nat} {F : List (Nat × Nat)}, (∀ b, b ∈ F → 1 ≤ b.2) → p + sumF F ≤ 64 → LaidF p (packF p F)
  | p, [], _, h => h
  | p, b :: r, hs, h => by
    unfold sumF at h
    exact ⟨Nat.le_refl _, hs b (by simp), packF_laid (fun c hc => hs c (by simp [hc])) (by omega)⟩
theorem packF_holes : ∀ (p : Nat) (F : List (Nat × Nat)), holes p (packF p F) = if p + sumF F < 64 then [(p + sumF F, 64 - (p + sumF F))] else []
  | p, [] => rfl
  | p, b :: r => by
    rw [packF, holes, if_neg (Nat.lt_irrefl p)]
    show holes (p + b.2) (packF (p + b.2) r) = _
    rw [packF_holes (p + b.2) r, sumF, Nat.add_assoc]
theorem packF_sizes : ∀ (p : Nat) (F : List (Nat × Nat)), (packF p F).map Prod.snd = F.map Prod.snd
  | _, [] => rfl
  | p, b :: r => by rw [packF, List.map_cons, List.map_cons, packF_sizes]
theorem packF_sum : ∀ (p : Nat) (F : List (Nat × Nat)), sumF (packF p F) = sumF F
  | _, [] => rfl
  | p, b :: r => by rw [packF, sumF, sumF, packF_sum]
/-- What is packed has room just at the end. -/
theorem packF_roomF {n : Nat} (hn : 1 ≤ n) : ∀ (p : Nat) (F : List (Nat × Nat)), roomF p (packF p F) n = if p + sumF F + n ≤ 64 then some (p + sumF F) else none
  | p, [] => rfl
  | p, b :: r => by
    rw [packF, roomF, if_neg (by show ¬ p + n ≤ p; omega)]
    show roomF (p + b.2) (packF (p + b.2) r) n = _
    rw [packF_roomF hn (p + b.2) r, sumF, ← Nat.add_assoc]
/-- What is put at the end of what is packed leaves it packed. -/
theorem packF_put {n : Nat} : ∀ (p : Nat) (F : List (Nat × Nat)), (∀ b, b ∈ F → 1 ≤ b.2) → putF (p + sumF F) n (packF p F) = packF p (F ++ [(0, n)])
  | p, [], _ => by simp [putF, packF, sumF]
  | p, b :: r, hs => by
    have h1 := hs b (by simp)
    rw [packF, putF, List.cons_append, packF]
    rw [if_pos (by show p < p + sumF (b :: r); rw [sumF]; omega)]
    congr 1
    rw [sumF, ← Nat.add_assoc]
    exact packF_put (p + b.2) r fun c hc => hs c (by simp [hc])
end Go.Proofs.YtjcikoaoemingaaDoor
