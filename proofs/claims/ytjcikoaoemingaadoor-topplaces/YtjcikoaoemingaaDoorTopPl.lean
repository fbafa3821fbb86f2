/- Two arenas beside each other: by halves, and where it fits. Plain lemmas on worlds and lists. -/
import Derived.Test.YtjcikoaoemingaaDoorBNew
import Derived.Test.YtjcikoaoemingaaDoorFLend
import Derived.Test.YtjcikoaoemingaaDoorPlacesL
import Derived.Test.YtjcikoaoemingaaDoorPow
namespace Go.Proofs.YtjcikoaoemingaaDoor
open Go.RowKit Go.Maps Go.Sort

theorem FAr.turn {H : Type} {w w1 : World} {base fa B a b : Nat} {L M : List (Nat × Nat)} (h : FAr w base fa L) (hA : Arena H w B a b M) (ht : Turn a b w w1) : FAr w1 base fa L := by
  obtain ⟨F, hF, _⟩ := hA.cells
  obtain ⟨es, ck, hb⟩ := hA.map.obj
  have hF : w.heap[a]? = _ := hF
  obtain ⟨v, h1, h2⟩ := h.row
  have hn1 : fa ≠ a := by rintro rfl; rw [h1] at hF; simp [arenaCells] at hF
  have hn2 : fa ≠ b := by rintro rfl; rw [h1] at hb; cases hb
  refine ⟨⟨v, (ht.block fa h.lt hn1 hn2).trans h1, own_turn h2 ht fun k hk => ?_⟩, h.laid, h.fromA⟩
  obtain ⟨_, _, c, hc⟩ := h2.kind hk
  constructor
  · rintro rfl
    rw [hF] at hc
    simp at hc
  · rintro rfl
    rw [hb] at hc
    cases hc
theorem Alt.arena {H : Type} {w w1 : World} {base fa B a b : Nat} {L M : List (Nat × Nat)} (h : Alt base fa w w1) (hA : Arena H w B a b M) (hf : FAr w base fa L) : Arena H w1 B a b M := by
  obtain ⟨F, hF, _⟩ := hA.cells
  obtain ⟨es, ck, hb⟩ := hA.map.obj
  have hF : w.heap[a]? = _ := hF
  obtain ⟨v, h1, _⟩ := hf.row
  have hn1 : a ≠ fa := by rintro rfl; rw [h1] at hF; simp [arenaCells] at hF
  have hn2 : b ≠ fa := by rintro rfl; rw [h1] at hb; cases hb
  refine hA.same (h.block a hA.lt.1 hn1 (.inr fun c e => ?_)) (h.block b hA.lt.2 hn2 (.inr fun c e => ?_))
  · rw [hF] at e; simp at e
  · rw [hb] at e; cases e
theorem size_ins (p o : Nat) (L : List (Nat × Nat)) : sizeB (insP p o L) = 2 ^ o + sizeB L := by
  rw [size_perm insP_perm, sizeB]
/-- What has room by halves has room where it fits first. -/
theorem both_lend {L F : List (Nat × Nat)} {o : Nat} (ho : o ≤ 6) (hO : Okay L) (hF : sumF F = sizeB L) (hs : ∀ b, b ∈ F → 1 ≤ b.2) :
    lendF L (o : Nat) = (0, 4, L) ∨ ∃ p, lendF L (o : Nat) = (p, 0, insP p o L) ∧ lendG (packF 0 F) ((2 ^ o : Nat) : Int) = (sizeB L, 0, packF 0 (F ++ [(0, 2 ^ o)])) ∧ sumF (F ++ [(0, 2 ^ o)]) = sizeB (insP p o L) ∧ ∀ b, b ∈ F ++ [(0, 2 ^ o)] → 1 ≤ b.2 := by
  have hk : ¬ (((o : Nat) : Int) < 0 ∨ 6 < ((o : Nat) : Int)) := by omega
  have hl : lendF L (o : Nat) = match room L o with | none => (0, 4, L) | some (p, _) => (p, 0, insP p o L) := by unfold lendF; rw [if_neg hk]; rfl
  cases hr : room L o with
  | none => exact .inl (by rw [hl, hr])
  | some x =>
    obtain ⟨p, i⟩ := x
    refine .inr ⟨p, by rw [hl, hr], ?_, ?_, ?_⟩
    · obtain ⟨h1, h2, h3, _⟩ := roomAt_some _ _ (by omega) hr
      obtain ⟨h4, h5⟩ := places_roomF hO h3 h1 hF
      have hp := pow_pos2 o
      have hp6 : 2 ^ o ≤ 64 := by omega
      unfold lendG
      rw [if_neg (by omega), show (((2 ^ o : Nat) : Int)).toNat = 2 ^ o from rfl, h4]
      show (sizeB L, 0, putF (sizeB L) (2 ^ o) (packF 0 F)) = _
      rw [← hF, ← packF_put 0 F hs, Nat.zero_add]
    · rw [sumF_add, size_ins, hF]; show _ + 2 ^ o = _; omega
    · intro b hb
      rcases List.mem_append.1 hb with h | h
      · exact hs b h
      · simp at h; subst h; exact pow_pos2 o
theorem top_lend6 : lendF [] 6 = (0, 0, [(0, 6)]) := by decide +kernel
theorem top_lend0 : lendF [(0, 6)] 0 = (0, 4, [(0, 6)]) := by decide +kernel
theorem top_back0 : backF [(0, 6)] 0 = (0, []) := by decide +kernel
end Go.Proofs.YtjcikoaoemingaaDoor
