/- Lists alone: the store of chapter 1, told who goes, plays what was told. -/
import Derived.Test.YtkhjpelghlchnabOptL
import Derived.Test.YtkhjpelghlchnabPlayL
namespace Go.Proofs.Ytkhjpelghlchnab

theorem drop_prefix {A B : List Int} {b : Int} (h : A ++ [b] <+: B) : B.drop A.length = b :: B.drop (A.length + 1) := by
  obtain ⟨t, rfl⟩ := h
  rw [List.append_assoc, List.drop_append_of_le_length (Nat.le_refl _), List.drop_length, List.nil_append, List.drop_append, List.drop_eq_nil_of_le (Nat.le_succ _)]
  simp
theorem ost_play {s : Nat} {l : List Int} (hs : 1 ≤ s) (hl : inPages l) : ∀ k, k ≤ l.length → play s l (ost s l l.length).2 [] 0 = play s (l.drop k) ((ost s l l.length).2.drop (ost s l k).2.length) (ost s l k).1 (k - hcount (ohit s l) k)
  | 0, _ => rfl
  | k + 1, hk => by
    have hk' : k < l.length := by omega
    rw [ost_play hs hl k (by omega)]
    have hc := hcount_lt (ohit s l) k
    have hpre := ost_gone s l (k+1) l.length hk
    simp only [hcount]
    generalize hcount (ohit s l) k = c at *
    cases hh : ohit s l k
    · rw [if_neg (by simp), show k + 1 - (c + 0) = k - c + 1 by omega]
      by_cases hf : (ost s l k).1.length = s
      · have hb := (ost_pick hs hl (k := k) (by omega) hf).1
        rw [ost_full hh hf] at hpre ⊢
        simp only at hpre ⊢
        rw [drop_prefix hpre, play_let hk' hh hf hb, List.length_append, List.length_singleton]
      · rw [ost_room hh hf]
        exact play_room hk' hh hf
    · rw [ost_hit hh, if_pos rfl, show k + 1 - (c + 1) = k - c by omega]
      exact play_hit hk' hh
theorem opt_play {s : Nat} {l : List Int} (hs : 1 ≤ s) (hl : inPages l) : play s l (ost s l l.length).2 [] 0 = (omiss s l, (ost s l l.length).1, 0) := by
  rw [ost_play hs hl l.length (Nat.le_refl _), List.drop_length]
  have h3 : ∀ o H n, play s [] o H n = (n, H, 0) := fun o H n => by cases o <;> rfl
  rw [h3]
  have := omiss_count s l
  rw [show l.length - hcount (ohit s l) l.length = omiss s l by omega]
end Go.Proofs.Ytkhjpelghlchnab
