/- The cells of the sets. -/
import Derived.Test.YtbnhlnjbgimibaaWsetN
namespace Go.Proofs.Ytbnhlnjbgimibaa
open Go.RowKit Go.Sort

theorem set_at {w : World} {n dcp k : Nat} {ad : Option Addr} {l : List Int} (h : IsInts w (.slice ad l.length dcp) (setsOf n l l.length)) (hk : k < l.length) :
    ∃ b off, ad = some ⟨b, off, none⟩ ∧ l.length ≤ dcp ∧ dcp ≤ maxLen ∧ ∀ j, j < l.length → w.cell? ⟨b, off + j, none⟩ = some (.int .i64 (setN (wset n l (j+1)))) := by
  have hl := setsOf_length n l l.length
  rcases h with ⟨h0, _⟩ | ⟨b, off, cap, hv, hpos, hlc, hcap, hc⟩
  · rw [h0] at hl; simp at hl; omega
  · rw [hl] at hv hlc
    simp only [Value.slice.injEq, true_and] at hv
    obtain ⟨rfl, rfl⟩ := hv
    exact ⟨b, off, rfl, hlc, hcap, fun j hj => by rw [hc j (by rw [hl]; exact hj), setsOf_get hj]⟩

end Go.Proofs.Ytbnhlnjbgimibaa
