/- Lists alone, for the whole (chapters 15 and 16): blocks that are apart are not more than 64 places. -/
import Derived.Test.YtjcikoaoemingaaDoorBuddyN
import Derived.Test.YtjcikoaoemingaaDoorFitL
namespace Go.Proofs.YtjcikoaoemingaaDoor

def sizeB : List (Nat × Nat) → Nat
  | [] => 0
  | b :: r => 2 ^ b.2 + sizeB r
def sumTo (f : Nat → Nat) : Nat → Nat
  | 0 => 0
  | n + 1 => sumTo f n + f n
theorem sumTo_add (f g : Nat → Nat) : ∀ n, sumTo (fun x => f x + g x) n = sumTo f n + sumTo g n
  | 0 => rfl
  | n + 1 => by rw [sumTo, sumTo, sumTo, sumTo_add]; omega
theorem sumTo_le {f : Nat → Nat} : ∀ n, (∀ x, x < n → f x ≤ 1) → sumTo f n ≤ n
  | 0, _ => Nat.le_refl _
  | n + 1, h => by
    have := sumTo_le n fun x hx => h x (by omega)
    have := h n (by omega)
    rw [sumTo]; omega
theorem sumTo_span {a s : Nat} : ∀ n, sumTo (fun x => if a ≤ x ∧ x < a + s then 1 else 0) n = min n (a + s) - min n a
  | 0 => by simp [sumTo]
  | n + 1 => by
    rw [sumTo, sumTo_span n]
    split <;> omega
theorem count_cons (x : Nat) (b : Nat × Nat) (L : List (Nat × Nat)) : (b :: L).countP (inB2 x) = L.countP (inB2 x) + (if b.1 ≤ x ∧ x < b.1 + 2 ^ b.2 then 1 else 0) := by
  rw [List.countP_cons]
  congr 1
  simp [inB2]
theorem sum_count : ∀ {L : List (Nat × Nat)}, (∀ b, b ∈ L → b.1 + 2 ^ b.2 ≤ 64) → sumTo (fun x => L.countP (inB2 x)) 64 = sizeB L
  | [], _ => by
    have : ∀ n, sumTo (fun x => ([] : List (Nat × Nat)).countP (inB2 x)) n = 0 := fun n => by
      induction n with
      | zero => rfl
      | succ n ih => rw [sumTo, ih]; rfl
    exact this 64
  | b :: L, h => by
    have hb := h b (by simp)
    have hp := pow_pos2 b.2
    rw [show (fun x => (b :: L).countP (inB2 x)) = fun x => L.countP (inB2 x) + (if b.1 ≤ x ∧ x < b.1 + 2 ^ b.2 then 1 else 0) from funext fun x => count_cons x b L]
    rw [sumTo_add, sum_count fun c hc => h c (by simp [hc]), sumTo_span, sizeB]
    omega
theorem count_most {L : List (Nat × Nat)} (hL : Okay L) (x : Nat) : L.countP (inB2 x) ≤ 1 := by
  by_cases h : ∃ a, a ∈ L ∧ inB2 x a = true
  · obtain ⟨a, ha, hP⟩ := h
    refine Nat.le_of_eq (count_one (okay_nodup hL) ha hP fun b hb hPb => ?_)
    have h1 : a.1 ≤ x ∧ x < a.1 + 2 ^ a.2 := by simpa [inB2] using hP
    have h2 : b.1 ≤ x ∧ x < b.1 + 2 ^ b.2 := by simpa [inB2] using hPb
    exact okay_one hL hb ha ⟨by omega, by omega⟩
  · rw [List.countP_eq_zero.2 fun a ha hP => h ⟨a, ha, hP⟩]; omega
/-- All that is lent is no more than there are places. -/
theorem okay_size {L : List (Nat × Nat)} (hL : Okay L) : sizeB L ≤ 64 := by
  rw [← sum_count fun b hb => (hL.1 b hb).2.2]
  exact sumTo_le 64 fun x _ => count_most hL x
theorem okay_len {L : List (Nat × Nat)} (hL : Okay L) : L.length ≤ 64 := by
  have h := okay_size hL
  have : ∀ M : List (Nat × Nat), M.length ≤ sizeB M := fun M => by
    induction M with
    | nil => exact Nat.le_refl _
    | cons b r ih => have := pow_pos2 b.2; rw [sizeB, List.length_cons]; omega
  have := this L
  omega
theorem okay_perm {L M : List (Nat × Nat)} (h : L.Perm M) (hL : Okay L) : Okay M :=
  ⟨fun b hb => hL.1 b (h.mem_iff.2 hb), (h.pairwise_iff fun hm g => hm g.symm).1 hL.2⟩
theorem size_perm {L M : List (Nat × Nat)} (h : L.Perm M) : sizeB L = sizeB M := by
  induction h with
  | nil => rfl
  | cons x _ ih => rw [sizeB, sizeB, ih]
  | swap x y l => simp only [sizeB]; omega
  | trans _ _ h1 h2 => exact h1.trans h2
/-- Without the block that begins at a place: what giving back asks. -/
theorem gone_perm {L M : List (Nat × Nat)} {p0 o0 : Nat} (hL : Okay L) (h : L.Perm ((p0, o0) :: M)) : Gone L M p0 o0 ∧ Okay M := by
  have hP := okay_perm h hL
  have hc := List.pairwise_cons.1 hP.2
  refine ⟨⟨h.mem_iff.2 (by simp), fun b hb => h.mem_iff.2 (by simp [hb]), fun b hb => ?_, hP.1 (p0, o0) (by simp), fun b hb => hc.1 b hb⟩, fun b hb => hP.1 b (by simp [hb]), hc.2⟩
  rcases List.mem_cons.1 (h.mem_iff.1 hb) with e | e
  · exact .inl e
  · exact .inr e
/-- What blocks that are halved have room for has room where it fits first, if nothing is given back. -/
theorem places_roomF {L : List (Nat × Nat)} {p k o : Nat} (hL : Okay L) (hM : MaxF L p k) (hok : o ≤ k) {F : List (Nat × Nat)} (hF : sumF F = sizeB L) :
    roomF 0 (packF 0 F) (2 ^ o) = some (sizeB L) ∧ sizeB L + 2 ^ o ≤ 64 := by
  have h := okay_size (lend_okay hL hM hok)
  rw [sizeB] at h
  have h : 2 ^ o + sizeB L ≤ 64 := h
  refine ⟨?_, by omega⟩
  rw [packF_roomF (pow_pos2 o), hF, Nat.zero_add, if_pos (by omega)]
end Go.Proofs.YtjcikoaoemingaaDoor
