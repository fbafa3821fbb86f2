/- slices.Sorted(maps.Keys(m)) at a map of one's own with int keys: a new row that holds the keys, rising. -/
import Derived.Test.YtmmeapaakdaemaaDoorMapI
import Derived.Test.YtmmeapaakdaemaaDoorOwn
import Derived.Test.YtmmeapaakdaemaaDoorKeysLaid
namespace Go.Proofs.YtmmeapaakdaemaaDoor
open Go.RowKit Go.Maps Go.Sort Go.Shelf

theorem sorts_int (m : Nat) : AnyZI.SortsIn Tryd.prog Tryd.sortedA_ren Fence.wide m :=
  ⟨fun blk off cap ss W hH hblk hsz => callsIn_wide.2 (AnyM.slices_Sort_int Tryd.sortA blk off cap ss W hH hblk hsz),
   fun p cap W => callsIn_wide.2 (AnyM.slices_Sort_int_none Tryd.sortA p cap W)⟩
theorem keys_call (mb : Option Nat) (W : World) : Calls Tryd.prog 22 #[.map mb] W fun e w' => e = .returned (.func (.func 36) #[] #[.pointer (some ⟨W.heap.size, 0, none⟩)]) ∧ w' = W.alloc (.cells #[.map mb] 54) :=
  (callsIn_wide (n := 5)).1 (AnyZI.keys_in Tryd.keysA Fence.wide 5 trivial rfl mb W)
/-- Rising lists with the same numbers are one. -/
theorem sorted_perm_eq {ss A : List Int} (hp : ss.Perm A) (hA : A.Pairwise (· ≤ ·)) : ss.mergeSort (fun x y => decide (x ≤ y)) = A := by
  refine List.Perm.eq_of_pairwise (le := fun a b => decide (a ≤ b) = true) (fun a b _ _ h1 h2 => ?_) (List.pairwise_mergeSort (fun a b c h1 h2 => ?_) (fun a b => ?_) ss) (hA.imp fun h => by simpa using h) ((List.mergeSort_perm ss _).trans hp)
  · simp only [decide_eq_true_eq] at h1 h2; exact Int.le_antisymm h1 h2
  · simp only [decide_eq_true_eq] at *; exact Int.le_trans h1 h2
  · simp only [Bool.or_eq_true, decide_eq_true_eq]; exact Int.le_total a b
/-- The keys of a map that tells T are those numbers of which it tells something. -/
theorem keys_perm {H : Type} {w : World} {b n : Nat} {D : DataW H} {T : Int → Option Int} {A : List Int} (hown : w.ownsMap Tryd.prog 3 (plainElem Tryd.prog 3) b n D) (ht : ∀ z, TellI D z (T z)) (hn : A.Nodup) (hA : ∀ z, z ∈ A ↔ (T z).isSome = true) : A.Perm (intKeys D) := by
  obtain ⟨es, hD, hpw, _⟩ := hown.entries int_keys
  obtain ⟨es', hD', hko⟩ := hown.keysOf
  obtain rfl : es = es' := by rw [hD] at hD'; simpa using hD'
  subst hD
  exact perm_intKeys hpw (fun p hp => by obtain ⟨v, hv⟩ := hko p hp; obtain ⟨x, _, hx, _⟩ := Maps.keyOf_i64 Tryd.underlying3 hv; exact ⟨x, hx⟩) hn (fun x => by rw [hA x, tell_has (ht x)])
set_option maxHeartbeats 1000000 in
theorem sorted_call {H : Type} (b n : Nat) (hn : n ≤ 1000000) (T : Int → Option Int) (A : List Int) (hA : A.Pairwise (· < ·)) (hm : ∀ z, z ∈ A ↔ (T z).isSome = true) (w : World) (hM : IsMapI H w b n T) :
    Calls Tryd.prog 21 #[.func (.func 36) #[] #[.pointer (some ⟨w.heap.size, 0, none⟩)]] (w.alloc (.cells #[.map (some b)] 54)) fun e w' => ∃ v, e = .returned v ∧ OwnI w' w.heap.size v A ∧ Below w.heap.size w w' := by
  obtain ⟨D, hown, htell⟩ := hM
  have hbl := hown.lt
  have hsz := hown.size_le
  have hseq : SeqGives Fence.wide 2 Tryd.prog 36 #[.pointer (some ⟨w.heap.size, 0, none⟩)] encZ (fun ss => ss.Perm (intKeys D)) (Maps.size D) (w.alloc (.cells #[.map (some b)] 54)) :=
    AnyZI.keys_gives (ρ := Tryd.keysA_ren) { Tryd.keysA with } Fence.wide _ trivial rfl (by omega) w.heap.size b n D _ (by simp) (by simp) (hown.alloc _)
  have cS := AnyZI.sorted_in Tryd.sortedA Fence.wide 5 trivial trivial trivial trivial rfl (by omega) (sorts_int _) (enters_of Tryd.func35 (by kernel_rfl) rfl) 36 #[.pointer (some ⟨w.heap.size, 0, none⟩)] trivial (enters_of Tryd.func36 (by kernel_rfl) rfl) _ _ (by unfold maxLen; omega) (by omega) _ hseq
  change CallsIn _ _ Tryd.prog 21 _ _ _ at cS
  refine ((callsIn_wide (n := 5)).1 cS).mono ?_
  rintro e w' ⟨v, ss, rfl, hS, hrow, hnil, hb⟩
  have hp : A.Perm (intKeys D) := keys_perm hown htell (hA.imp fun h => by omega) hm
  have he : ss.mergeSort (fun x y => decide (x ≤ y)) = A := sorted_perm_eq (hS.trans hp.symm) (hA.imp fun h => by omega)
  rw [he] at hrow
  have hl : ss.length = A.length := (hS.trans hp.symm).length_eq
  rw [hl] at hrow
  refine ⟨v, rfl, ownsRow_base_a hrow (by simp), ((Below.refl _ w).alloc (Nat.le_refl _) _).trans (hb.mono (by simp))⟩
end Go.Proofs.YtmmeapaakdaemaaDoor
