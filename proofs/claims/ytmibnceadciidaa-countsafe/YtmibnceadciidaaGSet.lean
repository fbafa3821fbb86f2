/- The walks of graph.setOf and graph.has: sets of nodes as bits. -/
import Derived.Test.YtmibnceadciidaaMask
import Derived.Test.YtmibnceadciidaaOpened
namespace Go.Proofs.Ytmibnceadciidaa
set_option maxRecDepth 100000
open Go.RowKit

theorem wraps64 (n : Int) (h₀ : 0 ≤ n) (h₁ : n < 2 ^ 63) : IntKind.i64.wrap n = n := by rw [IntKind.wrap_i64]; omega
theorem or64 (a b : Nat) (ha : a < 9223372036854775808) (hb : b < 9223372036854775808) : bits .or .i64 (a : Int) (b : Int) = ((a ||| b : Nat) : Int) :=
  (bits_nat .i64 63 (by decide) wraps64 a b ha hb).2
theorem and64 (a b : Nat) (ha : a < 9223372036854775808) (hb : b < 9223372036854775808) : bits .and .i64 (a : Int) (b : Int) = ((a &&& b : Nat) : Int) :=
  (bits_nat .i64 63 (by decide) wraps64 a b ha hb).1
theorem pow64 {n : Nat} (h : 2 ^ n < 65536) : wrap64 (2 ^ n) = ((2 ^ n : Nat) : Int) := by
  have e : (2 : Int) ^ n = ((2 ^ n : Nat) : Int) := by rw [Int.natCast_pow]; rfl
  rw [e]
  generalize 2 ^ n = x at *
  unfold wrap64
  omega
theorem bit64 {m i : Nat} (hm : m < 65536) : (bits .and .i64 ((m : Int) / 2 ^ i) 1 == 1) = m.testBit i := by
  have h1 : m / 2 ^ i ≤ m := Nat.div_le_self _ _
  have h2 := and64 (m / 2 ^ i) 1 (by omega) (by omega)
  rw [Nat.and_one_is_mod] at h2
  have e : bits .and .i64 ((m : Int) / 2 ^ i) 1 = ((m / 2 ^ i % 2 : Nat) : Int) := by
    rw [← h2, Int.natCast_ediv, Int.natCast_pow]; rfl
  rw [e, Nat.testBit_eq_decide_div_mod_eq, Bool.eq_iff_iff]
  simp only [beq_iff_eq, decide_eq_true_eq]
  omega

/-- A set of nodes as a number. -/
def setM (l : List Int) : Nat := l.foldl (fun m p => m ||| 2 ^ p.toNat) 0
theorem setM_take {l : List Int} {k : Nat} (h : k < l.length) : setM (l.take (k+1)) = setM (l.take k) ||| 2 ^ (l[k]?.getD 0).toNat := by
  unfold setM
  rw [List.take_succ_eq_append_getElem h, List.foldl_append, List.getElem?_eq_getElem h]; rfl
theorem setM_take_msk {l : List Int} (hl : allIn l) : ∀ k, k ≤ l.length → Msk (setM (l.take k)) (l.take k)
  | 0, _ => by rw [List.take_zero]; exact msk_nil
  | k + 1, h => by
    have ih := setM_take_msk hl k (by omega)
    have hp : 0 ≤ l[k]?.getD 0 ∧ l[k]?.getD 0 < 16 := by rw [List.getElem?_eq_getElem (by omega)]; exact hl _ (List.getElem_mem _)
    have := msk_or ih hp.1 hp.2
    rw [setM_take (by omega)]
    rwa [List.take_succ_eq_append_getElem (by omega), ← Option.getD_some (a := l[k]) (b := 0), ← List.getElem?_eq_getElem (by omega)]
theorem setM_msk {l : List Int} (hl : allIn l) : Msk (setM l) l := by
  have := setM_take_msk hl l.length (Nat.le_refl _)
  rwa [List.take_length] at this

set_option maxHeartbeats 1000000 in
theorem setof_any (v : Value) (l : List Int) (w : World) (hv : IsInts w v l) (hl : allIn l) :
    Calls Try.prog 30 #[v] w fun e w' => e = .returned (.int .i64 (setM l)) ∧ w' = w := by
  have HA : Hid (allIn l) := hl
  obtain ⟨ao, cap, rfl, hcap, ho⟩ := hv.opened
  have HO : Hid (∀ k, k < l.length → ∃ b off, ao = some ⟨b, off, none⟩ ∧ l.length ≤ cap ∧ b < w.heap.size ∧ ∀ j, j < l.length → w.cell? ⟨b, off + j, none⟩ = some (.int .i64 (l[j]?.getD 0))) := ho
  clear hl ho hv
  unfold maxLen at hcap
  have hlm : l.length ≤ 9223372036854775807 := by
    by_cases h : 0 < l.length
    · obtain ⟨_, _, _, hlc, _⟩ := HO.out 0 h
      omega
    · omega
  go_enter Try.func30, Try.ntmps30
  go_wp2
  go_loop [3, 8] (fun n i => ∃ k : Nat, k ≤ l.length ∧ i = .int .i64 k ∧ n = .int .i64 (setM (l.take k))) (fun _ i => l.length - (intOf i).toNat)
  case atStart => exact ⟨0, by omega, rfl, rfl⟩
  case round =>
    obtain ⟨k, hk, rfl, rfl⟩ := hrel
    have hm16 := (setM_take_msk HA.out k hk).1
    by_cases hlt : k < l.length
    · obtain ⟨b, off, rfl, hlc, _, hcell⟩ := HO.out k hlt
      have hck := hcell k hlt
      clear hcell
      have hp : 0 ≤ l[k]?.getD 0 ∧ l[k]?.getD 0 < 16 := by rw [List.getElem?_eq_getElem hlt]; exact HA.out _ (List.getElem_mem _)
      have HS : Hid (setM (l.take (k+1)) = setM (l.take k) ||| 2 ^ (l[k]?.getD 0).toNat) := setM_take hlt
      have h2 := two_pow_lt hp.1 hp.2
      obtain ⟨hp0, hp1⟩ := hp
      have HW : Hid (wrap64 (2 ^ (l[k]?.getD 0).toNat) = ((2 ^ (l[k]?.getD 0).toNat : Nat) : Int)) := pow64 h2
      have HQ : Hid (bits .or .i64 (setM (l.take k) : Int) ((2 ^ (l[k]?.getD 0).toNat : Nat) : Int) = ((setM (l.take k) ||| 2 ^ (l[k]?.getD 0).toNat : Nat) : Int)) := or64 _ _ (by omega) (by omega)
      clear h2
      generalize l[k]?.getD 0 = p at *
      generalize setM (l.take k) = m at *
      go_wp2
      go_round
      case rel => exact ⟨k + 1, by omega, by go_num, by rw [HW.out, HQ.out, HS.out]⟩
      case measure => simp [intOf]; omega
    · have HM : Hid (setM (l.take k) = setM l) := by rw [List.take_of_length_le (by omega)]; rfl
      generalize setM (l.take k) = m at *
      go_wp2
      go_ret
      exact ⟨by rw [HM.out]; rfl, rfl⟩
theorem setof_at {v : Value} {l : List Int} {m : Nat} {w0 : World} (hv : IsInts w0 v l) (hl : allIn l) (hm : setM l = m) (w : World) (hh : w.heap = w0.heap) :
    Calls Try.prog 30 #[v] w fun e w' => e = .returned (.int .i64 m) ∧ w' = w := by
  subst hm; exact setof_any v l w (hv.heap hh) hl

theorem ghas_any (m i : Nat) (hm : m < 65536) (hi : i < 16) (w : World) :
    Calls Try.prog 31 #[.int .i64 (m : Nat), .int .i64 (i : Nat)] w fun e w' => e = .returned (.bool (m.testBit i)) ∧ w' = w := by
  have HB : Hid ((bits .and .i64 ((m : Int) / 2 ^ i) 1 == 1) = m.testBit i) := bit64 hm
  go_enter Try.func31, Try.ntmps31
  go_wp2
  go_ret
  exact ⟨by rw [HB.out]; rfl, rfl⟩
end Go.Proofs.Ytmibnceadciidaa
