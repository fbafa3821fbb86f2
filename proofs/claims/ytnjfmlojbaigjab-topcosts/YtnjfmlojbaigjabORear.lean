/- The walk of lists.rearranged. -/
import Derived.Test.YtnjfmlojbaigjabOLeads
namespace Go.Proofs.Ytnjfmlojbaigjab
set_option maxRecDepth 100000
open Go.RowKit Go.Maps Go.Shelf Go.Sort

/-- So many steps, by changes of neighbours. -/
def StepsC (n : Nat) : Nat → (O4 → Option Nat) → (O4 → Option Nat) → Prop
  | 0, T, T' => T' = T
  | r + 1, T, T' => ∃ T1, StepsC n r T T1 ∧ Onto (fun s => chTo s (n - 1)) T1 T'
theorem ch_cost {s : O4} {f : Ent} : ∀ {k : Nat}, f ∈ chTo s k → f.2.val ≤ 1
  | 0, h => by simp [chTo] at h; subst h; simp
  | k + 1, h => by
    unfold chTo at h
    rcases List.mem_append.1 h with h | h
    · exact ch_cost h
    · simp at h; subst h; simp
theorem stepsC_lt {n : Nat} {T : O4 → Option Nat} {M : Nat} (h : ∀ s x, T s = some x → x < M) : ∀ {r : Nat} {T' : O4 → Option Nat}, StepsC n r T T' → ∀ s x, T' s = some x → x < M + r
  | 0, T', hs, s, x, e => by have : T' = T := hs; rw [this] at e; exact h s x e
  | r + 1, T', ⟨T1, h1, h2⟩, s, x, e => by
    obtain ⟨t, y, f, hy, hf, _, rfl⟩ := h2.from_ s x e
    have := stepsC_lt h h1 t y hy
    have := ch_cost hf
    omega
def pairs (n : Nat) : Nat := n * (n - 1) / 2
def RearRel (w : World) (n : Nat) (T : O4 → Option Nat) (i : Value) (wr : World) : Prop :=
  ∃ (k b : Nat) (T' : O4 → Option Nat), k ≤ pairs n ∧ i = .int .i64 k ∧ Boxed wr w.heap.size 43 (.map (some b)) ∧ IsTab Unit wr b T' ∧ StepsC n k T T' ∧ Below w.heap.size w wr ∧ Boxed wr (w.heap.size + 1) 3 (.int .i64 n) ∧ Boxed wr (w.heap.size + 1 + 1) 43 (.map none)

set_option maxHeartbeats 4000000 in
theorem rear_any (n : Nat) (hn1 : 1 ≤ n) (hn4 : n ≤ 4) (b : Nat) (T : O4 → Option Nat) (hT1 : ∀ s x, T s = some x → x < 1000) (w : World) (hT : IsTab Unit w b T) :
    Calls Try.prog 19 #[.agg #[.map (some b)], .int .i64 n] w fun e w' => (∃ b' T', e = .returned (.agg #[.map (some b')]) ∧ IsTab Unit w' b' T' ∧ StepsC n (pairs n) T T') ∧ Below w.heap.size w w' := by
  have HR0 : Hid (RearRel w n T (.int .i64 0) (((w.alloc (.cells #[.map (some b)] 43)).alloc (.cells #[.int .i64 (n : Nat)] 3)).alloc (.cells #[.map none] 43))) := by
    have b1 := (Boxed.new (w.alloc (.cells #[.map (some b)] 43)) 3 (.int .i64 (n : Nat))).alloc (.cells #[.map none] 43)
    have b2 := Boxed.new ((w.alloc (.cells #[.map (some b)] 43)).alloc (.cells #[.int .i64 (n : Nat)] 3)) 43 (.map none)
    simp only [World.size_alloc] at b1 b2
    have hb : Below w.heap.size w (((w.alloc (.cells #[.map (some b)] 43)).alloc (.cells #[.int .i64 (n : Nat)] 3)).alloc (.cells #[.map none] 43)) := (((Below.refl _ w).alloc (Nat.le_refl _) _).alloc (by simp) _).alloc (by simp; omega) _
    exact ⟨0, b, T, Nat.zero_le _, rfl, ((Boxed.new w 43 (.map (some b))).alloc _).alloc _, hT.same (hb.block b hT.lt), rfl, hb, b1, b2⟩
  have HT1 : Hid (∀ s x, T s = some x → x < 1000) := hT1
  have hw1 : IntKind.i64.wrap 1 = 1 := by decide
  have hw2 : IntKind.i64.wrap 2 = 2 := by decide
  have hw3 : IntKind.i64.wrap 3 = 3 := by decide
  have hw0 : IntKind.i64.wrap 0 = 0 := by decide
  have hw6 : IntKind.i64.wrap 6 = 6 := by decide
  have hw12 : IntKind.i64.wrap 12 = 12 := by decide
  clear hT1 hT
  obtain ⟨K, hK⟩ : ∃ K, pairs n = K := ⟨_, rfl⟩
  have hK2 : (n : Int) * ((n : Int) - 1) = 2 * (K : Int) := by
    rcases (by omega : n = 1 ∨ n = 2 ∨ n = 3 ∨ n = 4) with rfl | rfl | rfl | rfl <;> (rw [← hK]; decide)
  have hK6 : K ≤ 6 := by
    rcases (by omega : n = 1 ∨ n = 2 ∨ n = 3 ∨ n = 4) with rfl | rfl | rfl | rfl <;> (rw [← hK]; decide)
  have HKK : Hid (pairs n = K) := hK
  clear hK
  go_enter Try.func19, Try.ntmps19
  go_wp2
  go_loopw [10] (fun i wr => RearRel w n T i wr) (fun i _ => K - (intOf i).toNat)
  case atStart => exact HR0.out
  case round =>
    obtain ⟨k, b1, T1, hk, rfl, bT, hT, hS, hbel, bN, bR⟩ := hrel
    rw [HKK.out] at hk
    have cT := bT.cell
    have cN := bN.cell
    have cR := bR.cell
    have fR := bR.frozen
    have hwr := hbel.size
    have HBT : Hid (Boxed wr w.heap.size 43 (.map (some b1))) := bT
    have HBN : Hid (Boxed wr (w.heap.size + 1) 3 (.int .i64 (n : Nat))) := bN
    have HBR : Hid (Boxed wr (w.heap.size + 1 + 1) 43 (.map none)) := bR
    have HT : Hid (IsTab Unit wr b1 T1) := hT
    have HS : Hid (StepsC n k T T1) := hS
    have HB : Hid (Below w.heap.size w wr) := hbel
    have HLD : Hid (LeadsTo wr 46 #[.pointer (some ⟨w.heap.size + 1, 0, none⟩)] 66 (fun s => chTo s (n - 1)) 7) := leads_changed hn1 hn4 cN
    clear bT bN bR hT hS hbel
    by_cases hlt : k < K
    · have HL1 : Hid (∀ st x, T1 st = some x → x < 1024) := fun st x e => by have := stepsC_lt HT1.out HS.out st x e; omega
      go_wp2_with (go_at_call 20; go_must (refine (tstep2_any Unit b1 T1 HL1.out _ _ 7 _ HT.out HLD.out).mono ?_; rintro e w3 ⟨⟨b3, T3, rfl, hT3, hO3⟩, hb3⟩; have bT3 : Boxed w3 w.heap.size 43 (.map (some b1)) := box_later HBT.out hb3; have cT3 := bT3.cell; have fT3 := bT3.frozen; have HT3 : Hid (IsTab Unit w3 b3 T3) := hT3; have HO3 : Hid (Onto (fun s => chTo s (n - 1)) T1 T3) := hO3; have HB3 : Hid (Below wr.heap.size wr w3) := hb3; have HBT3 : Hid (Boxed w3 w.heap.size 43 (.map (some b1))) := bT3; clear hT3 hO3 hb3 bT3))
      go_roundw
      case rel =>
        have hne : b3 ≠ w.heap.size := fun e => by
          obtain ⟨es, ck, hh⟩ := HT3.out.obj
          have := HBT3.out
          unfold Boxed at this
          rw [e, this] at hh; cases hh
        exact ⟨k + 1, b3, T3, by rw [HKK.out]; omega, by go_num, HBT3.out.set _, HT3.out.setCell (a := ⟨w.heap.size, 0, none⟩) hne _, ⟨T1, HS.out, HO3.out⟩, (HB.out.trans (HB3.out.mono hwr)).setCell (p := ⟨w.heap.size, 0, none⟩) (Nat.le_refl _) _, (box_later HBN.out HB3.out).other (by omega) _, (box_later HBR.out HB3.out).other (by omega) _⟩
      case measure => simp [intOf]; omega
    · have hkK : k = K := by omega
      subst hkK
      go_wp2
      have bR2 := HBR.out.set (.map (some b1))
      have cR2 := bR2.cell
      have hne : b1 ≠ w.heap.size + 1 + 1 := fun e => by
        obtain ⟨es, ck, hh⟩ := HT.out.obj
        have := HBR.out
        unfold Boxed at this
        rw [e, this] at hh; cases hh
      exact bodyPost_ret (v := .agg #[.map (some b1)]) (by simp [results, Try.results19, go_sem, cR2, Result.andThen]) rfl ⟨⟨b1, T1, rfl, HT.out.setCell (a := ⟨w.heap.size + 1 + 1, 0, none⟩) hne _, by rw [HKK.out]; exact HS.out⟩, HB.out.setCell (p := ⟨w.heap.size + 1 + 1, 0, none⟩) (by show w.heap.size ≤ w.heap.size + 1 + 1; omega) _⟩
end Go.Proofs.Ytnjfmlojbaigjab
