/- The walks of acks.came, acks.waited and acks.latest. -/
import Derived.Test.YtnjfmlojbaigjabAcks
import Derived.Test.YtnjfmlojbaigjabOpened
import Derived.Test.YtnjfmlojbaigjabShelf
import Derived.Test.YtnjfmlojbaigjabKeep
namespace Go.Proofs.Ytnjfmlojbaigjab
set_option maxRecDepth 100000
open Go.RowKit

set_option maxHeartbeats 1000000 in
theorem came_any (v : Value) (l : List Int) (a : Int) (w : World) (hl : l.length ≤ 20) (hr : rising l) (ha : -1 ≤ a ∧ a ≤ 4000) (hv : IsInts w v l) :
    Calls Try.prog 28 #[v, .int .i64 a] w fun e w' => e = .returned (.int .i64 (cameN l a : Nat)) ∧ ∃ q, w' = w.drewN q := by
  have hw : IntKind.i64.wrap (a + 1) = a + 1 := by rw [IntKind.wrap_i64]; omega
  rcases hv with ⟨rfl, ao, cap, rfl, hcap⟩ | ⟨b, off, cap, rfl, hpos, hlc, hcap, hc⟩
  · go_enter Try.func28, Try.ntmps28
    go_wp2_with (go_at_call 52; go_must (refine (Try.slices_BinarySearch_int_empty _ _ _ _).mono ?_; rintro e w' ⟨rfl, hw⟩; have hw := hw.symm; subst hw))
    go_ret
    exact ⟨rfl, 0, rfl⟩
  · have HB : Hid (Calls Try.prog 52 #[.slice (some ⟨b, off, none⟩) l.length cap, .int .i64 (a + 1)] w fun e w' => ∃ y, e = .returned (.tuple #[.int .i64 (cameN l a : Nat), .bool y]) ∧ ∃ q, w' = w.drewN q) :=
      (Try.slices_BinarySearch_int b off l.length cap l (a+1) w (Nat.le_refl _) (by omega) (fun j hj => by rw [List.getD_eq_getElem?_getD]; exact hc j hj) (by rw [List.take_length]; exact hr)).mono fun e w' ⟨he, hq⟩ => ⟨l.contains (a + 1), by rw [he, List.take_length]; rfl, hq⟩
    unfold maxLen at hcap
    clear hc
    go_enter Try.func28, Try.ntmps28
    go_wp2_with (go_at_call 52; go_must (refine HB.out.mono ?_; rintro e w' ⟨y, rfl, q, rfl⟩))
    go_ret
    exact ⟨rfl, _, rfl⟩

set_option maxHeartbeats 1000000 in
theorem waited_any (v : Value) (l : List Int) (a : Int) (w : World) (hl : l.length ≤ 20) (hr : rising l) (h0 : ∀ x, x ∈ l → 0 ≤ x) (ha : 0 ≤ a ∧ a ≤ 4000) (hv : IsInts w v l) :
    Calls Try.prog 27 #[v, .int .i64 a] w fun e w' => e = .returned (.int .i64 (late l a)) ∧ ∃ q, w' = w.drewN q := by
  have HCA : Hid (∀ q, Calls Try.prog 28 #[v, .int .i64 a] (w.drewN q) fun e w' => e = .returned (.int .i64 (cameN l a : Nat)) ∧ ∃ q', w' = (w.drewN q).drewN q') := fun q => came_any v l a _ hl hr (by omega) (hv.heap rfl)
  have HCA0 : Hid (Calls Try.prog 28 #[v, .int .i64 a] w fun e w' => e = .returned (.int .i64 (cameN l a : Nat)) ∧ ∃ q', w' = w.drewN q') := came_any v l a _ hl hr (by omega) hv
  obtain ⟨ao, cap, rfl, hcap, ho⟩ := hv.opened
  have HO : Hid (∀ k, k < l.length → ∃ b off, ao = some ⟨b, off, none⟩ ∧ l.length ≤ cap ∧ b < w.heap.size ∧ ∀ j, j < l.length → w.cell? ⟨b, off + j, none⟩ = some (.int .i64 (l[j]?.getD 0))) := ho
  have hlc : l.length ≤ cap := by
    by_cases h : 0 < l.length
    · obtain ⟨_, _, _, h, _⟩ := ho 0 h; exact h
    · omega
  have HLT : Hid (late (l.take (cameN l a)) a = late l a) := late_came hr a
  have HAT : Hid (∀ k, k < cameN l a → l[k]?.getD 0 ≤ a) := fun k hk => came_at hr hk
  have HB : Hid (∀ k, 0 ≤ late (l.take k) a ∧ late (l.take k) a ≤ 80000) := fun k => by
    refine ⟨late_nonneg _ _, ?_⟩
    have := late_le (l := l.take k) (a := a) (m := 4000) (by omega) fun x hx => by have := h0 x (List.mem_of_mem_take hx); omega
    have h2 : (l.take k).length ≤ 20 := by rw [List.length_take]; omega
    omega
  have HTM : Hid (∀ k, k < l.length → 0 ≤ l[k]?.getD 0) := fun k hk => by rw [List.getElem?_eq_getElem hk]; exact h0 _ (List.getElem_mem hk)
  have hm := cameN_le l a
  clear ho hv h0
  unfold maxLen at hcap
  generalize cameN l a = m at *
  go_enter Try.func27, Try.ntmps27
  go_wp2_with (go_at_call 28; go_must (refine HCA0.out.mono ?_; rintro e w' ⟨rfl, q, rfl⟩))
  go_loop [5, 14] (fun s i => ∃ k : Nat, k ≤ m ∧ i = .int .i64 k ∧ s = .int .i64 (late (l.take k) a)) (fun _ i => m - (intOf i).toNat)
  case atStart => exact ⟨0, by omega, rfl, by rw [List.take_zero]; rfl⟩
  case round =>
    obtain ⟨k, hk, rfl, rfl⟩ := hrel
    by_cases hlt : k < m
    · obtain ⟨b, off, rfl, _, _, hcell⟩ := HO.out k (by omega)
      have hck : (w.drewN q).cell? ⟨b, off + k, none⟩ = some (.int .i64 (l[k]?.getD 0)) := hcell k (by omega)
      have hs := HB.out k
      have hs2 := HB.out (k + 1)
      have HS : Hid (late (l.take (k+1)) a = late (l.take k) a + (a - l[k]?.getD 0)) := late_take (by omega) (HAT.out k hlt)
      have ht := HAT.out k hlt
      have ht0 := HTM.out k (by omega)
      rw [HS.out] at hs2
      clear hcell
      generalize late (l.take k) a = s at *
      generalize l[k]?.getD 0 = t at *
      go_wp2
      go_round
      case rel => exact ⟨k + 1, by omega, by go_num, by rw [HS.out]⟩
      case measure => simp [intOf]; omega
    · have hkm : k = m := by omega
      subst hkm
      go_wp2
      go_ret
      exact ⟨by rw [HLT.out]; rfl, _, rfl⟩

theorem first_le {p : Int} {l : List Int} (hf : FineA l p) (h0 : l ≠ []) : 0 ≤ firstAt p l ∧ firstAt p l ≤ 1020 := by
  cases l with
  | nil => exact absurd rfl h0
  | cons t r =>
    have hp := hf.price
    have hs := firstAt_spec (show 0 ≤ p by omega) hf.rise
    have ht := hf.times t List.mem_cons_self
    have h1 := hs.from_
    have h2 := hs.now
    have h3 := late_head (t := t) (d := firstAt p (t :: r) - t) r
    rw [show t + (firstAt p (t :: r) - t) = firstAt p (t :: r) by omega] at h3
    omega

set_option maxHeartbeats 1000000 in
theorem latest_any (v : Value) (l : List Int) (p : Int) (w : World) (hf : FineA l p) (h0 : l ≠ []) (hv : IsInts w v l) :
    Calls Try.prog 26 #[v, .int .i64 p] w fun e w' => e = .returned (.int .i64 (firstAt p l)) ∧ ∃ q, w' = w.drewN q := by
  have HWA : Hid (∀ q x, 0 ≤ x ∧ x ≤ 4000 → Calls Try.prog 27 #[v, .int .i64 x] (w.drewN q) fun e w' => e = .returned (.int .i64 (late l x)) ∧ ∃ q', w' = w.drewN q') := fun q x hx =>
    (waited_any v l x (w.drewN q) hf.many hf.rise (fun x hx => (hf.times x hx).1) hx (hv.heap rfl)).mono fun e w' ⟨he, q', hq⟩ => ⟨he, q + q', by rw [hq, World.drewN_drewN]⟩
  obtain ⟨t, r, rfl⟩ : ∃ t r, l = t :: r := by cases l with | nil => exact absurd rfl h0 | cons t r => exact ⟨t, r, rfl⟩
  obtain ⟨ao, cap, rfl, hcap, ho⟩ := hv.opened
  obtain ⟨b, off, rfl, hlc, _, hcell⟩ := ho 0 (by simp)
  have hc0 := hcell 0 (by simp)
  simp only [List.getElem?_cons_zero, Option.getD_some, Nat.add_zero] at hc0
  have hp := hf.price
  have htt := hf.times t List.mem_cons_self
  have hh : Hid (∀ d : Int, 0 ≤ d → d ≤ late (t :: r) (t + d)) := fun d _ => late_head r
  have HF0 : Hid (tellAt p (t :: r) (p.toNat + 1) t = firstAt p (t :: r)) := rfl
  have HL0 : Hid (late (t :: r) t = 0) := late_none fun x hx => by
    rcases List.mem_cons.1 hx with rfl | hx
    · exact Int.le_refl _
    · exact (List.pairwise_cons.1 hf.rise).1 x hx
  have h20 := hf.many
  have hn0 : 0 < (t :: r).length := by simp
  clear ho hcell hv hf h0
  unfold maxLen at hcap
  generalize (t :: r).length = n at *
  generalize (t :: r) = l at *
  go_enter Try.func26, Try.ntmps26
  go_wp2
  go_loopw [5] (fun s wr => ∃ (a : Int) (f q : Nat), s = .int .i64 a ∧ wr = w.drewN q ∧ Hid (tellAt p l f a = firstAt p l) ∧ t ≤ a ∧ Hid (late l a ≤ p) ∧ p < a - t + f ∧ a ≤ t + p) (fun s _ => (1100 - intOf s).toNat)
  case atStart => exact ⟨t, p.toNat + 1, 0, rfl, rfl, HF0.out, Int.le_refl _, by rw [Hid, HL0.out]; omega, by omega, by omega⟩
  case round =>
    obtain ⟨a, f, q, rfl, rfl, HT, hta, HLA, hpf, hap⟩ := hrel
    have hw1 : IntKind.i64.wrap (a + 1) = a + 1 := by rw [IntKind.wrap_i64]; omega
    have HCH : Hid (Calls Try.prog 27 #[.slice (some ⟨b, off, none⟩) n cap, .int .i64 (a + 1)] (w.drewN q) fun e w' => e = .returned (.int .i64 (late l (a + 1))) ∧ ∃ q', w' = w.drewN q') := HWA.out q (a + 1) (by omega)
    by_cases hx : late l (a + 1) ≤ p
    · have h1 := hh.out (a + 1 - t) (by omega)
      rw [show t + (a + 1 - t) = a + 1 by omega] at h1
      obtain ⟨f', rfl⟩ : ∃ f', f = f' + 1 := ⟨f - 1, by omega⟩
      have HT2 : Hid (tellAt p l f' (a + 1) = firstAt p l) := by
        have := HT.out
        rw [tellAt, if_pos hx] at this
        exact this
      have HX : Hid (late l (a + 1) ≤ p) := hx
      clear HT HLA
      generalize hxe : late l (a + 1) = x at *
      have HXE : Hid (late l (a + 1) = x) := hxe
      clear hxe
      go_wp2_with (go_at_call 27; go_must (refine HCH.out.mono ?_; rintro e w' ⟨rfl, q', rfl⟩))
      go_roundw
      case rel => exact ⟨a + 1, f', q', by go_num, rfl, HT2, by omega, by show late l (a + 1) ≤ p; rw [HXE.out]; exact HX.out, by omega, by omega⟩
      case measure => simp [intOf]; omega
    · have HT2 : Hid (firstAt p l = a) := by
        have := HT.out
        cases f with
        | zero => exact this.symm
        | succ f => rw [tellAt, if_neg hx] at this; exact this.symm
      clear HT HLA
      generalize late l (a + 1) = x at *
      go_wp2_with (go_at_call 27; go_must (refine HCH.out.mono ?_; rintro e w' ⟨rfl, q', rfl⟩))
      go_ret
      exact ⟨by rw [HT2.out]; rfl, _, rfl⟩
end Go.Proofs.Ytnjfmlojbaigjab
