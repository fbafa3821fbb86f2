/- The walks of the document's answer (larderwickref1) for chapter 13: Messages, Late, lesser. -/
import Derived.Test.YtbdkpgjbcjmoiaaDoorRefIn0
import Derived.Test.YtbdkpgjbcjmoiaaDoorACame
namespace Go.Proofs.YtbdkpgjbcjmoiaaDoor
set_option maxRecDepth 100000
open Go.RowKit

theorem all_bad {l : List Int} : (l.all fun x => inB x 0 1000) = !l.any badT := by
  induction l with
  | nil => rfl
  | cons x r ih =>
    rw [List.all_cons, List.any_cons, ih]
    have : inB x 0 1000 = !badT x := by
      unfold inB badT
      by_cases h1 : 0 ≤ x <;> by_cases h2 : x ≤ 1000
      · rw [decide_eq_true h1, decide_eq_true h2, decide_eq_false (by omega), decide_eq_false (by omega)]; rfl
      · rw [decide_eq_true h1, decide_eq_false h2, decide_eq_false (by omega), decide_eq_true (by omega)]; rfl
      · rw [decide_eq_false h1, decide_eq_true h2, decide_eq_true (by omega)]; rfl
      · rw [decide_eq_false h1, decide_eq_true (show x < 0 by omega)]; rfl
    rw [this, Bool.not_or]

set_option maxHeartbeats 2000000 in
theorem rmsg_any (v : Value) (l : List Int) (p : Int) (w : World) (hv : IsInts w v l) :
    Calls Tryd.prog 4 #[v, .int .i64 p] w fun e w' => e = .returned (.int .i64 (chkA l p : Nat)) ∧ ∃ q, w' = w.drewN q := by
  have HV : Hid (IsInts w v l) := hv
  obtain ⟨ao, cap, rfl, hcap, ho⟩ := hv.opened
  have HO : Hid (∀ k, k < l.length → ∃ b off, ao = some ⟨b, off, none⟩ ∧ l.length ≤ cap ∧ b < w.heap.size ∧ ∀ j, j < l.length → w.cell? ⟨b, off + j, none⟩ = some (.int .i64 (l[j]?.getD 0))) := ho
  unfold maxLen at hcap
  clear ho hv
  by_cases h1 : 20 < l.length
  · have HK : Hid (chkA l p = 4) := chkA_long h1
    go_enter Tryd.func4, Tryd.ntmps4
    go_wp2
    go_ret
    exact ⟨by rw [HK.out]; rfl, 0, rfl⟩
  have hl20 : l.length ≤ 20 := by omega
  cases hb : l.any badT with
  | true =>
    have HK : Hid (chkA l p = 1) := chkA_time hl20 hb
    have HA : Hid ((l.all fun x => inB x 0 1000) = false) := by unfold Hid; rw [all_bad, hb]; rfl
    clear hb h1
    go_enter Tryd.func4, Tryd.ntmps4
    go_wp2_with (go_at_call 12; go_must (refine (all_any _ l 0 1000 _ HV.out).mono ?_; rintro e w' ⟨rfl, hw⟩; have hw := hw.symm; subst hw; rw [HA.out]))
    go_ret
    exact ⟨by rw [HK.out]; rfl, 0, rfl⟩
  | false =>
    have HA : Hid ((l.all fun x => inB x 0 1000) = true) := by unfold Hid; rw [all_bad, hb]; rfl
    have HBD : Hid (l.any badT = false) := hb
    clear hb h1
    by_cases hp : 1 ≤ p ∧ p ≤ 20
    case neg =>
      have HI : Hid (inB p 1 20 = false) := by unfold Hid inB; simp; omega
      have HK : Hid (chkA l p = 1) := chkA_price hl20 (by omega)
      clear hp
      go_enter Tryd.func4, Tryd.ntmps4
      go_wp2_with (first | (go_at_call 12; go_must (refine (all_any _ l 0 1000 _ HV.out).mono ?_; rintro e w' ⟨rfl, hw⟩; have hw := hw.symm; subst hw; rw [HA.out])) | (go_at_call 13; go_must (refine (in_any p 1 20 _).mono ?_; rintro e w' ⟨rfl, hw⟩; have hw := hw.symm; subst hw; rw [HI.out])))
      go_ret
      exact ⟨by rw [HK.out]; rfl, 0, rfl⟩
    have HI : Hid (inB p 1 20 = true) := by unfold Hid inB; simp [hp]
    have HP : Hid (1 ≤ p ∧ p ≤ 20) := hp
    clear hp
    have HLN : Hid (l.length ≤ 20) := hl20
    generalize hn : l.length = n at *
    have HN : Hid (l.length = n) := hn
    clear hn
    go_enter Tryd.func4, Tryd.ntmps4
    go_wp2_with (first | (go_at_call 12; go_must (refine (all_any _ l 0 1000 _ HV.out).mono ?_; rintro e w' ⟨rfl, hw⟩; have hw := hw.symm; subst hw; rw [HA.out])) | (go_at_call 13; go_must (refine (in_any p 1 20 _).mono ?_; rintro e w' ⟨rfl, hw⟩; have hw := hw.symm; subst hw; rw [HI.out])))
    go_loopw [5] (fun i wr => ∃ (k q : Nat), 1 ≤ k ∧ i = .int .i64 k ∧ wr = w.drewN q ∧ Hid (∀ m, m + 1 < k → m + 1 < n → l[m]?.getD 0 ≤ l[m+1]?.getD 0)) (fun i _ => n - (intOf i).toNat)
    case atStart => exact ⟨1, 0, Nat.le_refl _, rfl, rfl, fun m h1 h2 => by omega⟩
    case round =>
      obtain ⟨k, q, hk, rfl, rfl, HM⟩ := hrel
      by_cases hlt : k < n
      · obtain ⟨m, hm⟩ : ∃ m : Nat, k = m + 1 := ⟨k - 1, by omega⟩
        obtain ⟨b, off, rfl, hlc, hbw, hcell⟩ := HO.out k hlt
        have hca : (w.drewN q).cell? ⟨b, off + k, none⟩ = some (.int .i64 (l[k]?.getD 0)) := hcell k hlt
        have hcm : (w.drewN q).cell? ⟨b, off + m, none⟩ = some (.int .i64 (l[m]?.getD 0)) := hcell m (by omega)
        have HW0 : Hid (∀ n, ∃ q', (w.drewN q).drewN n = w.drewN q') := fun n => ⟨q + n, by rw [World.drewN_drewN]⟩
        have HKM : Hid (k = m + 1) := hm
        have hsub : IntKind.i64.wrap ((k : Int) - 1) = (m : Int) := by rw [IntKind.wrap_i64]; omega
        have hmn : m < n := by omega
        clear hcell hm
        generalize w.drewN q = wq at *
        generalize hx : l[k]?.getD 0 = x at *
        generalize hy : l[m]?.getD 0 = y at *
        have HX : Hid (l[k]?.getD 0 = x ∧ l[m]?.getD 0 = y) := ⟨hx, hy⟩
        clear hx hy
        by_cases hxy : x < y
        · have HR : Hid (chkA l p = 6) := chkA_clash (by rw [HN.out]; exact hl20) HBD.out HP.out fun hr => by
            have h := rising_adj hr (m := m) (by rw [HN.out, ← HKM.out]; exact hlt)
            rw [HX.out.2, ← HKM.out, HX.out.1] at h
            omega
          have hd : decide (x < y) = true := decide_eq_true hxy
          go_wp2
          go_quiet (fail)
          go_wp2
          go_ret
          exact ⟨by rw [HR.out]; rfl, HW0.out _⟩
        · have hd : decide (x < y) = false := decide_eq_false hxy
          go_wp2
          go_quiet (fail)
          go_wp2
          go_roundw
          case rel =>
            refine ⟨k + 1, (HW0.out _).choose, by omega, by go_num, (HW0.out _).choose_spec, fun j h1 h2 => ?_⟩
            by_cases ej : j = m
            · rw [ej, HX.out.2, ← HKM.out, HX.out.1]; omega
            · exact HM.out j (by have := HKM.out; omega) h2
          case measure => simp [intOf]; omega
      · have HR : Hid (chkA l p = 0) := chkA_ok (by rw [HN.out]; exact hl20) HBD.out HP.out (adj_rising fun m hm => HM.out m (by rw [HN.out] at hm; omega) (by rw [← HN.out]; exact hm))
        clear HM
        go_wp2
        go_ret
        exact ⟨by rw [HR.out]; rfl, _, rfl⟩

set_option maxHeartbeats 2000000 in
theorem rlate_any (v : Value) (l : List Int) (a : Int) (w : World) (hl : l.length ≤ 20) (h0 : ∀ x, x ∈ l → 0 ≤ x) (ha : 0 ≤ a ∧ a ≤ 4000) (hv : IsInts w v l) :
    Calls Tryd.prog 16 #[v, .int .i64 a] w fun e w' => e = .returned (.int .i64 (late l a)) ∧ w' = w := by
  obtain ⟨ao, cap, rfl, hcap, ho⟩ := hv.opened
  have HO : Hid (∀ k, k < l.length → ∃ b off, ao = some ⟨b, off, none⟩ ∧ l.length ≤ cap ∧ b < w.heap.size ∧ ∀ j, j < l.length → w.cell? ⟨b, off + j, none⟩ = some (.int .i64 (l[j]?.getD 0))) := ho
  have HB : Hid (∀ k, 0 ≤ late (l.take k) a ∧ late (l.take k) a ≤ 80000) := fun k => by
    refine ⟨late_nonneg _ _, ?_⟩
    have := late_le (l := l.take k) (a := a) (m := 4000) (by omega) fun x hx => by have := h0 x (List.mem_of_mem_take hx); omega
    have h2 : (l.take k).length ≤ 20 := by rw [List.length_take]; omega
    omega
  have HTM : Hid (∀ k, k < l.length → 0 ≤ l[k]?.getD 0) := fun k hk => by rw [List.getElem?_eq_getElem hk]; exact h0 _ (List.getElem_mem hk)
  have HS : Hid (∀ k, k < l.length → late (l.take (k+1)) a = late (l.take k) a + (if l[k]?.getD 0 < a then a - l[k]?.getD 0 else 0)) := fun k hk => by
    rw [List.take_succ_eq_append_getElem hk, late_append, late, late, List.getElem?_eq_getElem hk, Option.getD_some]; omega
  have HE : Hid (late (l.take l.length) a = late l a) := by unfold Hid; rw [List.take_length]
  clear ho hv h0
  unfold maxLen at hcap
  generalize hn : l.length = n at *
  clear hn
  go_enter Tryd.func16, Tryd.ntmps16
  go_wp2
  go_loop [5, 6] (fun s i => ∃ k : Nat, k ≤ n ∧ i = .int .i64 k ∧ s = .int .i64 (late (l.take k) a)) (fun _ i => n - (intOf i).toNat)
  case atStart => exact ⟨0, by omega, rfl, by rw [List.take_zero]; rfl⟩
  case round =>
    obtain ⟨k, hk, rfl, rfl⟩ := hrel
    by_cases hlt : k < n
    · obtain ⟨b, off, rfl, _, _, hcell⟩ := HO.out k hlt
      have hck : w.cell? ⟨b, off + k, none⟩ = some (.int .i64 (l[k]?.getD 0)) := hcell k hlt
      obtain ⟨s1, s2⟩ := HB.out k
      obtain ⟨s3, s4⟩ := HB.out (k + 1)
      have ht0 := HTM.out k hlt
      have ES := HS.out k hlt
      clear hcell
      generalize late (l.take k) a = s at *
      generalize l[k]?.getD 0 = t at *
      by_cases hta : t < a
      · rw [if_pos hta] at ES
        have HES : Hid (late (l.take (k+1)) a = s + (a - t)) := ES
        rw [ES] at s3 s4
        clear ES
        go_wp2
        go_round
        case rel => exact ⟨k + 1, by omega, by go_num, by rw [HES.out]; go_num⟩
        case measure => simp [intOf]; omega
      · rw [if_neg hta, Int.add_zero] at ES
        have HES : Hid (late (l.take (k+1)) a = s) := ES
        clear ES
        go_wp2
        go_round
        case rel => exact ⟨k + 1, by omega, by go_num, by rw [HES.out]⟩
        case measure => simp [intOf]; omega
    · have hkm : k = n := by omega
      subst hkm
      go_wp2
      go_ret
      exact ⟨by rw [HE.out]; rfl, rfl⟩

def lsr (a b : Int) : Int := if a < 0 ∨ b < a then b else a
set_option maxHeartbeats 400000 in
theorem lsr_any (a b : Int) (w : World) : Calls Tryd.prog 17 #[.int .i64 a, .int .i64 b] w fun e w' => e = .returned (.int .i64 (lsr a b)) ∧ w' = w := by
  by_cases h : a < 0
  · have HL : Hid (lsr a b = b) := by unfold Hid lsr; rw [if_pos (.inl h)]
    go_enter Tryd.func17, Tryd.ntmps17
    go_wp2
    go_ret
    exact ⟨by rw [HL.out]; rfl, rfl⟩
  · by_cases h2 : b < a
    · have HL : Hid (lsr a b = b) := by unfold Hid lsr; rw [if_pos (.inr h2)]
      go_enter Tryd.func17, Tryd.ntmps17
      go_wp2
      go_ret
      exact ⟨by rw [HL.out]; rfl, rfl⟩
    · have HL : Hid (lsr a b = a) := by unfold Hid lsr; rw [if_neg (by omega)]
      go_enter Tryd.func17, Tryd.ntmps17
      go_wp2
      go_ret
      exact ⟨by rw [HL.out]; rfl, rfl⟩
end Go.Proofs.YtbdkpgjbcjmoiaaDoor
