/- The walks of clock.replace and clock.pages. -/
import Derived.Test.YtldeonnbpfkmoaaClock
import Derived.Deep.LoopGhost
namespace Go.Proofs.Ytldeonnbpfkmoaa
open Go.RowKit Go.Sort

theorem next_hand (h n : Nat) : ((h : Int) + 1) % (n : Int) = (((h + 1) % n : Nat) : Int) := by
  rw [Int.natCast_emod]; rfl

set_option maxHeartbeats 1000000 in
theorem replace_any (base : Nat) (v : Value) (t : List Slot) (h : Nat) (p : Int) (w : World) (hO : OwnS w base v t) (hh : h < t.length) (ht : t.length ≤ 8) :
    Calls Try.prog 36 #[v, .int .i64 h, .int .i64 p] w fun e w' => e = .returned (.int .i64 ((turned t h p).2 : Nat)) ∧ OwnS w' base v (turned t h p).1 ∧ Keeps base w w' := by
  obtain ⟨g, cap, rfl, hgb, hgw, hlc, hcap⟩ := hO.block (by omega)
  unfold maxLen at hcap
  have HT : Hid (turned t h p = letIn (sweep (nmarks t) t h).1 (sweep (nmarks t) t h).2 p) := rfl
  generalize turned t h p = R at *
  generalize hsw : sweep (nmarks t) t h = S at HT
  have HO : Hid (OwnS w base (.slice (some ⟨g, 0, none⟩) t.length cap) t) := hO
  clear hO
  have HS : Hid (sweep (nmarks t) t h = S) := hsw
  clear hsw
  generalize hn : t.length = n at *
  have HN : Hid (t.length = n) := hn
  clear hn
  have hn0 : 0 < n := by omega
  go_enter Try.func36, Try.ntmps36
  go_wp2
  go_loopg [1] (nmarks t) (fun f hv wr => ∃ (tt : List Slot) (h2 : Nat), hv = .int .i64 h2 ∧ h2 < n ∧ Hid (tt.length = n) ∧ Hid (nmarks tt ≤ f) ∧ Hid (sweep f tt h2 = S) ∧ Hid (OwnS wr base (.slice (some ⟨g, 0, none⟩) n cap) tt) ∧ Hid (Keeps base w wr))
  case atStart => exact ⟨t, h, rfl, hh, HN, Nat.le_refl _, HS, HO, Keeps.refl _ _⟩
  case round =>
    obtain ⟨tt, h2, rfl, hh2, HL, HF, HW, HR, HK⟩ := hrel
    have hc2 : wr.cell? ⟨g, h2 * 2 + 1, none⟩ = some (.bool (slotAt tt h2).2) := HR.out.mark HL.out.symm (by rw [HL.out]; exact hh2)
    have hc1 : wr.cell? ⟨g, h2 * 2, none⟩ = some (.int .i64 (slotAt tt h2).1) := HR.out.page HL.out.symm (by rw [HL.out]; exact hh2)
    have hfz2 : wr.frozen? ⟨g, h2 * 2 + 1, none⟩ = false := HR.out.unfrozen HL.out.symm _
    have hfz1 : wr.frozen? ⟨g, h2 * 2, none⟩ = false := HR.out.unfrozen HL.out.symm _
    have HX : Hid (((h2 : Int) + 1) % (n : Int) = (((h2 + 1) % n : Nat) : Int)) := next_hand h2 n
    cases hm : (slotAt tt h2).2
    · have HM : Hid ((slotAt tt h2).2 = false) := hm
      rw [hm] at hc2
      clear hm
      go_wp2
      go_ret
      have E : (tt, h2) = S := by rw [← HW.out, sweep_end HM.out]
      rw [show R = letIn tt h2 p by rw [HT.out, ← E]]
      have P := HR.out.setSlot HL.out.symm h2 p true
      refine ⟨?_, P.1, HK.out.trans (keepsS_grown HR.out P.2)⟩
      unfold letIn
      rw [HL.out, ← HX.out]
      rfl
    · have HM : Hid ((slotAt tt h2).2 = true) := hm
      have HP : Hid (nmarks (tt.set h2 ((slotAt tt h2).1, false)) + 1 = nmarks tt) := nmarks_off (by rw [HL.out]; exact hh2) hm
      rw [hm] at hc2
      clear hm
      go_wp2
      go_roundg (gk - 1)
      case measure => have := HF.out; have := HP.out; omega
      case rel =>
        have P := HR.out.setMark HL.out.symm h2 false
        exact ⟨_, _, by rw [HX.out], Nat.mod_lt _ hn0, by unfold Hid; rw [List.length_set]; exact HL.out, by unfold Hid; have := HF.out; have := HP.out; omega, by unfold Hid; rw [← HW.out, show gk = gk - 1 + 1 by have := HF.out; have := HP.out; omega, sweep_on HM.out, HL.out]; rfl, P.1, HK.out.trans (keepsS_grown HR.out P.2)⟩

theorem alloc_size (w : World) (o : Obj) : (w.alloc o).heap.size = w.heap.size + 1 := by simp

set_option maxHeartbeats 1000000 in
theorem slotpages_any (base : Nat) (v : Value) (t : List Slot) (w : World) (hO : OwnS w base v t) (hB : base ≤ w.heap.size) (ht : t.length ≤ 8) :
    Calls Try.prog 37 #[v] w fun e w' => ∃ vh, e = .returned vh ∧ OwnI w' base vh (pagesOf t) ∧ Keeps base w w' := by
  by_cases h0 : t.length = 0
  · have : t = [] := List.eq_nil_of_length_eq_zero h0
    subst this
    obtain ⟨ao, cap, rfl⟩ := hO.form
    clear hO
    go_enter Try.func37, Try.ntmps37
    go_wp2
    go_loop [3, 8] (fun h i => h = .slice none 0 0 ∧ i = .int .i64 0) (fun _ _ => 0)
    case atStart => exact ⟨rfl, rfl⟩
    case round =>
      obtain ⟨rfl, rfl⟩ := hrel
      go_wp2
      go_ret
      exact ⟨_, rfl, OwnI.nil _ _, Keeps.refl _ _⟩
  · obtain ⟨g, cap, rfl, hgb, hgw, hlc, hcap⟩ := hO.block (by omega)
    obtain ⟨i0, hi, hz0, hz1, hz2⟩ := info_parts Try.info3
    have HI : Hid (Try.prog.info? 3 = some i0 ∧ i0.zero = some (.int .i64 0) ∧ i0.size = 1 ∧ i0.bytes = 8) := ⟨hi, hz0, hz1, hz2⟩
    clear hi hz0 hz1 hz2
    unfold maxLen at hcap
    have HO : Hid (OwnS w base (.slice (some ⟨g, 0, none⟩) t.length cap) t) := hO
    clear hO
    generalize hn : t.length = n at *
    have HN : Hid (t.length = n) := hn
    clear hn
    go_enter Try.func37, Try.ntmps37
    go_wp2
    go_loopw [3, 5, 8] (fun vh _ i wr => ∃ k : Nat, k ≤ n ∧ i = .int .i64 k ∧ OwnI wr base vh ((pagesOf t).take k) ∧ Hid (OwnS wr base (.slice (some ⟨g, 0, none⟩) n cap) t) ∧ Hid (Keeps base w wr) ∧ base ≤ wr.heap.size) (fun _ _ i _ => n - (intOf i).toNat)
    case atStart => exact ⟨0, by omega, rfl, OwnI.nil _ _, HO, Keeps.refl _ _, hB⟩
    case round =>
      obtain ⟨k, hk, rfl, hI, HR, HK, hBr⟩ := hrel
      by_cases hlt : k < n
      · have hc1 : wr.cell? ⟨g, k * 2, none⟩ = some (.int .i64 (slotAt t k).1) := HR.out.page HN.out.symm (by rw [HN.out]; exact hlt)
        have hc2 : wr.cell? ⟨g, k * 2 + 1, none⟩ = some (.bool (slotAt t k).2) := HR.out.mark HN.out.symm (by rw [HN.out]; exact hlt)
        have HL : Hid (((pagesOf t).take k).length = k) := by unfold Hid; rw [List.length_take, pagesOf_length, HN.out]; omega
        have HT : Hid ((pagesOf t).take (k+1) = (pagesOf t).take k ++ [(slotAt t k).1]) := by
          unfold Hid
          rw [List.take_add_one, ← pagesOf_get, List.getElem?_eq_getElem (by rw [pagesOf_length, HN.out]; exact hlt)]; rfl
        obtain ⟨ao, cp, hu⟩ := hI.form
        rw [HL.out] at hu
        subst hu
        have HI2 : Hid (OwnI wr base (.slice ao k cp) ((pagesOf t).take k)) := hI
        clear hI
        generalize slotAt t k = x at *
        obtain ⟨q, m⟩ := x
        simp only at hc1 hc2
        generalize (pagesOf t).take k = lk at *
        have HI3 : Hid (OwnI (wr.alloc (.cells #[.int .i64 q, .bool m] 56)) base (.slice ao k cp) lk) := World.ownsRow.alloc HI2.out _
        have HR3 : Hid (OwnS (wr.alloc (.cells #[.int .i64 q, .bool m] 56)) base (.slice (some ⟨g, 0, none⟩) n cap) t) := World.ownsRow.alloc HR.out _
        have HK3 : Hid (Keeps base w (wr.alloc (.cells #[.int .i64 q, .bool m] 56))) := HK.out.trans (keeps_alloc hBr _)
        go_wp2_with (at_builtin; go_must (refine wpList_append_own _ rfl _ _ 22 rfl base 3 i0 (.int .i64 0) 1 8 Try.underlying22 HI.out.1 HI.out.2.1 HI.out.2.2.1 HI.out.2.2.2 rfl (by decide) _ k (lk.map (Value.int .i64)) rfl (World.ownsRow.alloc (HI3.out.rows HL.out rfl) _) ⟨wr.heap.size + 1, 0, none⟩ 1 1 [.int .i64 q] rfl rfl (by have h := new_one (wr.alloc (.cells #[.int .i64 q, .bool m] 56)) (.int .i64 q) 3; rw [alloc_size] at h; exact h) (one_cell _) (by unfold maxLen; omega) (by omega) (by simp; omega) ?_; intro v2 w2 hown' hgrow _; have R := intS_append HI3.out HL.out HR3.out (by rw [alloc_size]; omega) hown' hgrow; have HA1 : Hid _ := R.1; have HA2 : Hid _ := R.2.1; have HA3 : Hid _ := R.2.2; have hs2 := hgrow.size; rw [alloc_size, alloc_size] at hs2; clear hown' hgrow R))
        go_roundw
        case rel => exact ⟨k + 1, by omega, by go_num, by rw [HT.out]; exact HA1.out, HA2.out, HK3.out.trans HA3.out, by omega⟩
        case measure => simp [intOf]; omega
      · have HT : Hid ((pagesOf t).take k = pagesOf t) := by unfold Hid; rw [List.take_of_length_le]; rw [pagesOf_length, HN.out]; omega
        have HI2 : Hid (OwnI wr base u3 (pagesOf t)) := by have := hI; rw [HT.out] at this; exact this
        clear hI
        go_wp2
        go_ret
        exact ⟨_, rfl, HI2.out, HK.out⟩
end Go.Proofs.Ytldeonnbpfkmoaa
