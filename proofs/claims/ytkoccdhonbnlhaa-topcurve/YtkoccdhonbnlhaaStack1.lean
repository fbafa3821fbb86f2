/- The walks of stack.toTop and stack.missed. -/
import Derived.Test.YtkoccdhonbnlhaaDeepL
import Derived.Test.YtkoccdhonbnlhaaInserts
namespace Go.Proofs.Ytkoccdhonbnlhaa
open Go.RowKit Go.Sort

theorem ins_top (l : List Int) (p : Int) : insAt l 0 p = p :: l := by simp [insAt]
theorem erase_out {l : List Int} {p : Int} (h : p ∉ l) : l.erase p = l := List.erase_of_not_mem h
theorem Inserted.after {w w1 w2 : World} {base : Nat} {v v1 v' : Value} {l' : List Int} (hg : w.grownBy w1 v.ownBlock) (hv : v1.ownBlock = v.ownBlock) (h : Inserted w1 base v1 l' v' w2) : Inserted w base v l' v' w2 :=
  Inserted.from hg ⟨h.1, hv ▸ h.2.1, hv ▸ h.2.2⟩

set_option maxHeartbeats 1000000 in
theorem top_any (base : Nat) (v : Value) (F : List Int) (p : Int) (w : World) (hB : base ≤ w.heap.size) (hO : OwnI w base v F) (hl : F.length ≤ 100) :
    Calls Try.prog 20 #[v, .int .i64 p, .int .i64 (at_ F p)] w fun e w' => ∃ v', e = .returned v' ∧ Inserted w base v (p :: F.erase p) v' w' := by
  have HO : Hid (OwnI w base v F) := hO
  by_cases h : p ∈ F
  · obtain ⟨i, hi, hat, he⟩ := idx_hit h
    have HE : Hid (F.take i ++ F.drop (i+1) = F.erase p) := he
    have HP : Hid (p ∈ F) := h
    have hat2 : at_ F p = i := hat
    obtain ⟨g, cap, cur, rfl, _, _, _, hgn, hgm, _, _⟩ := hO.block (by intro h; subst h; simp at hi)
    have HH : Hid (Holds (Value.int .i64) w g 0 F.toArray) := own_holds hO rfl
    have HEL : Hid ((F.erase p).length = F.length - 1) := List.length_erase_of_mem h
    rw [hat2]
    clear hO hat hat2 he h
    unfold maxLen at hgm
    have hi0 : (0 : Int) ≤ (i : Int) := by omega
    go_enter Try.func20, Try.ntmps20
    go_wp2_with (go_at_call 26; fail)
    refine (Try.slices_Delete_int g 0 cap i (i+1) F _ HH.out hgn (by omega) (by omega) (by omega)).mono ?_
    rintro e w1 ⟨rfl, q, hw1⟩
    have HR := own_drop (q := q) HO.out hi HE.out HP.out
    rw [← hw1, show F.length - (i + 1 - i) = F.length - 1 by omega] at HR
    have HR1 : Hid (OwnI w1 base (.slice (some ⟨g, 0, none⟩) (F.length - 1) cap) (F.erase p)) := HR.1
    have HG1 : Hid (w.grownBy w1 (some g)) := HR.2
    have hB1 : base ≤ w1.heap.size := Nat.le_trans hB HR.2.size
    have HL1 : Hid ((F.erase p).length ≤ 100) := by unfold Hid; rw [HEL.out]; omega
    clear hw1 HR HH
    rw [show F.length - (i + 1 - i) = F.length - 1 by omega]
    go_wp2_with (go_at_call 29; go_must (refine (insert_any base _ (F.erase p) 0 p w1 hB1 HR1.out (Nat.zero_le _) HL1.out).mono ?_; rintro e w2 ⟨v', rfl, hI⟩; have HI2 : Hid (Inserted w1 base (.slice (some ⟨g, 0, none⟩) (F.length - 1) cap) (insAt (F.erase p) 0 p) v' w2) := hI; clear hI))
    go_ret
    exact ⟨_, rfl, by rw [← ins_top]; exact HI2.out.after HG1.out rfl⟩
  · have hat2 : at_ F p = -1 := idx_miss h
    have HE : Hid (insAt F 0 p = p :: F.erase p) := by unfold Hid; rw [ins_top, erase_out h]
    rw [hat2]
    clear hO h hat2
    go_enter Try.func20, Try.ntmps20
    go_wp2_with (go_at_call 29; go_must (refine (insert_any base _ F 0 p w hB HO.out (Nat.zero_le _) hl).mono ?_; rintro e w2 ⟨v', rfl, hI⟩; have HI2 : Hid (Inserted w base v (insAt F 0 p) v' w2) := hI; clear hI))
    go_ret
    exact ⟨_, rfl, by rw [← HE.out]; exact HI2.out⟩

/-- stack.missed of the depths of requests. -/
theorem deeper_yes {l : List Int} {s k : Nat} (h : deep l k = 0 ∨ s < deep l k) : deeper l s (k+1) = deeper l s k + 1 := by rw [deeper_succ, if_pos h]
theorem deeper_no {l : List Int} {s k : Nat} (h : ¬ (deep l k = 0 ∨ s < deep l k)) : deeper l s (k+1) = deeper l s k := by rw [deeper_succ, if_neg h]; rfl

set_option maxHeartbeats 1000000 in
theorem lies_any (v : Value) (l : List Int) (s : Nat) (w : World) (hv : IsInts w v (depthsOf l l.length)) (hl40 : l.length ≤ 40) :
    Calls Try.prog 17 #[v, .int .i64 s] w fun e w' => e = .returned (.int .i64 (deeper l s l.length)) ∧ w' = w := by
  rcases hv with ⟨h0, ao, cap, rfl, hcap⟩ | ⟨b, off, cap, rfl, hpos, hlc, hcap, hc⟩
  · have hl0 : l.length = 0 := by have := depthsOf_length l l.length; rw [h0] at this; simpa using this.symm
    have HD : Hid (deeper l s l.length = 0) := by unfold Hid; rw [hl0]; rfl
    clear h0 hl0
    go_enter Try.func17, Try.ntmps17
    go_wp2
    go_loop [5, 7, 10] (fun n _ i => n = .int .i64 0 ∧ i = .int .i64 0) (fun _ _ _ => 0)
    case atStart => exact ⟨rfl, rfl⟩
    case round =>
      obtain ⟨rfl, rfl⟩ := hrel
      go_wp2
      go_ret
      exact ⟨by rw [HD.out]; rfl, rfl⟩
  · rw [depthsOf_length] at hpos hlc hc ⊢
    have HC : Hid (∀ j, j < l.length → w.cell? ⟨b, off + j, none⟩ = some (.int .i64 (deep l j))) := fun j hj => by rw [hc j hj, depthsOf_get hj]
    clear hc
    unfold maxLen at hcap
    go_enter Try.func17, Try.ntmps17
    go_wp2
    go_loop [5, 7, 10] (fun n _ i => ∃ k : Nat, k ≤ l.length ∧ i = .int .i64 k ∧ n = .int .i64 (deeper l s k)) (fun _ _ i => l.length - (intOf i).toNat)
    case atStart => exact ⟨0, by omega, rfl, rfl⟩
    case round =>
      obtain ⟨k, hk, rfl, rfl⟩ := hrel
      have hml := deeper_le l s k
      by_cases hlt : k < l.length
      · have hck := HC.out k hlt
        by_cases hd : deep l k = 0
        · have HM : Hid (deeper l s (k+1) = deeper l s k + 1) := deeper_yes (.inl hd)
          rw [hd] at hck
          have hck : w.cell? ⟨b, off + k, none⟩ = some (.int .i64 0) := hck
          clear hd
          generalize deeper l s k = n at *
          go_wp2
          go_round
          case rel => exact ⟨k + 1, by omega, by go_num, by rw [HM.out]; go_num⟩
          case measure => simp [intOf]; omega
        · have hd2 : ((deep l k : Int) == 0) = false := by rw [beq_eq_false_iff_ne]; omega
          by_cases hs : s < deep l k
          · have HM : Hid (deeper l s (k+1) = deeper l s k + 1) := deeper_yes (.inr hs)
            clear hd
            generalize deeper l s k = n at *
            generalize deep l k = d at *
            have hs2 : (s : Int) < (d : Int) := by omega
            go_wp2
            go_round
            case rel => exact ⟨k + 1, by omega, by go_num, by rw [HM.out]; go_num⟩
            case measure => simp [intOf]; omega
          · have HM : Hid (deeper l s (k+1) = deeper l s k) := deeper_no (by omega)
            clear hd
            generalize deeper l s k = n at *
            generalize deep l k = d at *
            have hs2 : ¬ (s : Int) < (d : Int) := by omega
            go_wp2
            go_round
            case rel => exact ⟨k + 1, by omega, by go_num, by rw [HM.out]⟩
            case measure => simp [intOf]; omega
      · have HE : Hid (deeper l s l.length = deeper l s k) := by unfold Hid; rw [show l.length = k by omega]
        generalize deeper l s k = n at *
        go_wp2
        go_ret
        exact ⟨by rw [HE.out]; rfl, rfl⟩
end Go.Proofs.Ytkoccdhonbnlhaa
