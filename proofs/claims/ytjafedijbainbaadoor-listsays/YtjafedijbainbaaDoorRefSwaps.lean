/- The walks of the document's answer (larderwickref1): swaps, forward. -/
import Derived.Test.YtjafedijbainbaaDoorRefPut
import Derived.Test.YtjafedijbainbaaDoorLists
import Derived.Deep.RegionWith
namespace Go.Proofs.YtjafedijbainbaaDoor
set_option maxRecDepth 100000
open Go.RowKit Go.Sort

theorem many_succ {q : Int → Bool} {A : List Int} {j : Nat} (h : j < A.length) : many q (A.take (j+1)) = many q (A.take j) + (if q (A[j]?.getD 0) then 1 else 0) := by
  rw [List.take_succ_eq_append_getElem h, List.getElem?_eq_getElem h, Option.getD_some]
  unfold many
  rw [List.filter_append, List.length_append]
  congr 1
  cases h2 : q A[j] <;> simp [List.filter, h2]
theorem swp_le (A B : List Int) : ∀ k, swp A B k ≤ k * k
  | 0 => Nat.le_refl _
  | k + 1 => by
    have h1 := swp_le A B k
    have h2 : many (fun x => ahd B (A[k]?.getD 0) x) (A.take k) ≤ k := Nat.le_trans (many_le _ _) (List.length_take_le _ _)
    rw [swp, Nat.succ_mul, Nat.mul_succ]; omega
def SWRel (w : World) (A B : List Int) (n i : Value) (wr : World) : Prop := ∃ (k : Nat), k ≤ A.length ∧ i = .int .i64 (k : Nat) ∧ n = .int .i64 (swp A B k : Nat) ∧ ∃ q, wr = w.drewN q
def SJRel (w : World) (A B : List Int) (k : Nat) (n j : Value) (wr : World) : Prop := ∃ (t : Nat), t ≤ k ∧ j = .int .i64 (t : Nat) ∧ n = .int .i64 ((swp A B k + many (fun x => ahd B (A[k]?.getD 0) x) (A.take t) : Nat) : Int) ∧ ∃ q, wr = w.drewN q
set_option maxHeartbeats 1000000 in
theorem rswaps_any (va vb : Value) (A B : List Int) (w : World) (hA : IsInts w va A) (hB : IsInts w vb B) (hin : ∀ x, x ∈ A → x ∈ B) (hlen : A.length ≤ 100) (_ : B.length ≤ 100) :
    Calls Tryd.prog 21 #[va, vb] w fun e w' => e = .returned (.int .i64 (swp A B A.length : Nat)) ∧ ∃ q, w' = w.drewN q := by
  have HA : Hid (IsInts w va A) := hA
  have HB : Hid (IsInts w vb B) := hB
  have HIN : Hid (∀ x, x ∈ A → x ∈ B) := hin
  obtain ⟨ao, cap, rfl, hcap, ho⟩ := hA.opened
  have HO : Hid (∀ k, k < A.length → ∃ b off, ao = some ⟨b, off, none⟩ ∧ A.length ≤ cap ∧ b < w.heap.size ∧ ∀ j, j < A.length → w.cell? ⟨b, off + j, none⟩ = some (.int .i64 (A[j]?.getD 0))) := ho
  clear ho hA hB hin
  unfold maxLen at hcap
  have HR0 : Hid (SWRel w A B (.int .i64 0) (.int .i64 0) w) := ⟨0, Nat.zero_le _, rfl, rfl, 0, rfl⟩
  go_enter Tryd.func21, Tryd.ntmps21
  go_wp2
  go_loopw [5, 6] (fun n i wr => SWRel w A B n i wr) (fun _ i _ => A.length - (intOf i).toNat)
  case atStart => exact HR0.out
  case round =>
    clear HR0
    obtain ⟨k, hk, rfl, rfl, q0, rfl⟩ := hrel
    by_cases hlt : k < A.length
    · have HK0 : Hid (SJRel w A B k (.int .i64 (swp A B k : Nat)) (.int .i64 0) (w.drewN q0)) := ⟨0, Nat.zero_le _, rfl, by rw [List.take_zero]; rfl, q0, rfl⟩
      have hsw := swp_le A B k
      have hkk : k * k ≤ 10000 := Nat.mul_le_mul (show k ≤ 100 by omega) (show k ≤ 100 by omega)
      have HSW : Hid (swp A B (k+1) = swp A B k + many (fun x => ahd B (A[k]?.getD 0) x) (A.take k)) := rfl
      go_wp2
      go_loopw [5, 7] (fun n j wr => SJRel w A B k n j wr) (fun _ j _ => k - (intOf j).toNat)
      case atStart => exact HK0.out
      case round =>
        clear HK0
        obtain ⟨t, ht, rfl, rfl, HQ⟩ := hrel
        have HQ : Hid (∃ q, wr = w.drewN q) := HQ
        have HH : Hid (wr.heap = w.heap) := by obtain ⟨q, hq⟩ := HQ.out; unfold Hid; rw [hq]; rfl
        have HCE : Hid (∀ p, wr.cell? p = w.cell? p) := by obtain ⟨q, hq⟩ := HQ.out; intro p; rw [hq]; rfl
        have hmt : many (fun x => ahd B (A[k]?.getD 0) x) (A.take t) ≤ 100 := Nat.le_trans (many_le _ _) (Nat.le_trans (List.length_take_le _ _) (by omega))
        by_cases hlt2 : t < k
        · obtain ⟨b, off, rfl, hlc, hbw, hcell⟩ := HO.out k hlt
          have hck : wr.cell? ⟨b, off + k, none⟩ = some (.int .i64 (A[k]?.getD 0)) := (HCE.out _).trans (hcell k hlt)
          have hct : wr.cell? ⟨b, off + t, none⟩ = some (.int .i64 (A[t]?.getD 0)) := (HCE.out _).trans (hcell t (by omega))
          have HM : Hid (many (fun x => ahd B (A[k]?.getD 0) x) (A.take (t+1)) = many (fun x => ahd B (A[k]?.getD 0) x) (A.take t) + (if ahd B (A[k]?.getD 0) (A[t]?.getD 0) then 1 else 0)) := many_succ (by omega)
          have hmk : A[k]?.getD 0 ∈ B := HIN.out _ (by rw [List.getElem?_eq_getElem hlt]; exact List.getElem_mem hlt)
          have hmj : A[t]?.getD 0 ∈ B := HIN.out _ (by rw [List.getElem?_eq_getElem (show t < A.length by omega)]; exact List.getElem_mem _)
          have HPK : Hid (∀ w' : World, w'.heap = wr.heap → Calls Tryd.prog 17 #[vb, .int .i64 (A[k]?.getD 0)] w' fun e w'' => e = .returned (.int .i64 (pos B (A[k]?.getD 0) : Nat)) ∧ w'' = w') := fun w' h => by rw [← plc_pos hmk]; exact rplace_any vb B _ w' (HB.out.heap (h.trans HH.out))
          have HPT : Hid (∀ w' : World, w'.heap = wr.heap → Calls Tryd.prog 17 #[vb, .int .i64 (A[t]?.getD 0)] w' fun e w'' => e = .returned (.int .i64 (pos B (A[t]?.getD 0) : Nat)) ∧ w'' = w') := fun w' h => by rw [← plc_pos hmj]; exact rplace_any vb B _ w' (HB.out.heap (h.trans HH.out))
          have HAH : Hid (ahd B (A[k]?.getD 0) (A[t]?.getD 0) = decide (pos B (A[k]?.getD 0) < pos B (A[t]?.getD 0))) := rfl
          have hp1 : pos B (A[k]?.getD 0) ≤ B.length := List.idxOf_le_length
          have hp2 : pos B (A[t]?.getD 0) ≤ B.length := List.idxOf_le_length
          clear hcell hbw hmk hmj
          obtain ⟨S, hS⟩ : ∃ S, swp A B k = S := ⟨_, rfl⟩
          have HFIN : Hid (∀ (z : Nat) (wr' : World), z = S + many (fun x => ahd B (A[k]?.getD 0) x) (A.take (t+1)) → (∃ q, wr' = w.drewN q) → SJRel w A B k (.int .i64 (z : Nat)) (.int .i64 ((t : Int) + 1)) wr') := fun z wr' hz hb => ⟨t + 1, by omega, by go_num, by rw [hS, hz], hb⟩
          rw [hS] at hsw ⊢
          clear hS
          generalize many (fun x => ahd B (A[k]?.getD 0) x) (A.take (t+1)) = M1 at *
          generalize many (fun x => ahd B (A[k]?.getD 0) x) (A.take t) = M at *
          generalize hbb : ahd B (A[k]?.getD 0) (A[t]?.getD 0) = bb at *
          clear hbb
          generalize pos B (A[k]?.getD 0) = pk at *
          generalize pos B (A[t]?.getD 0) = pt at *
          generalize A[k]?.getD 0 = ak at *
          generalize A[t]?.getD 0 = at_ at *
          by_cases hpp : (pk : Int) < (pt : Int)
          · have HM1 : Hid (M1 = M + 1) := by unfold Hid; rw [HM.out, HAH.out, decide_eq_true (show pk < pt by omega)]; rfl
            go_wp2
            go_quiet (first | (go_at_call_of 17 (Value.int .i64 ak); exact (HPK.out _ (by rfl)).mono fun _ _ ⟨he, hm⟩ => ⟨he, _, hm⟩) | (go_at_call_of 17 (Value.int .i64 at_); exact (HPT.out _ (by rfl)).mono fun _ _ ⟨he, hm⟩ => ⟨he, _, hm⟩))
            go_wp2
            go_roundw
            case rel => exact HFIN.out (S + M + 1) _ (by rw [HM1.out]; omega) (by obtain ⟨q, hq⟩ := HQ.out; exact ⟨q + nq, by rw [hq]; simp⟩)
            case measure => simp [intOf]; omega
          · have HM1 : Hid (M1 = M) := by unfold Hid; rw [HM.out, HAH.out, decide_eq_false (show ¬ pk < pt by omega)]; rfl
            go_wp2
            go_quiet (first | (go_at_call_of 17 (Value.int .i64 ak); exact (HPK.out _ (by rfl)).mono fun _ _ ⟨he, hm⟩ => ⟨he, _, hm⟩) | (go_at_call_of 17 (Value.int .i64 at_); exact (HPT.out _ (by rfl)).mono fun _ _ ⟨he, hm⟩ => ⟨he, _, hm⟩))
            go_wp2
            go_roundw
            case rel => exact HFIN.out (S + M) _ (by rw [HM1.out]) (by obtain ⟨q, hq⟩ := HQ.out; exact ⟨q + nq, by rw [hq]; simp⟩)
            case measure => simp [intOf]; omega
        · have htk : t = k := by omega
          subst htk
          have HR : Hid (SWRel w A B (.int .i64 ((swp A B t + many (fun x => ahd B (A[t]?.getD 0) x) (A.take t) : Nat) : Int)) (.int .i64 ((t + 1 : Nat) : Int)) wr) := ⟨t + 1, by omega, rfl, rfl, HQ.out⟩
          go_wp2
          go_roundw
          case rel =>
            have hh := HR.out
            rw [show ((t + 1 : Nat) : Int) = (t : Int) + 1 by omega] at hh
            first | exact hh | ((repeat apply Exists.intro); exact ⟨hh, rfl⟩)
          case measure => simp [intOf]; omega
    · have hkl : k = A.length := by omega
      subst hkl
      generalize hS : swp A B A.length = S at *
      have HS : Hid (swp A B A.length = S) := hS
      clear hS
      go_wp2
      go_ret
      exact ⟨by rw [HS.out]; rfl, q0, rfl⟩
theorem swaps_at {va vb : Value} {A B : List Int} {w0 : World} (hA : IsInts w0 va A) (hB : IsInts w0 vb B) (hin : ∀ x, x ∈ A → x ∈ B) (hlen : A.length ≤ 100) (hb : B.length ≤ 100) (w : World) (hh : w.heap = w0.heap) :
    Calls Tryd.prog 21 #[va, vb] w fun e w' => e = .returned (.int .i64 (swp A B A.length : Nat)) ∧ ∃ q, w' = w.drewN q := rswaps_any va vb A B w (hA.heap hh) (hB.heap hh) hin hlen hb
end Go.Proofs.YtjafedijbainbaaDoor
