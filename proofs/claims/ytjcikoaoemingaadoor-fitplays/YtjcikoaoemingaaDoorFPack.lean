/- The walk of Pack. -/
import Derived.Test.YtjcikoaoemingaaDoorFObj
import Derived.Test.YtjcikoaoemingaaDoorFitN
namespace Go.Proofs.YtjcikoaoemingaaDoor
open Go.RowKit Go.Sort

set_option maxRecDepth 100000 in
set_option maxHeartbeats 2000000 in
theorem packF_any (base a : Nat) (L : List (Nat × Nat)) (w : World) (hA : FAr w base a L) :
    Calls Tryd.prog 16 #[.pointer (some ⟨a, 0, none⟩)] w fun e w' => ∃ v1, e = .returned v1 ∧ OwnI w' w.heap.size v1 (atsI (packF 0 L)) ∧ FAr w' base a (packF 0 L) ∧ Alt base a w w' := by
  have HL : Hid (LaidF 0 L) := hA.laid
  have hlm := hA.most
  have hfa := hA.fromA
  obtain ⟨v, hbx, hO⟩ := hA.row
  have hAP := FAr.apart hbx hO
  obtain ⟨hca, _⟩ := one_box hbx
  have HBXA : Hid (w.heap[a]? = some (.cells #[v] 61 (0, 0))) := hbx
  have HO : Hid (OwnF w base v L) := hO
  have haw := hA.lt
  obtain ⟨ao, cap, rfl⟩ := hO.form
  clear hbx hO hA
  go_enter Tryd.func16, Tryd.ntmps16
  go_wp2
  go_loopw [3, 13] (fun v3 v13 wr => ∃ k : Nat, k ≤ L.length ∧ v13 = .int .i64 (k : Nat) ∧ v3 = .int .i64 (sumF (L.take k) : Nat) ∧ OwnF wr base (.slice ao L.length cap) (packTo L k) ∧ wr.heap[a]? = some (.cells #[.slice ao L.length cap] 61 (0, 0)) ∧ Alt base a w wr) (fun _ v13 _ => L.length - (intOf v13).toNat)
  case atStart => exact ⟨0, Nat.zero_le _, rfl, rfl, by rw [packTo_zero]; exact HO.out, HBXA.out, Alt.refl _ _ _⟩
  case round =>
    obtain ⟨k, hk, rfl, rfl, hO, hX, hT⟩ := hrel
    have HOK : Hid (OwnF wr base (.slice ao L.length cap) (packTo L k)) := hO
    have HXK : Hid (wr.heap[a]? = some (.cells #[.slice ao L.length cap] 61 (0, 0))) := hX
    have HTK : Hid (Alt base a w wr) := hT
    obtain ⟨hcr, _⟩ := one_box hX
    clear hO hX hT
    by_cases hkl : k < L.length
    · have hlt : (k : Int) < (L.length : Int) := by omega
      have hpl := packTo_length L k
      obtain ⟨g, cap', hv, hgb, hgw, hlc, hcm⟩ := HOK.out.block (by omega)
      rw [hpl] at hv hlc
      simp only [Value.slice.injEq, true_and] at hv
      obtain ⟨rfl, rfl⟩ := hv
      unfold maxLen at hcm
      have hga : g ≠ a := fun e => hAP (by rw [e]; rfl)
      have hat := packTo_at hkl
      have hc1 : wr.cell? ⟨g, k * 2, none⟩ = some (.int .i64 ((L[k]).1 : Nat)) := by rw [← hat]; exact HOK.out.at_ hpl.symm (by omega)
      have hc2 : wr.cell? ⟨g, k * 2 + 1, none⟩ = some (.int .i64 ((L[k]).2 : Nat)) := by rw [← hat]; exact HOK.out.size hpl.symm (by omega)
      have HST : Hid (sumF (L.take (k+1)) = sumF (L.take k) + (L[k]).2) := sumF_take hkl
      have HPS : Hid ((packTo L k).set k (sumF (L.take k), (blkAt (packTo L k) k).2) = packTo L (k+1)) := by unfold Hid; rw [hat]; exact packTo_succ hkl
      have hs64 := sumF_part HL.out k
      have hs65 := sumF_part HL.out (k+1)
      rw [HST.out] at hs65
      clear hat
      generalize (L[k]).1 = x at *
      generalize (L[k]).2 = y at *
      generalize sumF (L.take k) = q at *
      have hgne : g ≠ wr.heap.size := by omega
      have hane : a ≠ wr.heap.size := by have := HXK.out; intro e; rw [e] at this; simp at this
      have hcra : (wr.alloc (.cells #[.int .i64 (x : Nat), .int .i64 (y : Nat)] 56)).cell? ⟨a, 0, none⟩ = some (.slice (some ⟨g, 0, none⟩) L.length cap) := Lib.cell?_alloc_some _ hcr
      have hc1a : (wr.alloc (.cells #[.int .i64 (x : Nat), .int .i64 (y : Nat)] 56)).cell? ⟨g, k * 2, none⟩ = some (.int .i64 (x : Nat)) := Lib.cell?_alloc_some _ hc1
      have HOA : Hid (OwnF (wr.alloc (.cells #[.int .i64 (x : Nat), .int .i64 (y : Nat)] 56)) base (.slice (some ⟨g, 0, none⟩) L.length cap) (packTo L k)) := HOK.out.later ((Below.refl _ wr).alloc (Nat.le_refl _) _)
      have hfza : (wr.alloc (.cells #[.int .i64 (x : Nat), .int .i64 (y : Nat)] 56)).frozen? ⟨g, k * 2, none⟩ = false := HOA.out.unfrozen hpl.symm _
      have HXA : Hid ((wr.alloc (.cells #[.int .i64 (x : Nat), .int .i64 (y : Nat)] 56)).heap[a]? = some (.cells #[.slice (some ⟨g, 0, none⟩) L.length cap] 61 (0, 0))) := (Below.heap_alloc _ _ _ (by have := (Array.getElem?_eq_some_iff.1 HXK.out).1; omega)).trans HXK.out
      have HTA : Hid (Alt base a w (wr.alloc (.cells #[.int .i64 (x : Nat), .int .i64 (y : Nat)] 56))) := HTK.out.trans (Alt.later ((Below.refl _ wr).alloc (Nat.le_refl _) _))
      have HN : Hid (OwnF ((wr.alloc (.cells #[.int .i64 (x : Nat), .int .i64 (y : Nat)] 56)).setCell ⟨g, k * 2, none⟩ (.int .i64 (q : Nat))) base (.slice (some ⟨g, 0, none⟩) L.length cap) (packTo L (k+1)) ∧ ((wr.alloc (.cells #[.int .i64 (x : Nat), .int .i64 (y : Nat)] 56)).setCell ⟨g, k * 2, none⟩ (.int .i64 (q : Nat))).heap[a]? = some (.cells #[.slice (some ⟨g, 0, none⟩) L.length cap] 61 (0, 0)) ∧ Alt base a w ((wr.alloc (.cells #[.int .i64 (x : Nat), .int .i64 (y : Nat)] 56)).setCell ⟨g, k * 2, none⟩ (.int .i64 (q : Nat)))) := by
        have S := HOA.out.setAt hpl.symm k q
        rw [HPS.out] at S
        obtain ⟨h3, _, h4⟩ := HOA.out.kind (k := g) rfl
        exact ⟨S.1, (S.2.block a (Array.getElem?_eq_some_iff.1 HXA.out).1 (fun e => hga (Option.some.inj e).symm)).trans HXA.out, HTA.out.trans (Alt.turn (b := g) (Turn.grownB S.2) (.inr ⟨h3, h4⟩))⟩
      clear hgb hgw
      go_wp2
      go_roundw
      case rel => exact ⟨k + 1, by omega, by go_num, by rw [HST.out]; go_num, HN.out⟩
      case measure => simp [intOf]; omega
    · have hkn : k = L.length := by omega
      have hlt : ¬ (k : Int) < (L.length : Int) := by omega
      have HOE : Hid (OwnF wr base (.slice ao L.length cap) (packF 0 L)) := by
        have e : packTo L k = packF 0 L := by rw [hkn]; exact packTo_all L
        rw [← e]; exact HOK.out
      have hpl : (packF 0 L).length ≤ 100 := by rw [packF_length]; omega
      clear hkn
      go_wp2_with (go_at_call 26; go_must (refine (toldF_any base _ (packF 0 L) hpl _ HOE.out).mono ?_; rintro e w1 ⟨v1, v2, rfl, h1, _, hb⟩))
      go_ret
      refine ⟨_, rfl, ownI_mono h1 HTK.out.size, ⟨⟨_, (hb.block a (Array.getElem?_eq_some_iff.1 HXK.out).1).trans HXK.out, HOE.out.later hb⟩, packG_laid HL.out, hfa⟩, HTK.out.trans (Alt.later hb)⟩
end Go.Proofs.YtjcikoaoemingaaDoor
