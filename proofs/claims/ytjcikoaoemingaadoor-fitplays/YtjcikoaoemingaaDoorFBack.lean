/- The walk of Back. -/
import Derived.Test.YtjcikoaoemingaaDoorFObj
import Derived.Test.YtjcikoaoemingaaDoorFDel
import Derived.Test.YtjcikoaoemingaaDoorFitN
import Derived.Test.YtjcikoaoemingaaDoorStepL
namespace Go.Proofs.YtjcikoaoemingaaDoor
open Go.RowKit Go.Sort

set_option maxRecDepth 100000 in
set_option maxHeartbeats 2000000 in
theorem backF_any (base a : Nat) (L : List (Nat × Nat)) (z : Int) (w : World) (hA : FAr w base a L) :
    Calls Tryd.prog 18 #[.pointer (some ⟨a, 0, none⟩), .int .i64 z] w fun e w' => e = .returned (errV (backG L z).1) ∧ FAr w' base a (backG L z).2 ∧ Alt base a w w' := by
  have HA : Hid (FAr w base a L) := hA
  have hlm := hA.most
  clear hA
  cases hi : isF L z with
  | false =>
    have HF : Hid (backG L z = (5, L)) := by unfold Hid backG; rw [hi]; rfl
    have HI : Hid (isF L z = false) := hi
    clear hi
    go_enter Tryd.func18, Tryd.ntmps18
    go_wp2_with (go_at_call 28; go_must (refine (find_any base a L z _ HA.out).mono ?_; rintro e w1 ⟨rfl, hb⟩; rw [HI.out]; have HB : Hid (Below w.heap.size w w1) := hb; clear hb))
    go_ret
    rw [HF.out]
    exact ⟨rfl, HA.out.later HB.out, Alt.later HB.out⟩
  | true =>
    have HF : Hid (backG L z = (0, L.eraseIdx (posF L z))) := by unfold Hid backG; rw [hi]; rfl
    have HLL : Hid (LaidF 0 (L.eraseIdx (posF L z))) := eraseIdx_laid _ HA.out.laid
    have hpl : posF L z < L.length := by
      unfold isF at hi
      rw [Bool.and_eq_true, decide_eq_true_eq] at hi
      exact hi.1
    have HI : Hid (isF L z = true) := hi
    clear hi
    go_enter Tryd.func18, Tryd.ntmps18
    go_wp2_with (go_at_call 28; fail)
    refine (find_any base a L z _ HA.out).mono ?_
    rintro e w1 ⟨rfl, hb⟩
    rw [HI.out]
    have HB : Hid (Below w.heap.size w w1) := hb
    clear hb
    have HA1 : Hid (FAr w1 base a L) := HA.out.later HB.out
    obtain ⟨v, hbx, hO⟩ := HA1.out.row
    have hAP := FAr.apart hbx hO
    obtain ⟨g, cap, rfl, hgb, hgw, hlc, hcm⟩ := hO.block (by omega)
    obtain ⟨hca, hfa⟩ := one_box hbx
    have hga : g ≠ a := fun e => hAP (by rw [e]; rfl)
    have HBXA : Hid (w1.heap[a]? = some (.cells #[.slice (some ⟨g, 0, none⟩) L.length cap] 61 (0, 0))) := hbx
    have HO1 : Hid (OwnF w1 base (.slice (some ⟨g, 0, none⟩) L.length cap) L) := hO
    clear hbx hO hAP
    have haw := HA1.out.lt
    generalize posF L z = i at *
    have hcd : w1.drew.cell? ⟨a, 0, none⟩ = some (.slice (some ⟨g, 0, none⟩) L.length cap) := hca
    have hmb : L.length - 1 ≤ cap := by omega
    unfold maxLen at hcm
    have HIN : Hid (∀ W, Below w1.heap.size w1 W → Calls Tryd.prog 35 #[.slice (some ⟨g, 0, none⟩) L.length cap, .int .i64 (i : Nat), .int .i64 ((i : Int) + 1)] W fun e w' => e = .returned (.slice (some ⟨g, 0, none⟩) (L.length - 1) cap) ∧ Hid (FAr (w'.setCell ⟨a, 0, none⟩ (.slice (some ⟨g, 0, none⟩) (L.length - 1) cap)) base a (L.eraseIdx i)) ∧ Hid (Alt base a w (w'.setCell ⟨a, 0, none⟩ (.slice (some ⟨g, 0, none⟩) (L.length - 1) cap))) ∧ w'.cell? ⟨a, 0, none⟩ = some (.slice (some ⟨g, 0, none⟩) L.length cap) ∧ w'.frozen? ⟨a, 0, none⟩ = false) := fun W hW => by
      have hAw : W.heap[a]? = some (.cells #[.slice (some ⟨g, 0, none⟩) L.length cap] 61 (0, 0)) := (hW.block a haw).trans HBXA.out
      have hOw : OwnF W base (.slice (some ⟨g, 0, none⟩) L.length cap) L := HO1.out.later hW
      refine (deleteF_any base g cap i (i + 1) L W hOw hpl rfl (by omega) hlc).mono ?_
      rintro e w' ⟨rfl, ho, hg⟩
      have hAg : w'.heap[a]? = some (.cells #[.slice (some ⟨g, 0, none⟩) L.length cap] 61 (0, 0)) := (hg.block a (by have := hW.size; omega) (fun e => hga (Option.some.inj e).symm)).trans hAw
      obtain ⟨k0, k1⟩ := one_box hAg
      have hset : Turn a a w' (w'.setCell ⟨a, 0, none⟩ (.slice (some ⟨g, 0, none⟩) (L.length - 1) cap)) := Turn.setCell w' ⟨a, 0, none⟩ _ rfl
      refine ⟨rfl, ⟨⟨_, one_set _ hAg, own_turn ho hset fun k hk => ?_⟩, HLL.out, HA.out.fromA⟩, ?_, k0, k1⟩
      · cases hk
        exact ⟨hga, hga⟩
      · obtain ⟨h3, _, h4⟩ := hOw.kind (k := g) rfl
        exact ((Alt.later (HB.out.trans (hW.mono HB.out.size))).trans (Alt.turn (b := g) (Turn.grownB hg) (.inr ⟨h3, h4⟩))).trans (Alt.turn hset (.inl rfl))
    go_wp2_with (go_at_call 35; go_must (refine (HIN.out _ (Below.refl _ _)).mono ?_; rintro e W5 ⟨rfl, HAF, HAL, hk0, hk1⟩))
    go_ret
    rw [HF.out]
    exact ⟨rfl, HAF.out, HAL.out⟩
end Go.Proofs.YtjcikoaoemingaaDoor
