/- The walk of Lend. -/
import Derived.Test.YtjcikoaoemingaaDoorFObj
import Derived.Test.YtjcikoaoemingaaDoorFInsA
import Derived.Test.YtjcikoaoemingaaDoorFitN
import Derived.Test.YtjcikoaoemingaaDoorStepL
namespace Go.Proofs.YtjcikoaoemingaaDoor
open Go.RowKit Go.Sort

set_option maxRecDepth 100000 in
set_option maxHeartbeats 2000000 in
theorem lendF_any (base a : Nat) (L : List (Nat × Nat)) (z : Int) (w : World) (hB : base ≤ w.heap.size) (hA : FAr w base a L) :
    Calls Tryd.prog 9 #[.pointer (some ⟨a, 0, none⟩), .int .i64 z] w fun e w' => e = .returned (.tuple #[.int .i64 ((lendG L z).1 : Nat), errV (lendG L z).2.1]) ∧ FAr w' base a (lendG L z).2.2 ∧ Alt base a w w' := by
  have HA : Hid (FAr w base a L) := hA
  by_cases hz : z < 1 ∨ 64 < z
  · have HF : Hid (lendG L z = (0, 1, L)) := if_pos hz
    have hzb : (decide (z < 1) || decide (64 < z)) = true := by simpa using hz
    clear hA
    by_cases hz1 : z < 1
    · clear hz
      go_enter Tryd.func9, Tryd.ntmps9
      go_wp2
      go_ret2
      rw [HF.out]
      exact ⟨rfl, HA.out, Alt.refl _ _ _⟩
    · have hz2 : 64 < z := by omega
      clear hz
      go_enter Tryd.func9, Tryd.ntmps9
      go_wp2
      go_ret2
      rw [HF.out]
      exact ⟨rfl, HA.out, Alt.refl _ _ _⟩
  · obtain ⟨n, rfl⟩ : ∃ n : Nat, z = n := ⟨z.toNat, by omega⟩
    have hz1 : ¬ (n : Int) < 1 := by omega
    have hz2 : ¬ (64 : Int) < (n : Int) := by omega
    have hn1 : 1 ≤ n := by omega
    have hn64 : n ≤ 64 := by omega
    have HF : Hid (lendG L (n : Nat) = match roomF 0 L n with | none => (0, 4, L) | some q => (q, 0, putF q n L)) := by unfold Hid lendG; rw [if_neg hz]; rfl
    have HL : Hid (LaidF 0 L) := hA.laid
    have hlm := hA.most
    have hhl := holes_len 0 L
    clear hA hz
    go_enter Tryd.func9, Tryd.ntmps9
    go_wp2_with (go_at_call 27; go_must (refine (holesP_any base a L _ HA.out).mono ?_; rintro e w1 ⟨v, rfl, ho, hb⟩; obtain ⟨ao, cap, hv⟩ := ho.form; subst hv; have HO : Hid (OwnF w1 w.heap.size (.slice ao (holes 0 L).length cap) (holes 0 L)) := ho; have HB : Hid (Below w.heap.size w w1) := hb; clear ho hb))
    have hw1 := HB.out.size
    have HA1 : Hid (FAr w1 base a L) := HA.out.later HB.out
    go_loopw [20] (fun v20 wr => ∃ k : Nat, k ≤ (holes 0 L).length ∧ v20 = .int .i64 (k : Nat) ∧ Below w1.heap.size w1 wr ∧ Hid (∀ j, j < k → ¬ n ≤ (blkAt (holes 0 L) j).2)) (fun v20 _ => (holes 0 L).length - (intOf v20).toNat)
    case atStart => exact ⟨0, Nat.zero_le _, rfl, Below.refl _ _, fun j hj => absurd hj (Nat.not_lt_zero _)⟩
    case round =>
      obtain ⟨k, hk, rfl, hb, HN⟩ := hrel
      have HBW : Hid (Below w.heap.size w wr) := HB.out.trans (hb.mono hw1)
      by_cases hkl : k < (holes 0 L).length
      · have hlt : (k : Int) < ((holes 0 L).length : Int) := by omega
        obtain ⟨g, cap', hv, _, hgw, hlc, hcm⟩ := HO.out.block (by omega)
        simp only [Value.slice.injEq, true_and] at hv
        obtain ⟨rfl, rfl⟩ := hv
        unfold maxLen at hcm
        have hc1 : wr.cell? ⟨g, k * 2, none⟩ = some (.int .i64 ((blkAt (holes 0 L) k).1 : Nat)) := (hb.cell (by exact hgw)).trans (HO.out.at_ rfl hkl)
        have hc2 : wr.cell? ⟨g, k * 2 + 1, none⟩ = some (.int .i64 ((blkAt (holes 0 L) k).2 : Nat)) := (hb.cell (by exact hgw)).trans (HO.out.size rfl hkl)
        have HB1 : Hid (Below w1.heap.size w1 wr) := hb
        clear hb
        by_cases hnh : n ≤ (blkAt (holes 0 L) k).2
        · have HR : Hid (roomF 0 L n = some (blkAt (holes 0 L) k).1) := holes_hit HL.out hn1 hkl hnh HN.out
          clear HN
          generalize (blkAt (holes 0 L) k).1 = q at *
          generalize (blkAt (holes 0 L) k).2 = h at *
          have hnh' : (n : Int) ≤ (h : Int) := by omega
          have HP : Hid (insF L (posF L (q : Nat)) q n = putF q n L) := insF_put q n L
          have hpl := posF_le L (q : Nat)
          have HFF : Hid (lendG L (n : Nat) = (q, 0, putF q n L)) := by unfold Hid; rw [HF.out, HR.out]
          have HLL : Hid (LaidF 0 (putF q n L)) := by have := lendG_laid HL.out (n : Nat); rw [HFF.out] at this; exact this
          have HBX : Hid ((wr.alloc (.cells #[.int .i64 (q : Nat), .int .i64 (h : Nat)] 56)).heap[wr.heap.size]? = some (.cells #[.int .i64 (q : Nat), .int .i64 (h : Nat)] 56 (0, 0))) := heap_alloc_new wr _
          have HBA : Hid (Below w.heap.size w (wr.alloc (.cells #[.int .i64 (q : Nat), .int .i64 (h : Nat)] 56))) := HBW.out.alloc HBW.out.size _
          have HAX : Hid (FAr (wr.alloc (.cells #[.int .i64 (q : Nat), .int .i64 (h : Nat)] 56)) base a L) := HA.out.later HBA.out
          have hsa : (wr.alloc (.cells #[.int .i64 (q : Nat), .int .i64 (h : Nat)] 56)).heap.size = wr.heap.size + 1 := by simp
          clear HF HR HO
          go_wp2_with (go_at_call 28; fail)
          refine (find_any base a L (q : Nat) _ HAX.out).mono ?_
          rintro e w3 ⟨rfl, hb3⟩
          obtain ⟨hq0, hq1, _, _⟩ := box_cells ((hb3.block wr.heap.size (by rw [hsa]; omega)).trans HBX.out)
          have HA3 : Hid (FAr w3 base a L) := HAX.out.later hb3
          have HB3 : Hid (Below w.heap.size w w3) := HBA.out.trans (hb3.mono HBA.out.size)
          have hs3 : wr.heap.size + 1 ≤ w3.heap.size := by have := hb3.size; omega
          have HIS : Hid (isF L (q : Nat) = isF L (q : Nat)) := rfl
          clear hb3 HAX HBA HBX hsa hc1 hc2
          obtain ⟨v, hbx, hO⟩ := HA3.out.row
          have hAP := FAr.apart hbx hO
          obtain ⟨av, cv, rfl⟩ := hO.form
          obtain ⟨hca, hfa⟩ := one_box hbx
          have HBXA : Hid (w3.heap[a]? = some (.cells #[.slice av L.length cv] 61 (0, 0))) := hbx
          have HO3 : Hid (OwnF w3 base (.slice av L.length cv) L) := hO
          have HOL : Hid (∀ b, (Value.slice av L.length cv).ownBlock = some b → b < w.heap.size) := fun b hb => by
            obtain ⟨v0, h0, hO0⟩ := HA.out.row
            have e : w3.heap[a]? = some (.cells #[v0] 61 (0, 0)) := (HB3.out.block a HA.out.lt).trans h0
            rw [hbx] at e
            simp at e
            rw [e] at hb
            exact (World.ownsRow.lt hO0 b hb).2
          clear hbx hO
          generalize isF L (q : Nat) = ib at *
          generalize posF L (q : Nat) = i at *
          have hwr3 : wr.heap.size < w3.heap.size := by omega
          have haw : a < w.heap.size := HA.out.lt
          have hsw := HBW.out.size
          have hna : a ≠ wr.heap.size := by omega
          have HIN : Hid (∀ W, Below w3.heap.size w3 W → W.heap[w3.heap.size]? = some (.cells #[.int .i64 (q : Nat), .int .i64 (n : Nat)] 56 (0, 0)) → Calls Tryd.prog 29 #[.slice av L.length cv, .int .i64 (i : Nat), .slice (some ⟨w3.heap.size, 0, none⟩) 1 1] W fun e w' => ∃ a1 c1, e = .returned (.slice a1 (L.length + 1) c1) ∧ Hid (FAr (w'.setCell ⟨a, 0, none⟩ (.slice a1 (L.length + 1) c1)) base a (putF q n L)) ∧ Hid (Alt base a w (w'.setCell ⟨a, 0, none⟩ (.slice a1 (L.length + 1) c1))) ∧ w'.cell? ⟨a, 0, none⟩ = some (.slice av L.length cv) ∧ w'.frozen? ⟨a, 0, none⟩ = false ∧ w'.cell? ⟨wr.heap.size, 0, none⟩ = some (.int .i64 (q : Nat))) := fun W hW hX => by
            have hXv : (Value.slice av L.length cv).ownBlock ≠ some w3.heap.size := fun e => by have := (World.ownsRow.lt HO3.out _ e).2; omega
            have hAw : W.heap[a]? = some (.cells #[.slice av L.length cv] 61 (0, 0)) := (hW.block a HA3.out.lt).trans HBXA.out
            have hOw : OwnF W base (.slice av L.length cv) L := HO3.out.later hW
            refine (insertF_any base q n w3.heap.size i _ L W (by have := hW.size; omega) hOw hX hXv hpl (by omega)).mono ?_
            rintro e w' ⟨v', rfl, ho, hg⟩
            rw [HP.out] at ho
            obtain ⟨a1, c1, hv'⟩ := ho.form
            have hlen : (putF q n L).length = L.length + 1 := by rw [← HP.out]; exact insF_length hpl q n
            rw [hlen] at hv'
            subst hv'
            have hAg : w'.heap[a]? = some (.cells #[.slice av L.length cv] 61 (0, 0)) := (hg.block a (by have := hW.size; omega) (fun e => hAP e.symm)).trans hAw
            obtain ⟨k0, k1⟩ := one_box hAg
            have hne : (Value.slice a1 (L.length + 1) c1).ownBlock ≠ some a := FAr.apart hAg ho
            have hset : Turn a a w' (w'.setCell ⟨a, 0, none⟩ (.slice a1 (L.length + 1) c1)) := Turn.setCell w' ⟨a, 0, none⟩ _ rfl
            refine ⟨a1, c1, rfl, ⟨⟨_, one_set _ hAg, own_turn ho hset fun k hk => ⟨fun e => hne (by rw [hk, e]), fun e => hne (by rw [hk, e])⟩⟩, HLL.out, HA.out.fromA⟩, ?_, k0, k1, ?_⟩
            · have h1 : Below w.heap.size w W := HB3.out.trans (hW.mono HB3.out.size)
              have h2 : Alt base a W w' := by
                cases hb : (Value.slice av L.length cv).ownBlock with
                | none =>
                  rw [hb] at hg
                  exact Alt.turn (b := a) (Turn.grown hg) (.inl rfl)
                | some b =>
                  rw [hb] at hg
                  obtain ⟨h3, _, h4⟩ := hOw.kind hb
                  exact Alt.turn (b := b) (Turn.grownB hg) (.inr ⟨h3, h4⟩)
              exact ((Alt.later h1).trans h2).trans (Alt.turn hset (.inl rfl))
            · have hbw : wr.heap.size < W.heap.size := by have := hW.size; omega
              have hnb : some wr.heap.size ≠ (Value.slice av L.length cv).ownBlock := fun e => by
                have h5 := (World.ownsRow.lt HO3.out _ e.symm).1
                have h6 := hOw.kind e.symm
                have h7 := HOL.out _ e.symm
                omega
              rw [World.cell?_of_block (a := ⟨wr.heap.size, 0, none⟩) (hg.block wr.heap.size hbw hnb)]
              exact (hW.cell (p := ⟨wr.heap.size, 0, none⟩) hwr3).trans hq0
          have hdra : Below w3.heap.size w3 (w3.drew.alloc (.cells #[.int .i64 (q : Nat), .int .i64 (n : Nat)] 56)) := (Below.refl _ _).drew.alloc (Nat.le_refl _) _
          have HDRA : Hid (Below w3.heap.size w3 (w3.drew.alloc (.cells #[.int .i64 (q : Nat), .int .i64 (n : Nat)] 56))) := hdra
          have HNEW : Hid ((w3.drew.alloc (.cells #[.int .i64 (q : Nat), .int .i64 (n : Nat)] 56)).heap[w3.heap.size]? = some (.cells #[.int .i64 (q : Nat), .int .i64 (n : Nat)] 56 (0, 0))) := heap_alloc_new w3.drew _
          clear hdra hAP
          have hq0a : (w3.alloc (.cells #[.int .i64 (q : Nat), .int .i64 (n : Nat)] 56)).cell? ⟨wr.heap.size, 0, none⟩ = some (.int .i64 (q : Nat)) := Lib.cell?_alloc_some _ hq0
          have hcaa : (w3.alloc (.cells #[.int .i64 (q : Nat), .int .i64 (n : Nat)] 56)).cell? ⟨a, 0, none⟩ = some (.slice av L.length cv) := Lib.cell?_alloc_some _ hca
          go_wp2
          go_region_law (refine step_call rfl 29 _ _ rfl #[.slice av L.length cv, .int .i64 (i : Nat), .slice (some ⟨w3.heap.size, 0, none⟩) 1 1] (by first | rfl | simp [Act.eval]) (enters_of Tryd.func29 (by kernel_rfl) rfl _) (HIN.out _ HDRA.out HNEW.out) ?_; rintro e W5 ⟨a1, c1, rfl, HAF, HAL, hk0, hk1, hk2⟩; refine ⟨_, rfl, ?_⟩)
          all_goals
            go_wp2
            go_ret2
            rw [HFF.out]
            exact ⟨rfl, HAF.out, HAL.out⟩
        · have hnh' : ¬ (n : Int) ≤ ((blkAt (holes 0 L) k).2 : Int) := by omega
          have HN2 : Hid (∀ j, j < k + 1 → ¬ n ≤ (blkAt (holes 0 L) j).2) := fun j hj => by
            by_cases e : j = k
            · subst e; exact hnh
            · exact HN.out j (by omega)
          clear HN
          generalize (blkAt (holes 0 L) k).1 = q at *
          generalize (blkAt (holes 0 L) k).2 = h at *
          have HBA : Hid (Below w1.heap.size w1 (wr.alloc (.cells #[.int .i64 (q : Nat), .int .i64 (h : Nat)] 56))) := HB1.out.alloc HB1.out.size _
          go_wp2
          go_roundw
          case rel => exact ⟨k + 1, by omega, by go_num, HBA.out, HN2⟩
          case measure => simp [intOf]; omega
      · have hlt : ¬ (k : Int) < ((holes 0 L).length : Int) := by omega
        have HR : Hid (lendG L (n : Nat) = (0, 4, L)) := by
          unfold Hid
          rw [HF.out, holes_miss HL.out hn1 fun j hj => HN.out j (by omega)]
        clear HN
        go_wp2
        go_ret2
        rw [HR.out]
        exact ⟨rfl, HA.out.later HBW.out, Alt.later HBW.out⟩
end Go.Proofs.YtjcikoaoemingaaDoor
