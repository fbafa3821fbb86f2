/- The walk of Lent. -/
import Derived.Test.YtmmeapaakdaemaaDoorBFree
import Derived.Test.YtmmeapaakdaemaaDoorKeysI
namespace Go.Proofs.YtmmeapaakdaemaaDoor
open Go.RowKit Go.Maps Go.Sort

/-- Where blocks are that are lent, and of which orders. -/
def atsI (L : List (Nat × Nat)) : List Int := L.map fun b => (b.1 : Int)
def ordsI (L : List (Nat × Nat)) : List Int := L.map fun b => (b.2 : Int)
theorem atsI_length (L : List (Nat × Nat)) : (atsI L).length = L.length := by unfold atsI; rw [List.length_map]
theorem ordsI_length (L : List (Nat × Nat)) : (ordsI L).length = L.length := by unfold ordsI; rw [List.length_map]
theorem atsI_get {L : List (Nat × Nat)} {k : Nat} (hk : k < L.length) : (atsI L)[k]?.getD 0 = ((L[k]).1 : Int) := by
  unfold atsI
  rw [List.getElem?_map, List.getElem?_eq_getElem hk]; rfl
theorem ats_up {L : List (Nat × Nat)} (h : Up L) : (atsI L).Pairwise (· < ·) := by
  unfold atsI
  rw [List.pairwise_map]
  exact h.imp fun h => by omega
theorem ats_mem {L : List (Nat × Nat)} (hU : Up L) (z : Int) : z ∈ atsI L ↔ (lookI L z).isSome = true := by
  unfold atsI lookI
  rw [List.mem_map]
  constructor
  · rintro ⟨b, hb, rfl⟩
    rw [look_of hU (show (b.1, b.2) ∈ L from hb)]
    rfl
  · intro h
    cases hl : look L z with
    | none => rw [hl] at h; cases h
    | some o =>
      obtain ⟨p, rfl, hm⟩ := look_some hl
      exact ⟨_, hm, rfl⟩
theorem ords_succ {L : List (Nat × Nat)} {k : Nat} (hk : k < L.length) : (ordsI L).take (k+1) = (ordsI L).take k ++ [((L[k]).2 : Int)] := by
  have h : k < (ordsI L).length := by rw [ordsI_length]; exact hk
  rw [List.take_succ_eq_append_getElem h]
  congr 2
  simp [ordsI]

set_option maxRecDepth 100000 in
set_option maxHeartbeats 1000000 in
theorem lent_any (H : Type) (base a b : Nat) (L : List (Nat × Nat)) (w : World) (hA : Arena H w base a b L) :
    Calls Tryd.prog 9 #[.pointer (some ⟨a, 0, none⟩)] w fun e w' => ∃ v1 v2, e = .returned (.tuple #[v1, v2]) ∧ ∃ B, w.heap.size ≤ B ∧ OwnI w' w.heap.size v1 (atsI L) ∧ OwnI w' B v2 (ordsI L) ∧ (∀ k, v1.ownBlock = some k → k < B) ∧ Below w.heap.size w w' := by
  obtain ⟨F, hC, _⟩ := hA.cells
  obtain ⟨i0, hi, hz0, hz1, hz2⟩ := info_parts Tryd.info3
  have HI0 : Hid (Tryd.prog.info? 3 = some i0 ∧ i0.zero = some (.int .i64 0) ∧ i0.size = 1 ∧ i0.bytes = 8) := ⟨hi, hz0, hz1, hz2⟩
  have hlm : L.length ≤ 64 := lent_most hA.up hA.okay
  clear hi hz0 hz1 hz2
  have hcm := hC.map
  have HA : Hid (Arena H w base a b L) := hA
  have HS : Hid (∀ w0 : World, w0 = w → Calls Tryd.prog 21 #[.func (.func 36) #[] #[.pointer (some ⟨w0.heap.size, 0, none⟩)]] (w0.alloc (.cells #[.map (some b)] 54)) fun e w' => ∃ v, e = .returned v ∧ OwnI w' w.heap.size v (atsI L) ∧ Below w.heap.size w w') := by
    rintro w0 rfl
    exact sorted_call b 64 (by omega) (lookI L) (atsI L) (ats_up hA.up) (ats_mem hA.up) w0 hA.map
  clear hC hA
  go_enter Tryd.func9, Tryd.ntmps9
  go_wp2_with (first | (go_at_call 22; go_must (refine (keys_call _ _).mono ?_; rintro e w1 ⟨rfl, rfl⟩)) | (go_at_call 21; refine (HS.out _ rfl).mono ?_; rintro e w1 ⟨v, rfl, ho, hb⟩; obtain ⟨ao, cap, hv⟩ := ho.form; rw [atsI_length] at hv; subst hv; have HO : Hid (OwnI w1 w.heap.size (.slice ao L.length cap) (atsI L)) := ho; have HB : Hid (Below w.heap.size w w1) := hb; clear ho hb))
  have HA1 : Hid (Arena H w1 base a b L) := HA.out.later HB.out
  clear hcm HS
  go_loopw [3, 5, 14] (fun v3 _ v14 wr => ∃ k : Nat, k ≤ L.length ∧ v14 = .int .i64 (k : Nat) ∧ OwnI wr w1.heap.size v3 ((ordsI L).take k) ∧ Below w1.heap.size w1 wr) (fun _ _ v14 _ => L.length - (RowKit.intOf v14).toNat)
  case atStart => exact ⟨0, Nat.zero_le _, rfl, OwnI.nil _ _, Below.refl _ _⟩
  case round =>
    obtain ⟨k, hk, rfl, hown, hb⟩ := hrel
    have HOW : Hid (OwnI wr w1.heap.size u3 ((ordsI L).take k)) := hown
    have HBR : Hid (Below w1.heap.size w1 wr) := hb
    clear hown hb
    by_cases hkl : k = L.length
    · have HO2 : Hid (OwnI wr w1.heap.size u3 (ordsI L)) := by
        have := HOW.out
        rwa [hkl, ← ordsI_length, List.take_length] at this
      have hlt : ¬ (k : Int) < (L.length : Int) := by omega
      have HLT : Hid (∀ j, (Value.slice ao L.length cap).ownBlock = some j → j < w1.heap.size) := fun j hj => (World.ownsRow.lt HO.out j hj).2
      clear hkl
      go_wp2
      go_ret2
      exact ⟨_, _, rfl, w1.heap.size, HB.out.size, HO.out.later HBR.out, HO2.out, HLT.out, HB.out.trans (HBR.out.mono HB.out.size)⟩
    · have hkl' : k < L.length := by omega
      have hlt : (k : Int) < (L.length : Int) := by omega
      have hke : (atsI L)[k]?.getD 0 = ((L[k]).1 : Int) := atsI_get hkl'
      rcases HO.out.isInts with ⟨h0, _⟩ | ⟨g, off, cap', hv, hp, hlc, hm, hc⟩
      · have := congrArg List.length h0
        rw [atsI_length] at this
        simp only [List.length_nil] at this
        omega
      · rw [atsI_length] at hv hlc hp hc
        simp only [Value.slice.injEq, true_and] at hv
        obtain ⟨rfl, rfl⟩ := hv
        have hck := hc k hkl'
        have hgl : g < w1.heap.size := World.block_lt_of_cell? w1 _ hck
        have hcw : wr.cell? ⟨g, off + k, none⟩ = some (.int .i64 ((L[k]).1 : Nat)) := by
          rw [HBR.out.cell (p := ⟨g, off + k, none⟩) hgl, hck, hke]
        have HA2 : Hid (Arena H wr base a b L) := HA1.out.later HBR.out
        obtain ⟨F2, hC2, _⟩ := HA2.out.cells
        have hcm := hC2.map
        obtain ⟨D, hown, htell⟩ := HA2.out.map
        have HOM : Hid (wr.ownsMap Tryd.prog 3 (plainElem Tryd.prog 3) b 64 D) := hown
        have hblk := HA2.out.okay.1 _ (List.getElem_mem hkl')
        have h63 : (L[k]).1 < 64 := by have := hblk.2.2; have := pow_pos2 (L[k]).2; omega
        have HK : Hid (keyOf Tryd.prog 3 (.int .i64 ((L[k]).1 : Nat)) = some (.int .i64 ((L[k]).1 : Nat))) := keyOf_int (wf64 (by omega) (by omega))
        have HAT : Hid (D.atKey (.int .i64 ((L[k]).1 : Nat)) (.lit (.int .i64 0)) = .lit (.int .i64 ((L[k]).2 : Nat))) := by
          have := tell_at (htell ((L[k]).1 : Nat))
          unfold lookI at this
          rw [look_of HA2.out.up (show ((L[k]).1, (L[k]).2) ∈ L from List.getElem_mem hkl')] at this
          exact this
        have HSU : Hid ((ordsI L).take (k+1) = (ordsI L).take k ++ [((L[k]).2 : Int)]) := ords_succ hkl'
        have hkl2 : ((ordsI L).take k).length = k := by rw [List.length_take, ordsI_length]; omega
        clear hC2 hown htell hblk hc hck hke hp HO hgl
        generalize hlo : (ordsI L).take k = lo at *
        have HLO : Hid ((ordsI L).take k = lo) := hlo
        clear hlo
        generalize (L[k]).1 = p at *
        generalize (L[k]).2 = o at *
        obtain ⟨ao3, cap3, hv3⟩ := HOW.out.form
        rw [hkl2] at hv3
        subst hv3
        have HKL : Hid (lo.length = k) := hkl2
        clear hkl2
        go_wp2_with (first | (at_lookup; refine wpList_lookup_own_int _ rfl _ _ 54 rfl 3 3 .i64 int_keys Tryd.underlying54 Tryd.underlying3 (Tryd.zeroValue3 _) b 64 D rfl HOM.out _ _ rfl HK.out ?_; intro c hat hwc; have hco : c = (o : Int) := by { rw [HAT.out] at hat; simpa using hat.symm }; clear hat hwc; subst hco) | (at_builtin; go_must (refine wpList_append_own _ rfl _ _ 22 rfl w1.heap.size 3 i0 (.int .i64 0) 1 8 Tryd.underlying22 HI0.out.1 HI0.out.2.1 HI0.out.2.2.1 HI0.out.2.2.2 rfl (by decide) _ k (lo.map (Value.int .i64)) rfl (World.ownsRow.alloc (HOW.out.rows HKL.out rfl) _) ⟨wr.heap.size, 0, none⟩ 1 1 [.int .i64 (o : Nat)] rfl rfl (by exact new_one _ _ _) (one_cell _) (by unfold maxLen; omega) (by omega) (by have := HBR.out.size; simp; omega) ?_; intro v2 w2 hown' hgrow _; rw [← HKL.out] at hown'; have R := own_append HOW.out HBR.out (Nat.le_refl _) hown' hgrow; have HR2 : Hid (OwnI w2 w1.heap.size v2 (lo ++ [(o : Int)])) := R.1; have HB2 : Hid (Below w1.heap.size w1 w2) := R.2; clear hown' hgrow R)))
        go_roundw
        case rel => exact ⟨k + 1, by omega, by go_num, by rw [HSU.out]; exact HR2.out, HB2.out⟩
        case measure => simp [RowKit.intOf]; omega
end Go.Proofs.YtmmeapaakdaemaaDoor
