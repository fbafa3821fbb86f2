/- The walk of larderwickref1.Without, and lemmas on slices. -/
import Derived.Test.YtmibnceadciidaaDoorBase
import Derived.Test.YtmibnceadciidaaDoorOwn
namespace Go.Proofs.YtmibnceadciidaaDoor
open Go.RowKit

theorem info_int : (Tryd.prog.info? 3).map (fun i => (i.zero, i.size, i.bytes)) = some (some (.int .i64 0), 1, 8) := by kernel_rfl

theorem isInts_below {w w' : World} {v : Value} {l : List Int} (h : IsInts w v l) (hb : RowKit.Below w.heap.size w w') : IsInts w' v l := by
  rcases h with h | ⟨b, off, cap, hv, hp, hlc, hcap, hc⟩
  · exact .inl h
  · refine .inr ⟨b, off, cap, hv, hp, hlc, hcap, fun j hj => ?_⟩
    have := hc j hj
    rw [hb.cell (World.block_lt_of_cell? w _ this)]
    exact this

theorem isInts_grown {w w' : World} {v : Value} {l : List Int} {row : Option Nat} (h : IsInts w v l) (hg : w.grownBy w' row) (hne : row = none ∨ v.ownBlock ≠ row) : IsInts w' v l := by
  rcases h with h | ⟨b, off, cap, hv, hp, hlc, hcap, hc⟩
  · exact .inl h
  · refine .inr ⟨b, off, cap, hv, hp, hlc, hcap, fun j hj => hg.cell (hc j hj) ?_⟩
    subst hv
    rcases hne with rfl | hne
    · simp
    · simpa [Value.ownBlock] using hne

theorem ownI_below {w w' : World} {B : Nat} {v : Value} {l : List Int} (h : OwnI w B v l) (hb : RowKit.Below w.heap.size w w') : OwnI w' B v l := by
  refine ⟨h.1, ?_⟩
  rcases h.2 with h0 | ⟨g, cap, cur, hv, hB, hg, rest⟩
  · exact .inl h0
  · exact .inr ⟨g, cap, cur, hv, hB, by rw [hb.block g (Array.getElem?_eq_some_iff.1 hg).1]; exact hg, rest⟩

theorem ownI_form {w : World} {base : Nat} {v : Value} {l : List Int} (h : OwnI w base v l) : ∃ ao cap, v = .slice ao l.length cap := by
  rcases h.2 with ⟨rfl, h0⟩ | ⟨g, cap, cur, rfl, _⟩
  · exact ⟨none, 0, by rw [h0]⟩
  · exact ⟨_, cap, rfl⟩

theorem sep_new {w1 w2 : World} {B : Nat} {v' v2 : Value} {o r : List Int} (h1 : OwnI w1 B v' o) (h2 : OwnI w2 w1.heap.size v2 r) : v'.ownBlock = none ∨ v2.ownBlock ≠ v'.ownBlock := by
  cases h : v'.ownBlock with
  | none => exact .inl rfl
  | some k =>
    refine .inr fun e => ?_
    have a := (World.ownsRow.lt h1 k h).2
    have b := (World.ownsRow.lt h2 k e).1
    omega

theorem erase_skip {l : List Int} {k : Nat} {x : Int} (hk : k < l.length) (hp : l[k]?.getD 0 = x) (h : (l.take k).contains x = false) : (l.take (k+1)).erase x = (l.take k).erase x := by
  rw [List.take_succ_eq_append_getElem hk]
  rw [List.getElem?_eq_getElem hk, Option.getD_some] at hp
  have hx : x ∉ l.take k := by simpa using h
  rw [List.erase_append_right _ hx, hp, List.erase_of_not_mem hx]
  simp
theorem erase_keep {l : List Int} {k : Nat} {x p : Int} (hk : k < l.length) (hp : l[k]?.getD 0 = p) (h : (l.take k).contains x = true ∨ p ≠ x) : (l.take (k+1)).erase x = (l.take k).erase x ++ [p] := by
  rw [List.take_succ_eq_append_getElem hk]
  rw [List.getElem?_eq_getElem hk, Option.getD_some] at hp
  rw [hp]
  by_cases hx : x ∈ l.take k
  · rw [List.erase_append_left _ hx]
  · rw [List.erase_append_right _ hx, List.erase_of_not_mem hx]
    rcases h with h | h
    · exact absurd (by simpa using h) hx
    · rw [List.erase_of_not_mem (by simpa using fun e => h e.symm)]
theorem contains_yes {l : List Int} {k : Nat} {x : Int} (hk : k < l.length) (h : (l.take k).contains x = true ∨ l[k]?.getD 0 = x) : (l.take (k+1)).contains x = true := by
  rw [contains_take_succ hk]
  rcases h with h | h
  · rw [h]; rfl
  · rw [h]; simp
theorem contains_no {l : List Int} {k : Nat} {x : Int} (hk : k < l.length) (h : (l.take k).contains x = false) (hp : l[k]?.getD 0 ≠ x) : (l.take (k+1)).contains x = false := by
  rw [contains_take_succ hk, h]; simpa using hp

set_option maxHeartbeats 1000000 in
theorem without_any (v : Value) (l : List Int) (x : Int) (w : World) (hv : IsInts w v l) (hlen : l.length ≤ 1000000) :
    Calls Tryd.prog 22 #[v, .int .i64 x] w fun e w' => ∃ v', e = .returned v' ∧ OwnI w' w.heap.size v' (l.erase x) ∧ Below w.heap.size w w' := by
  rcases hv with ⟨rfl, ao, cap, rfl, hcap⟩ | ⟨b, off, cap, rfl, hpos, hlc, hcap, hc⟩
  · go_enter Tryd.func22, Tryd.ntmps22
    go_wp2
    go_loop [5, 7] (fun o i => i = .int .i64 0 ∧ o = .slice none 0 0) (fun _ _ => 0)
    case atStart => exact ⟨rfl, rfl⟩
    case round =>
      obtain ⟨rfl, rfl⟩ := hrel
      go_wp2
      go_ret
      exact ⟨_, rfl, OwnI.nil _ _, Below.refl _ _⟩
  · have hbB : b < w.heap.size := World.block_lt_of_cell? w _ (hc 0 hpos)
    unfold maxLen at hcap
    have HC : Hid (∀ j, j < l.length → w.cell? ⟨b, off + j, none⟩ = some (.int .i64 (l[j]?.getD 0))) := hc
    clear hc
    obtain ⟨i0, hi, hz0, hz1, hz2⟩ := info_parts info_int
    have HI : Hid (Tryd.prog.info? 3 = some i0 ∧ i0.zero = some (.int .i64 0) ∧ i0.size = 1 ∧ i0.bytes = 8) := ⟨hi, hz0, hz1, hz2⟩
    clear hi hz0 hz1 hz2
    go_enter Tryd.func22, Tryd.ntmps22
    go_wp2
    go_loopw [5, 6, 7] (fun o g i wr => ∃ (k : Nat) (gb : Bool) (ol : List Int), k ≤ l.length ∧ i = .int .i64 k ∧ g = .bool gb ∧ Hid (OwnI wr w.heap.size o ol) ∧ Below w.heap.size w wr ∧ Hid ((l.take k).contains x = gb) ∧ Hid ((l.take k).erase x = ol) ∧ ol.length ≤ k) (fun _ _ i _ => l.length - (intOf i).toNat)
    case atStart => exact ⟨0, false, [], by omega, rfl, rfl, OwnI.nil _ _, Below.refl _ _, by simp [Hid], by simp [Hid], by simp⟩
    case round =>
      obtain ⟨k, gb, ol, hk, rfl, rfl, HO, hbel, HG, HE, hol⟩ := hrel
      obtain ⟨ao, hcp, rfl⟩ := ownI_form HO.out
      by_cases hlt : k < l.length
      · have hck : wr.cell? ⟨b, off + k, none⟩ = some (.int .i64 (l[k]?.getD 0)) := (hbel.cell (by exact hbB)).trans (HC.out k hlt)
        generalize hp : l[k]?.getD 0 = p at *
        have HP : Hid (l[k]?.getD 0 = p) := hp
        clear hp
        by_cases hpx : p = x
        · have HX : Hid (p = x) := hpx
          have hb1 : (p == x) = true := by simpa using hpx
          clear hpx
          cases gb
          · go_wp2
            go_roundw
            case rel => exact ⟨k + 1, true, ol, by omega, by go_num, rfl, HO, hbel, contains_yes hlt (.inr (HP.out.trans HX.out)), by unfold Hid; rw [erase_skip hlt (HP.out.trans HX.out) HG.out]; exact HE.out, by omega⟩
            case measure => simp [intOf]; omega
          · go_wp2_with (at_builtin; go_must (refine wpList_append_own _ rfl _ _ 25 rfl w.heap.size 3 i0 (.int .i64 0) 1 8 Tryd.underlying25 HI.out.1 HI.out.2.1 HI.out.2.2.1 HI.out.2.2.2 rfl (by decide) _ ol.length (ol.map (Value.int .i64)) rfl (World.ownsRow.alloc HO.out _) ⟨wr.heap.size, 0, none⟩ 1 1 [.int .i64 p] rfl rfl (new_one _ _ _) (one_cell _) (by unfold maxLen; omega) (by omega) (by have := hbel.size; simp; omega) ?_; intro v' w1 hown' hgrow _; have R := own_append HO.out hbel (Nat.le_refl _) hown' hgrow; clear hown' hgrow))
            go_roundw
            case rel => exact ⟨k + 1, true, ol ++ [p], by omega, by go_num, rfl, R.1, R.2, contains_yes hlt (.inl HG.out), by unfold Hid; rw [erase_keep hlt HP.out (.inl HG.out), HE.out], by simp; omega⟩
            case measure => simp [intOf]; omega
        · have HX : Hid (p ≠ x) := hpx
          have hb1 : (p == x) = false := by simpa using hpx
          clear hpx
          go_wp2_with (at_builtin; go_must (refine wpList_append_own _ rfl _ _ 25 rfl w.heap.size 3 i0 (.int .i64 0) 1 8 Tryd.underlying25 HI.out.1 HI.out.2.1 HI.out.2.2.1 HI.out.2.2.2 rfl (by decide) _ ol.length (ol.map (Value.int .i64)) rfl (World.ownsRow.alloc HO.out _) ⟨wr.heap.size, 0, none⟩ 1 1 [.int .i64 p] rfl rfl (new_one _ _ _) (one_cell _) (by unfold maxLen; omega) (by omega) (by have := hbel.size; simp; omega) ?_; intro v' w1 hown' hgrow _; have R := own_append HO.out hbel (Nat.le_refl _) hown' hgrow; clear hown' hgrow))
          go_roundw
          case rel => exact ⟨k + 1, gb, ol ++ [p], by omega, by go_num, rfl, R.1, R.2, by
            cases gb
            · exact contains_no hlt HG.out (by rw [HP.out]; exact HX.out)
            · exact contains_yes hlt (.inl HG.out), by unfold Hid; rw [erase_keep hlt HP.out (.inr HX.out), HE.out], by simp; omega⟩
          case measure => simp [intOf]; omega
      · have HF : Hid (l.erase x = ol) := by have := HE.out; rwa [List.take_of_length_le (by omega)] at this
        go_wp2
        go_ret
        exact ⟨_, rfl, by rw [HF.out]; exact HO.out, hbel⟩
end Go.Proofs.YtmibnceadciidaaDoor
