/- The walk of the document's answer (larderwickref1): Place. -/
import Derived.Test.YtennlinnclcngaaDoorOpened
import Derived.Test.YtennlinnclcngaaDoorOwn
namespace Go.Proofs.YtennlinnclcngaaDoor
set_option maxRecDepth 100000
open Go.RowKit Go.Sort

/-- Where a number stands; below 0: nowhere. -/
def plcR (l : List Int) (x : Int) : Int := if x ∈ l then (l.idxOf x : Int) else -1
theorem plc_here {l : List Int} {k : Nat} {x : Int} (hk : k < l.length) (h : (l.take k).contains x = false) (hp : l[k]?.getD 0 = x) : plcR l x = k := by
  rw [List.getElem?_eq_getElem hk, Option.getD_some] at hp
  have hx : x ∉ l.take k := by simpa using h
  have hm : x ∈ l := hp ▸ List.getElem_mem hk
  unfold plcR
  rw [if_pos hm]
  have e : l = l.take k ++ l[k] :: l.drop (k+1) := by rw [← List.drop_eq_getElem_cons hk, List.take_append_drop]
  have h2 : List.idxOf x (l.take k ++ l[k] :: l.drop (k+1)) = k := by
    rw [List.idxOf_append, if_neg hx, hp, List.idxOf_cons_self, List.length_take]; omega
  rw [← e] at h2
  rw [h2]
theorem plc_none {l : List Int} {x : Int} (h : l.contains x = false) : plcR l x = -1 := by
  unfold plcR
  rw [if_neg (by simpa using h)]
theorem plc_idx {l : List Int} {x : Int} (h : x ∈ l) : plcR l x = (l.idxOf x : Int) := if_pos h
set_option maxHeartbeats 400000 in
theorem rplace_any (v : Value) (l : List Int) (x : Int) (w : World) (hv : IsInts w v l) :
    Calls Tryd.prog 13 #[v, .int .i64 x] w fun e w' => e = .returned (.int .i64 (plcR l x)) ∧ w' = w := by
  obtain ⟨ao, cap, rfl, hcap, ho⟩ := hv.opened
  have HO : Hid (∀ k, k < l.length → ∃ b off, ao = some ⟨b, off, none⟩ ∧ l.length ≤ cap ∧ b < w.heap.size ∧ ∀ j, j < l.length → w.cell? ⟨b, off + j, none⟩ = some (.int .i64 (l[j]?.getD 0))) := ho
  clear ho hv
  unfold maxLen at hcap
  go_enter Tryd.func13, Tryd.ntmps13
  go_wp2
  go_loop [5] (fun i => ∃ k : Nat, k ≤ l.length ∧ i = .int .i64 k ∧ Hid ((l.take k).contains x = false)) (fun i => l.length - (RowKit.intOf i).toNat)
  case atStart => exact ⟨0, by omega, rfl, by simp [Hid]⟩
  case round =>
    obtain ⟨k, hk, rfl, HA⟩ := hrel
    by_cases hlt : k < l.length
    · obtain ⟨b, off, rfl, hlc, _, hcell⟩ := HO.out k hlt
      have hck := hcell k hlt
      clear hcell
      have HT : Hid ((l.take (k+1)).contains x = ((l.take k).contains x || (l[k]?.getD 0 == x))) := contains_take_succ hlt x
      generalize hp : l[k]?.getD 0 = p at *
      have HP : Hid (l[k]?.getD 0 = p) := hp
      clear hp
      by_cases hb : p = x
      · have HPL : Hid (plcR l x = k) := plc_here hlt HA.out (HP.out.trans hb)
        have hpx : (p == x) = true := by simpa using hb
        clear hb
        go_wp2
        go_ret
        exact ⟨by rw [HPL.out]; rfl, rfl⟩
      · have hpx : (p == x) = false := by simpa using hb
        have HX : Hid ((p == x) = false) := hpx
        clear hb
        go_wp2
        go_round
        case rel => exact ⟨k + 1, by omega, by go_num, by unfold Hid; rw [HT.out, HA.out, HX.out]; rfl⟩
        case measure => simp [RowKit.intOf]; omega
    · have HF : Hid (plcR l x = -1) := by have := HA.out; rw [List.take_of_length_le (by omega)] at this; exact plc_none this
      go_wp2
      go_ret
      exact ⟨by rw [HF.out]; rfl, rfl⟩
end Go.Proofs.YtennlinnclcngaaDoor
