/- The walk of larderwickref1.Has. -/
import Derived.Test.YtmibnceadciidaaDoorBase
namespace Go.Proofs.YtmibnceadciidaaDoor
open Go.RowKit

set_option maxHeartbeats 400000 in
theorem has_any (v : Value) (l : List Int) (x : Int) (w : World) (hv : IsInts w v l) :
    Calls Tryd.prog 21 #[v, .int .i64 x] w fun e w' => e = .returned (.bool (l.contains x)) ∧ w' = w := by
  rcases hv with ⟨rfl, ao, cap, rfl, hcap⟩ | ⟨b, off, cap, rfl, hpos, hlc, hcap, hc⟩
  · go_enter Tryd.func21, Tryd.ntmps21
    go_wp2
    go_loop [5] (fun i => i = .int .i64 0) (fun _ => 0)
    case atStart => rfl
    case round =>
      obtain rfl := hrel
      go_wp2
      go_ret
      exact ⟨rfl, rfl⟩
  · unfold maxLen at hcap
    generalize hr : l.contains x = r
    have HR : Hid (l.contains x = r) := hr
    clear hr
    have HC : Hid (∀ j, j < l.length → w.cell? ⟨b, off + j, none⟩ = some (.int .i64 (l[j]?.getD 0))) := hc
    clear hc
    go_enter Tryd.func21, Tryd.ntmps21
    go_wp2
    go_loop [5] (fun i => ∃ k : Nat, k ≤ l.length ∧ i = .int .i64 k ∧ Hid ((l.take k).contains x = false)) (fun i => l.length - (intOf i).toNat)
    case atStart => exact ⟨0, by omega, rfl, by simp [Hid]⟩
    case round =>
      obtain ⟨k, hk, rfl, HA⟩ := hrel
      by_cases hlt : k < l.length
      · have hck := HC.out k hlt
        have HT : Hid ((l.take (k+1)).contains x = ((l.take k).contains x || (l[k]?.getD 0 == x))) := contains_take_succ hlt x
        have HM : Hid (l[k]?.getD 0 ∈ l) := by unfold Hid; rw [List.getElem?_eq_getElem hlt]; exact List.getElem_mem hlt
        generalize l[k]?.getD 0 = p at *
        by_cases hb : p = x
        · subst hb
          have hpp : (p == p) = true := by simp
          go_wp2
          go_ret
          exact ⟨by rw [show r = true from HR.out.symm.trans (List.contains_iff_mem.2 HM.out)]; rfl, rfl⟩
        · have hpx : (p == x) = false := by simpa using hb
          have HX : Hid ((p == x) = false) := hpx
          clear hb
          go_wp2
          go_round
          case rel => exact ⟨k + 1, by omega, by go_num, by unfold Hid; rw [HT.out, HA.out, HX.out]; rfl⟩
          case measure => simp [intOf]; omega
      · have HF : Hid (l.contains x = false) := by have := HA.out; rwa [List.take_of_length_le (by omega)] at this
        go_wp2
        go_ret
        exact ⟨by rw [show r = false from HR.out.symm.trans HF.out]; rfl, rfl⟩
end Go.Proofs.YtmibnceadciidaaDoor
