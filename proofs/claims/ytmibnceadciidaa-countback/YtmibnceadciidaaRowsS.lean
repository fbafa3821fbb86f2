/- The walks of larderwicksame.Rows where both hold the same. -/
import Derived.Test.YtmibnceadciidaaHeapI
import Derived.Test.YtmibnceadciidaaInts
namespace Go.Proofs.Ytmibnceadciidaa
set_option maxRecDepth 100000
open Go.RowKit Go.Sort

set_option maxHeartbeats 1000000 in
theorem rows_same (v v2 : Value) (L : List (List Int)) (w : World) (hv : IsRows w v L) (hv2 : IsRows w v2 L) :
    Calls Try.prog 22 #[v, v2] w fun e w' => e = .returned (.bool true) ∧ ∃ n, w' = w.drewN n := by
  obtain ⟨ao, co, rfl⟩ := hv.form
  obtain ⟨a2, c2, rfl⟩ := hv2.form
  have HV : Hid (IsRows w (.slice ao L.length co) L) := hv
  have HV2 : Hid (IsRows w (.slice a2 L.length c2) L) := hv2
  clear hv hv2
  go_enter Try.func22, Try.ntmps22
  go_wp2
  go_loopw [5] (fun i wr => ∃ k q : Nat, k ≤ L.length ∧ i = .int .i64 k ∧ wr = w.drewN q) (fun i _ => L.length - (intOf i).toNat)
  case atStart => exact ⟨0, 0, Nat.zero_le _, rfl, rfl⟩
  case round =>
    obtain ⟨k, q, hk, rfl, rfl⟩ := hrel
    by_cases hlt : k < L.length
    · have hlt' : (k : Int) < (L.length : Int) := by omega
      obtain ⟨b, off, rfl, hlc, hbs, au, cu, hcu, hiu, hmm, hcum⟩ := HV.out.at hlt
      obtain ⟨b2, off2, rfl, hlc2, hbs2, au2, cu2, hcu2, hiu2, hmm2, hcum2⟩ := HV2.out.at hlt
      have HQ : Hid (∀ n, ∃ q', (w.drewN q).drewN n = w.drewN q') := fun n => ⟨q + n, by simp [World.drewN_drewN]⟩
      have hcq : (w.drewN q).cell? ⟨b, off + k, none⟩ = some (.slice au (rowAt L k).length cu) := hcu
      have hcq2 : (w.drewN q).cell? ⟨b2, off2 + k, none⟩ = some (.slice au2 (rowAt L k).length cu2) := hcu2
      have HS : Hid (∀ W : World, W.heap = (w.drewN q).heap → Calls Try.prog 34 #[.slice au (rowAt L k).length cu, .slice au2 (rowAt L k).length cu2] W fun e w' => e = .returned (.bool true) ∧ ∃ n, w' = W.drewN n) := fun W hW => ints_same _ _ (rowAt L k) W (hiu.heap hW) (hiu2.heap hW)
      clear hiu hiu2 hcu hcu2
      generalize w.drewN q = wq at *
      go_wp2
      go_quiet (first | (go_at_call 34; exact Calls.quiet_of (HS.out _ (by rfl))))
      go_wp2
      go_roundw
      case rel =>
        obtain ⟨q', hq'⟩ := HQ.out nq
        exact ⟨k + 1, q', by omega, by go_num, hq'⟩
      case measure => simp [intOf]; omega
    · have hlt' : ¬ (k : Int) < (L.length : Int) := by omega
      go_wp2
      go_ret
      exact ⟨rfl, q, rfl⟩
end Go.Proofs.Ytmibnceadciidaa
