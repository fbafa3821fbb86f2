/- The walk of landlord.apart. -/
import Derived.Test.YtedmfehjifknbaaDoorTenS
import Derived.Test.YtedmfehjifknbaaDoorTri
namespace Go.Proofs.YtedmfehjifknbaaDoor
set_option maxRecDepth 100000
open Go.RowKit Go.Sort

theorem tenants_take {t : List (Int × Nat)} {k : Nat} (h : k < t.length) : tenants (t.take (k+1)) = tenants (t.take k) ++ [(tenAt t k).1] := by
  rw [List.take_succ_eq_append_getElem h, tenants_snoc, tenAt_lt h]
theorem creds_take {t : List (Int × Nat)} {k : Nat} (h : k < t.length) : creds (t.take (k+1)) = creds (t.take k) ++ [((tenAt t k).2 : Int)] := by
  rw [List.take_succ_eq_append_getElem h, tenAt_lt h]; unfold creds; rw [List.map_append]; rfl
theorem tenants_len {t : List (Int × Nat)} {k : Nat} (h : k ≤ t.length) : (tenants (t.take k)).length = k := by simp [tenants]; omega
theorem creds_len {t : List (Int × Nat)} {k : Nat} (h : k ≤ t.length) : (creds (t.take k)).length = k := by simp [creds]; omega

set_option maxHeartbeats 2000000 in
theorem apartT_any (base : Nat) (v : Value) (t : List (Int × Nat)) (w : World) (hO : OwnT w base v t) (ht : t.length ≤ 8) :
    Calls Tryd.prog 23 #[v] w fun e w' => ∃ vp vc, e = .returned (.tuple #[vp, vc]) ∧ OwnI w' w.heap.size vp (tenants t) ∧ OwnI w' w.heap.size vc (creds t) ∧ Below w.heap.size w w' := by
  obtain ⟨i0, hi, hz0, hz1, hz2⟩ := info_parts Tryd.info3
  have HI : Hid (Tryd.prog.info? 3 = some i0 ∧ i0.zero = some (.int .i64 0) ∧ i0.size = 1 ∧ i0.bytes = 8) := ⟨hi, hz0, hz1, hz2⟩
  clear hi hz0 hz1 hz2
  obtain ⟨ao, cap, hv⟩ := hO.form
  have HBL : Hid (0 < t.length → ∃ g, ao = some ⟨g, 0, none⟩ ∧ g < w.heap.size ∧ t.length ≤ cap ∧ cap ≤ maxLen) := by
    intro h0
    obtain ⟨g, cap', e, _, h2, h3, h4⟩ := hO.block h0
    rw [hv] at e
    simp at e
    obtain ⟨e1, e2⟩ := e
    subst e2
    exact ⟨g, e1, h2, h3, h4⟩
  subst hv
  have HO : Hid (OwnT w base (.slice ao t.length cap) t) := hO
  clear hO
  go_enter Tryd.func23, Tryd.ntmps23
  go_wp2
  go_loopw [2, 3, 5, 8] (fun vp vc _ i wr => ∃ k : Nat, k ≤ t.length ∧ i = .int .i64 k ∧ Tri w wr (.slice none 0 0) vp vc [] (tenants (t.take k)) (creds (t.take k))) (fun _ _ _ i _ => t.length - (intOf i).toNat)
  case atStart => exact ⟨0, by omega, rfl, by simpa [tenants, creds] using Tri.start w⟩
  case round =>
    obtain ⟨k, hk, rfl, hT⟩ := hrel
    have HT : Hid (Tri w wr (.slice none 0 0) u2 u3 [] (tenants (t.take k)) (creds (t.take k))) := hT
    by_cases hlt : k < t.length
    · obtain ⟨g, rfl, hgw, hlc, hcap⟩ := HBL.out (by omega)
      unfold maxLen at hcap
      have hc1 : wr.cell? ⟨g, k * 2, none⟩ = some (.int .i64 (tenAt t k).1) := (hT.below.cell (by exact hgw)).trans (HO.out.page rfl hlt)
      have hc2 : wr.cell? ⟨g, k * 2 + 1, none⟩ = some (.int .i64 ((tenAt t k).2 : Nat)) := (hT.below.cell (by exact hgw)).trans (HO.out.credit rfl hlt)
      have HS1 := tenants_take hlt
      have HS2 := creds_take hlt
      have HL1 : Hid ((tenants (t.take k)).length = k) := tenants_len hk
      have HL2 : Hid ((creds (t.take k)).length = k) := creds_len hk
      generalize hx : tenAt t k = x at *
      obtain ⟨q, m⟩ := x
      simp only at hc1 hc2 HS1 HS2
      have HP : Hid (tenants (t.take (k+1)) = tenants (t.take k) ++ [q]) := HS1
      have HC : Hid (creds (t.take (k+1)) = creds (t.take k) ++ [(m : Int)]) := HS2
      clear HS1 HS2 hT hx
      generalize tenants (t.take k) = lp at *
      generalize creds (t.take k) = lc at *
      have HTa : Hid (Tri w (wr.alloc (.cells #[.int .i64 q, .int .i64 m] 48)) (.slice none 0 0) u2 u3 [] lp lc) := HT.out.alloc _
      have hsz : (wr.alloc (.cells #[.int .i64 q, .int .i64 m] 48)).heap.size = wr.heap.size + 1 := by simp
      have HSZ : Hid ((wr.alloc (.cells #[.int .i64 q, .int .i64 m] 48)).heap.size = wr.heap.size + 1) := hsz
      clear hsz
      go_wp2_with (first | (at_builtin; (refine wpList_append_own_at _ rfl _ _ 22 rfl w.heap.size 3 i0 (.int .i64 0) 1 8 Tryd.underlying22 HI.out.1 HI.out.2.1 HI.out.2.2.1 HI.out.2.2.2 rfl (by decide) _ k (lp.map (Value.int .i64)) rfl (World.ownsRow.alloc (HTa.out.p.rows HL1.out rfl) _) ⟨wr.heap.size + 1, 0, none⟩ 1 1 [.int .i64 q] rfl rfl (by have := new_one (wr.alloc (.cells #[.int .i64 q, .int .i64 m] 48)) (.int .i64 q) 3; rw [HSZ.out] at this; exact this) (one_cell _) (by unfold maxLen; omega) (by omega) (by have := HT.out.below.size; simp; omega) ?_; intro vp' w1 hown' hgrow _ hat; have HT1 : Hid (Tri w w1 (.slice none 0 0) vp' u3 [] (lp ++ [q]) lc) := HTa.out.pages HL1.out hown' hgrow hat; have hcm : w1.cell? ⟨wr.heap.size, 1, none⟩ = some (.int .i64 m) := hgrow.cell (Lib.cell?_alloc_some _ (by simp)) (by intro e; have := (World.ownsRow.lt HT.out.p _ e.symm).2; simp at this); clear hown' hgrow hat HTa)) | (at_builtin; (refine wpList_append_own_at _ rfl _ _ 22 rfl w.heap.size 3 i0 (.int .i64 0) 1 8 Tryd.underlying22 HI.out.1 HI.out.2.1 HI.out.2.2.1 HI.out.2.2.2 rfl (by decide) _ k (lc.map (Value.int .i64)) rfl (World.ownsRow.alloc (HT1.out.a.rows HL2.out rfl) _) ⟨w1.heap.size, 0, none⟩ 1 1 [.int .i64 (m : Int)] rfl rfl (by exact new_one _ _ _) (one_cell _) (by unfold maxLen; omega) (by omega) (by have := HT1.out.below.size; simp; omega) ?_; intro vc' w2 hown' hgrow _ hat; have HT2 : Hid (Tri w w2 (.slice none 0 0) vp' vc' [] (lp ++ [q]) (lc ++ [(m : Int)])) := HT1.out.asked HL2.out hown' hgrow hat; clear hown' hgrow hat)))
      go_roundw
      case rel => exact ⟨k + 1, by omega, by go_num, by rw [HP.out, HC.out]; exact HT2.out⟩
      case measure => simp [intOf]; omega
    · have hkl : k = t.length := by omega
      rw [hkl, List.take_length] at hT
      clear HT hkl
      have HT : Hid (Tri w wr (.slice none 0 0) u2 u3 [] (tenants t) (creds t)) := hT
      clear hT
      go_wp2
      go_ret2
      exact ⟨_, _, rfl, HT.out.p, HT.out.a, HT.out.below⟩
end Go.Proofs.YtedmfehjifknbaaDoor
