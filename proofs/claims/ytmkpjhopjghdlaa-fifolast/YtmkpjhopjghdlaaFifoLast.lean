/- FifoLast is proved: for every list of requests and every number of slots, in whatever memory and on every schedule, it returns true and leaves its argument as it was: what is there is what came last. No condition. -/
import Derived.Test.YtmkpjhopjghdlaaAnomaly
import Derived.Test.YtmkpjhopjghdlaaTail
import Derived.Test.YtmkpjhopjghdlaaInts
import Derived.Test.YtmkpjhopjghdlaaLawkit
namespace Go.Proofs.Ytmkpjhopjghdlaa
open Go.ChangeShapes Go.WideShapes Go.ChangeAt Go.RowKit Go.Sort

/-- The loop's relation: what came, behind k requests. -/
def LastRel (w : World) (s : Nat) (l : List Int) (vc i : Value) (wr : World) : Prop :=
  ∃ k : Nat, k ≤ l.length ∧ i = .int .i64 k ∧ OwnI wr w.heap.size vc (came s l k) ∧ (came s l k = [] → vc = .slice none 0 0) ∧ Below w.heap.size w wr
theorem snoc_ne {c : List Int} {p : Int} {v : Value} : c ++ [p] = [] → v = .slice none 0 0 := by simp

set_option maxHeartbeats 2000000 in
theorem last_any (v : Value) (l : List Int) (s : Int) (w : World) (hv : IsInts w v l) (hform : ∃ ao cap, v = .slice ao l.length cap) :
    Calls Try.prog 3 #[v, .int .i64 s] w fun e w' => e = .returned (.bool true) ∧ Below w.heap.size w w' := by
  have HV : Hid (IsInts w v l) := hv
  clear hv
  by_cases h0 : chk l s = 0
  · obtain ⟨h40, h1, h8⟩ := chk_zero h0
    have HC : Hid (chk l s = 0) := h0
    obtain ⟨n, rfl⟩ : ∃ n : Nat, s = n := ⟨s.toNat, by omega⟩
    obtain ⟨av, cv, rfl⟩ := hform
    have hs1 : 1 ≤ n := by omega
    clear h0
    obtain ⟨i0, hi, hz0, hz1, hz2⟩ := info_parts Try.info3
    have HI : Hid (Try.prog.info? 3 = some i0 ∧ i0.zero = some (.int .i64 0) ∧ i0.size = 1 ∧ i0.bytes = 8) := ⟨hi, hz0, hz1, hz2⟩
    clear hi hz0 hz1 hz2
    go_enter Try.func3, Try.ntmps3
    go_wp2_with (first | (go_at_call 4; go_must (refine (ano_any _).mono ?_; rintro e w1 ⟨rfl, hb1⟩)) | (go_at_call 5; fail))
    refine (run_any _ l n _ (HV.out.below hb1)).mono ?_
    rintro e w2 ⟨vb, vh, rfl, hB, hO, hb2⟩
    rw [HC.out, show errV 0 = .nilIface from rfl]
    have HB2 : Hid (Below w.heap.size w w2) := hb1.trans (hb2.mono hb1.size)
    rw [fifoB_ok HC.out, Int.toNat_natCast] at hB
    rw [fifoL_ok HC.out, Int.toNat_natCast] at hO
    have HVa : Hid (IsInts w2 (.slice av l.length cv) l) := HV.out.below HB2.out
    have HBa : Hid (IsBools w2 vb (marks (fhit n l) l.length)) := hB.isBools
    have HOa : Hid (IsInts w2 vh (lastn n (came n l l.length))) := hO.isInts
    obtain ⟨ab, cb, hvb⟩ := hB.form
    rw [marks_length] at hvb
    subst hvb
    clear hB hO hb1 hb2 HC HV
    go_wp2
    go_loopw [9, 10, 11] (fun vc i _ wr => LastRel w2 n l vc i wr) (fun _ i _ _ => l.length - (intOf i).toNat)
    case atStart => exact ⟨0, Nat.zero_le _, rfl, OwnI.nil _ _, fun _ => rfl, Below.refl _ _⟩
    case round =>
      obtain ⟨k, hk, rfl, hoc, hnil, hbel⟩ := hrel
      have HO : Hid (OwnI wr w2.heap.size u9 (came n l k)) := hoc
      have hcl := came_le n l k
      have hcs := tail_cases hs1 hoc hnil
      clear hoc hnil
      by_cases hlt : k < l.length
      · rcases HVa.out with ⟨h, _⟩ | ⟨b, off, cap, hv, hp, hlc, hcap, hc⟩
        · subst h; simp at hlt
        simp only [Value.slice.injEq] at hv
        obtain ⟨rfl, _, rfl⟩ := hv
        have hbB : b < w2.heap.size := World.block_lt_of_cell? w2 _ (hc 0 hp)
        have hck : wr.cell? ⟨b, off + k, none⟩ = some (.int .i64 (l[k]?.getD 0)) := (hbel.cell (by exact hbB)).trans (hc k hlt)
        obtain ⟨b2, o2, c2, hv2, hn2, hm2, hc2⟩ := marks_cells HBa.out hp
        simp only [Value.slice.injEq] at hv2
        obtain ⟨rfl, _, rfl⟩ := hv2
        have hbB2 : b2 < w2.heap.size := World.block_lt_of_cell? w2 _ (hc2 0 hp)
        have hckb : wr.cell? ⟨b2, o2 + k, none⟩ = some (.bool (fhit n l k)) := (hbel.cell (by exact hbB2)).trans (hc2 k hlt)
        unfold maxLen at hcap hm2
        clear hc hc2
        rcases hcs with ⟨rfl, hce⟩ | ⟨g, gc, m, rfl, hcm, hm1, hms, hmc, hgm, htl⟩ | ⟨g, gc, m, a, rfl, hcm, hm1, ham, hmc, hgm, htl⟩
        · have HCM : Hid ((came n l k).length = 0) := by unfold Hid; rw [hce]; rfl
          have hwr : IntKind.i64.wrap ((0 : Int) - (n : Int)) = 0 - (n : Int) := by rw [IntKind.wrap_i64]; omega
          have hwr2 : IntKind.i64.wrap (- (n : Int)) = - (n : Int) := by rw [IntKind.wrap_i64]; omega
          have hneg : (0 : Int) - (n : Int) < 0 := by omega
          have hneg2 : - (n : Int) < 0 := by omega
          have HTL : Hid (IsInts wr (.slice none 0 0) (lastn n (came n l k))) := by unfold Hid; rw [hce, lastn_nil]; exact (OwnI.nil wr 0).isInts
          clear hce hcl
          cases hh : fhit n l k
          · have HH : Hid ((lastn n (came n l k)).contains (l[k]?.getD 0) = false) := hh
            have HN : Hid (came n l (k+1) = came n l k ++ [l[k]?.getD 0]) := came_miss hh
            rw [hh] at hckb
            clear hh
            generalize l[k]?.getD 0 = p at *
            go_wp2
            go_quiet (first | (go_at_call 6; exact (has_is HTL.out HH.out _ (by rfl)).mono fun _ _ ⟨he, hm⟩ => ⟨he, _, hm⟩))
            have HOq : Hid (OwnI (wr.drewN nq) w2.heap.size _ (came n l k)) := HO
            have hbq : Below w2.heap.size w2 (wr.drewN nq) := below_drewN hbel nq
            have hckq : (wr.drewN nq).cell? ⟨b, off + k, none⟩ = some (.int .i64 p) := hck
            have hckbq : (wr.drewN nq).cell? ⟨b2, o2 + k, none⟩ = some (.bool false) := hckb
            clear HO hbel hck hckb HTL
            generalize wr.drewN nq = wq at *
            go_wp2_with (at_builtin; go_must (refine wpList_append_own _ rfl _ _ 22 rfl w2.heap.size 3 i0 (.int .i64 0) 1 8 Try.underlying22 HI.out.1 HI.out.2.1 HI.out.2.2.1 HI.out.2.2.2 rfl (by decide) _ 0 ((came n l k).map (Value.int .i64)) rfl (World.ownsRow.alloc (HOq.out.rows HCM.out rfl) _) ⟨wq.heap.size, 0, none⟩ 1 1 [.int .i64 p] rfl rfl (by exact new_one _ _ _) (one_cell _) (by unfold maxLen; omega) (by omega) (by have := hbq.size; simp; omega) ?_; intro vc' w3 hown' hgrow _; have HOX := own_append2 HOq.out HCM.out hbq (Nat.le_refl _) hown' hgrow; have HX1 : Hid (OwnI w3 w2.heap.size vc' (came n l k ++ [p])) := HOX.1; have HX3 : Hid (Below w2.heap.size w2 w3) := HOX.2; clear hown' hgrow HOX))
            go_roundw
            case rel => exact ⟨k + 1, by omega, by go_num, by rw [HN.out]; exact HX1.out, by rw [HN.out]; exact snoc_ne, HX3.out⟩
            case measure => simp [intOf]; omega
          · have HH : Hid ((lastn n (came n l k)).contains (l[k]?.getD 0) = true) := hh
            have HN : Hid (came n l (k+1) = came n l k) := came_hit hh
            rw [hh] at hckb
            clear hh
            generalize l[k]?.getD 0 = p at *
            go_wp2
            go_quiet (first | (go_at_call 6; exact (has_is HTL.out HH.out _ (by rfl)).mono fun _ _ ⟨he, hm⟩ => ⟨he, _, hm⟩))
            have HOq : Hid (OwnI (wr.drewN nq) w2.heap.size _ (came n l k)) := HO
            have hbq : Below w2.heap.size w2 (wr.drewN nq) := below_drewN hbel nq
            have hckq : (wr.drewN nq).cell? ⟨b, off + k, none⟩ = some (.int .i64 p) := hck
            have hckbq : (wr.drewN nq).cell? ⟨b2, o2 + k, none⟩ = some (.bool true) := hckb
            clear HO hbel hck hckb HTL
            generalize wr.drewN nq = wq at *
            go_wp2
            go_roundw
            case rel => exact ⟨k + 1, by omega, by go_num, by rw [HN.out]; exact HOq.out, fun _ => rfl, hbq⟩
            case measure => simp [intOf]; omega
        · have hwr : IntKind.i64.wrap ((m : Int) - (n : Int)) = (m : Int) - (n : Int) := by rw [IntKind.wrap_i64]; omega
          have hneg : (m : Int) - (n : Int) < 0 := by omega
          have HCM : Hid ((came n l k).length = m) := hcm
          have HTL : Hid (IsInts wr (.slice (some ⟨g, 0, none⟩) m gc) (lastn n (came n l k))) := htl
          have ha1 : ¬ (gc = 0) := by omega
          rw [hcm] at hcl
          clear hcm htl
          unfold maxLen at hgm
          have HNE : Hid (came n l k = [] → Value.slice (some ⟨g, 0, none⟩) m gc = .slice none 0 0) := by intro h; have := HCM.out; rw [h] at this; simp at this; omega
          cases hh : fhit n l k
          · have HH : Hid ((lastn n (came n l k)).contains (l[k]?.getD 0) = false) := hh
            have HN : Hid (came n l (k+1) = came n l k ++ [l[k]?.getD 0]) := came_miss hh
            rw [hh] at hckb
            clear hh
            generalize l[k]?.getD 0 = p at *
            go_wp2
            go_quiet (first | (go_at_call 6; exact (has_is HTL.out HH.out _ (by rfl)).mono fun _ _ ⟨he, hm⟩ => ⟨he, _, hm⟩))
            have HOq : Hid (OwnI (wr.drewN nq) w2.heap.size _ (came n l k)) := HO
            have hbq : Below w2.heap.size w2 (wr.drewN nq) := below_drewN hbel nq
            have hckq : (wr.drewN nq).cell? ⟨b, off + k, none⟩ = some (.int .i64 p) := hck
            have hckbq : (wr.drewN nq).cell? ⟨b2, o2 + k, none⟩ = some (.bool false) := hckb
            clear HO hbel hck hckb HTL
            generalize wr.drewN nq = wq at *
            go_wp2_with (at_builtin; go_must (refine wpList_append_own _ rfl _ _ 22 rfl w2.heap.size 3 i0 (.int .i64 0) 1 8 Try.underlying22 HI.out.1 HI.out.2.1 HI.out.2.2.1 HI.out.2.2.2 rfl (by decide) _ m ((came n l k).map (Value.int .i64)) rfl (World.ownsRow.alloc (HOq.out.rows HCM.out rfl) _) ⟨wq.heap.size, 0, none⟩ 1 1 [.int .i64 p] rfl rfl (by exact new_one _ _ _) (one_cell _) (by unfold maxLen; omega) (by omega) (by have := hbq.size; simp; omega) ?_; intro vc' w3 hown' hgrow _; have HOX := own_append2 HOq.out HCM.out hbq (Nat.le_refl _) hown' hgrow; have HX1 : Hid (OwnI w3 w2.heap.size vc' (came n l k ++ [p])) := HOX.1; have HX3 : Hid (Below w2.heap.size w2 w3) := HOX.2; clear hown' hgrow HOX))
            go_roundw
            case rel => exact ⟨k + 1, by omega, by go_num, by rw [HN.out]; exact HX1.out, by rw [HN.out]; exact snoc_ne, HX3.out⟩
            case measure => simp [intOf]; omega
          · have HH : Hid ((lastn n (came n l k)).contains (l[k]?.getD 0) = true) := hh
            have HN : Hid (came n l (k+1) = came n l k) := came_hit hh
            rw [hh] at hckb
            clear hh
            generalize l[k]?.getD 0 = p at *
            go_wp2
            go_quiet (first | (go_at_call 6; exact (has_is HTL.out HH.out _ (by rfl)).mono fun _ _ ⟨he, hm⟩ => ⟨he, _, hm⟩))
            have HOq : Hid (OwnI (wr.drewN nq) w2.heap.size _ (came n l k)) := HO
            have hbq : Below w2.heap.size w2 (wr.drewN nq) := below_drewN hbel nq
            have hckq : (wr.drewN nq).cell? ⟨b, off + k, none⟩ = some (.int .i64 p) := hck
            have hckbq : (wr.drewN nq).cell? ⟨b2, o2 + k, none⟩ = some (.bool true) := hckb
            clear HO hbel hck hckb HTL
            generalize wr.drewN nq = wq at *
            go_wp2
            go_roundw
            case rel => exact ⟨k + 1, by omega, by go_num, by rw [HN.out]; exact HOq.out, by rw [HN.out]; exact HNE.out, hbq⟩
            case measure => simp [intOf]; omega
        · have hwr : IntKind.i64.wrap ((m : Int) - (n : Int)) = (a : Int) := by rw [IntKind.wrap_i64]; omega
          have HCM : Hid ((came n l k).length = m) := hcm
          have HTL : Hid (IsInts wr (.slice (some ⟨g, a, none⟩) (m - a) (gc - a)) (lastn n (came n l k))) := htl
          have ha0 : (a : Int) ≤ (m : Int) := by omega
          have ha1 : ¬ (gc = a) := by omega
          rw [hcm] at hcl
          clear hcm htl
          unfold maxLen at hgm
          have HNE : Hid (came n l k = [] → Value.slice (some ⟨g, 0, none⟩) m gc = .slice none 0 0) := by intro h; have := HCM.out; rw [h] at this; simp at this; omega
          cases hh : fhit n l k
          · have HH : Hid ((lastn n (came n l k)).contains (l[k]?.getD 0) = false) := hh
            have HN : Hid (came n l (k+1) = came n l k ++ [l[k]?.getD 0]) := came_miss hh
            rw [hh] at hckb
            clear hh
            generalize l[k]?.getD 0 = p at *
            go_wp2
            go_quiet (first | (go_at_call 6; exact (has_is HTL.out HH.out _ (by rfl)).mono fun _ _ ⟨he, hm⟩ => ⟨he, _, hm⟩))
            have HOq : Hid (OwnI (wr.drewN nq) w2.heap.size _ (came n l k)) := HO
            have hbq : Below w2.heap.size w2 (wr.drewN nq) := below_drewN hbel nq
            have hckq : (wr.drewN nq).cell? ⟨b, off + k, none⟩ = some (.int .i64 p) := hck
            have hckbq : (wr.drewN nq).cell? ⟨b2, o2 + k, none⟩ = some (.bool false) := hckb
            clear HO hbel hck hckb HTL
            generalize wr.drewN nq = wq at *
            go_wp2_with (at_builtin; go_must (refine wpList_append_own _ rfl _ _ 22 rfl w2.heap.size 3 i0 (.int .i64 0) 1 8 Try.underlying22 HI.out.1 HI.out.2.1 HI.out.2.2.1 HI.out.2.2.2 rfl (by decide) _ m ((came n l k).map (Value.int .i64)) rfl (World.ownsRow.alloc (HOq.out.rows HCM.out rfl) _) ⟨wq.heap.size, 0, none⟩ 1 1 [.int .i64 p] rfl rfl (by exact new_one _ _ _) (one_cell _) (by unfold maxLen; omega) (by omega) (by have := hbq.size; simp; omega) ?_; intro vc' w3 hown' hgrow _; have HOX := own_append2 HOq.out HCM.out hbq (Nat.le_refl _) hown' hgrow; have HX1 : Hid (OwnI w3 w2.heap.size vc' (came n l k ++ [p])) := HOX.1; have HX3 : Hid (Below w2.heap.size w2 w3) := HOX.2; clear hown' hgrow HOX))
            go_roundw
            case rel => exact ⟨k + 1, by omega, by go_num, by rw [HN.out]; exact HX1.out, by rw [HN.out]; exact snoc_ne, HX3.out⟩
            case measure => simp [intOf]; omega
          · have HH : Hid ((lastn n (came n l k)).contains (l[k]?.getD 0) = true) := hh
            have HN : Hid (came n l (k+1) = came n l k) := came_hit hh
            rw [hh] at hckb
            clear hh
            generalize l[k]?.getD 0 = p at *
            go_wp2
            go_quiet (first | (go_at_call 6; exact (has_is HTL.out HH.out _ (by rfl)).mono fun _ _ ⟨he, hm⟩ => ⟨he, _, hm⟩))
            have HOq : Hid (OwnI (wr.drewN nq) w2.heap.size _ (came n l k)) := HO
            have hbq : Below w2.heap.size w2 (wr.drewN nq) := below_drewN hbel nq
            have hckq : (wr.drewN nq).cell? ⟨b, off + k, none⟩ = some (.int .i64 p) := hck
            have hckbq : (wr.drewN nq).cell? ⟨b2, o2 + k, none⟩ = some (.bool true) := hckb
            clear HO hbel hck hckb HTL
            generalize wr.drewN nq = wq at *
            go_wp2
            go_roundw
            case rel => exact ⟨k + 1, by omega, by go_num, by rw [HN.out]; exact HOq.out, by rw [HN.out]; exact HNE.out, hbq⟩
            case measure => simp [intOf]; omega
      · have hkl : k = l.length := by omega
        have HOb : Hid (IsInts wr vh (lastn n (came n l l.length))) := HOa.out.below hbel
        rw [hkl] at hcs
        have HBW : Hid (Below w.heap.size w wr) := HB2.out.trans (hbel.mono HB2.out.size)
        clear HO hbel
        rcases hcs with ⟨rfl, hce⟩ | ⟨g, gc, m, rfl, hcm, hm1, hms, hmc, hgm, htl⟩ | ⟨g, gc, m, a, rfl, hcm, hm1, ham, hmc, hgm, htl⟩
        · have HTL : Hid (IsInts wr (.slice none 0 0) (lastn n (came n l l.length))) := by unfold Hid; rw [hce, lastn_nil]; exact (OwnI.nil wr 0).isInts
          have hwr : IntKind.i64.wrap ((0 : Int) - (n : Int)) = 0 - (n : Int) := by rw [IntKind.wrap_i64]; omega
          have hwr2 : IntKind.i64.wrap (- (n : Int)) = - (n : Int) := by rw [IntKind.wrap_i64]; omega
          have hneg : (0 : Int) - (n : Int) < 0 := by omega
          have hneg2 : - (n : Int) < 0 := by omega
          clear hce hkl hcl
          go_wp2_with (go_at_call 7; go_must (refine (ints_same _ _ (lastn n (came n l l.length)) _ HOb.out HTL.out).mono ?_; rintro e w4 ⟨rfl, q, rfl⟩))
          go_ret
          exact ⟨rfl, below_drewN HBW.out q⟩
        · have HTL : Hid (IsInts wr (.slice (some ⟨g, 0, none⟩) m gc) (lastn n (came n l l.length))) := htl
          have hml : m ≤ 40 := by rw [hkl, hcm] at hcl; omega
          have hwr : IntKind.i64.wrap ((m : Int) - (n : Int)) = (m : Int) - (n : Int) := by rw [IntKind.wrap_i64]; omega
          have hneg : (m : Int) - (n : Int) < 0 := by omega
          have ha1 : ¬ (gc = 0) := by omega
          clear hcm htl hkl hcl
          unfold maxLen at hgm
          go_wp2_with (go_at_call 7; go_must (refine (ints_same _ _ (lastn n (came n l l.length)) _ HOb.out HTL.out).mono ?_; rintro e w4 ⟨rfl, q, rfl⟩))
          go_ret
          exact ⟨rfl, below_drewN HBW.out q⟩
        · have HTL : Hid (IsInts wr (.slice (some ⟨g, a, none⟩) (m - a) (gc - a)) (lastn n (came n l l.length))) := htl
          have hml : m ≤ 40 := by rw [hkl, hcm] at hcl; omega
          have hwr : IntKind.i64.wrap ((m : Int) - (n : Int)) = (a : Int) := by rw [IntKind.wrap_i64]; omega
          have ha0 : (a : Int) ≤ (m : Int) := by omega
          have ha1 : ¬ (gc = a) := by omega
          clear hcm htl hkl hcl
          unfold maxLen at hgm
          go_wp2_with (go_at_call 7; go_must (refine (ints_same _ _ (lastn n (came n l l.length)) _ HOb.out HTL.out).mono ?_; rintro e w4 ⟨rfl, q, rfl⟩))
          go_ret
          exact ⟨rfl, below_drewN HBW.out q⟩
  · have HE : Hid (errV (chk l s) = .iface 34 (.int .i64 (chk l s))) := errV_pos h0
    have HRB : Hid (fifoB l s = []) := fifoB_bad h0
    have HRL : Hid (fifoL l s = []) := fifoL_bad h0
    clear h0
    go_enter Try.func3, Try.ntmps3
    go_wp2_with (first | (go_at_call 4; go_must (refine (ano_any _).mono ?_; rintro e w1 ⟨rfl, hb1⟩)) | (go_at_call 5; fail))
    refine (run_any _ l s _ (HV.out.below hb1)).mono ?_
    rintro e w2 ⟨vb, vh, rfl, hB, hO, hb2⟩
    rw [HE.out]
    rw [HRB.out] at hB
    rw [HRL.out] at hO
    obtain ⟨ab, cb, rfl⟩ := hB.form
    obtain ⟨ah, ch, rfl⟩ := hO.form
    have HB2 : Hid (Below w.heap.size w w2) := hb1.trans (hb2.mono hb1.size)
    clear hb1 hb2 hB hO
    simp only [List.length_nil]
    go_wp2
    go_ret
    exact ⟨rfl, HB2.out⟩

theorem fifoLast_own : ownKnob Try.prog.godebug = none := by kernel_rfl
theorem fifoLast_laidOut : laidOutB Try.prog = true := by kernel_rfl

set_option maxRecDepth 100000 in
theorem fifoLast_lifted (os : Os) (started : os.Started) (H : Type) (enc : TypeId × Value → H) :
    ReturnsInHanded {} Try.checked os 3 .any (Rows.fifoLastSpec.pre6 enc Try.prog Try.f3 Rows.fifoLastRow.domain false) (Rows.fifoLastSpec.post enc Try.prog Try.f3 false true false false) := by
  refine returnsInHanded_of_change (C := Try.checked) fifoLast_own started (by kernel_rfl) Try.func3
    (ChangeSpec.witness6 (enc := enc) (C := Try.checked) false ⟨#[], #[.slice none 0 0, .int .i64 0], []⟩ 8 (by kernel_rfl) (by kernel_rfl) (by kernel_rfl) (by kernel_rfl)) ?_
  intro W base args ds gs before hval0 hW _ _
  have hval : ∀ (j : Nat) t v, Try.f3.params[j]? = some t → args[j]? = some v → Value.okWide Try.prog W .any base t v := hval0
  have hW' : DataW.Whole enc Try.prog Try.f3.params.toList Rows.fifoLastSpec.vars false W args.toList ds gs before := hW
  obtain ⟨p, q, hA0, hV, rfl, hfz, hnd⟩ := hW
  have hA : DataW.TrodAll enc Try.prog W 0 (fun _ => true) true Try.f3.params.toList args.toList ds p := hA0
  rw [Try.params3] at hA hval
  obtain ⟨v0, vs0, d0, ds0, p0, q0, hargs, rfl, rfl, h0, r0⟩ := trodAll_cons hA
  obtain ⟨v1, vs1, d1, ds1, p1, q1, rfl, rfl, rfl, h1, r1⟩ := trodAll_cons r0
  obtain ⟨rfl, rfl, rfl⟩ := trodAll_nil r1
  obtain rfl : args = #[v0, v1] := by cases args; simp_all
  obtain ⟨rfl, rfl⟩ := trodVars_none hV
  obtain ⟨n1, rfl, rfl, rfl, wn1⟩ := open_int Try.underlying3 (hval 1 3 v1 rfl rfl) h1
  obtain ⟨l0, ao0, cap0, hv0, hl0⟩ := arg_ints Try.underlying22 Try.underlying3 (by kernel_rfl) (hval 0 22 v0 rfl rfl) h0
  clear hA0 hval0
  refine (last_any v0 l0 n1 W hl0 ⟨ao0, cap0, hv0⟩).mono fun e W' ⟨he, hb⟩ => ?_
  subst he
  exact ⟨_, rfl, law_post hW' hb fifoLast_laidOut rfl (by kernel_rfl) (by kernel_rfl) Try.underlying4 rfl rfl rfl⟩

theorem fifoLast_holds : Rows.FifoLastSaid :=
  OpenClaim.holds_of_wide 3 Try.f3 rfl rfl rfl rfl rfl rfl rfl ⟨rfl, rfl, rfl, rfl, rfl⟩ rfl rfl rfl rfl rfl (by kernel_rfl) Try.func3 (by kernel_rfl)
    (of_decide_eq_true (by kernel_rfl)) (by unfold Func.isWrapper; first | (rw [if_pos (by decide +kernel)]; kernel_rfl) | (rw [if_neg (by decide +kernel)]; exact ⟨rfl, rfl⟩))
    (fun os started H enc _ => fifoLast_lifted os started H enc)
end Go.Proofs.Ytmkpjhopjghdlaa
