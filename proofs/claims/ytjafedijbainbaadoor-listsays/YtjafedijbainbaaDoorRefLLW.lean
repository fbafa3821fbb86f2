/- The walk of the document's answer (larderwickref1): LeastList. -/
import Derived.Test.YtjafedijbainbaaDoorRefLL
import Derived.Test.YtjafedijbainbaaDoorOLeast
import Derived.Test.YtjafedijbainbaaDoorQuietLast
import Derived.Deep.RegionWith
import Derived.Deep.RegionHeld3
namespace Go.Proofs.YtjafedijbainbaaDoor
set_option maxRecDepth 100000
open Go.RowKit Go.Sort

def LMRel (w1 : World) (n : Nat) (l : List Int) (vn i : Value) (wr : World) : Prop :=
  ∃ (k gn : Nat) (T : Nat → Option Nat), k ≤ l.length ∧ i = .int .i64 (k : Nat) ∧ vn = .slice (some ⟨gn, 0, none⟩) (rowsL n).length (rowsL n).length ∧ Own1 w1 wr gn (rowsL n).length T ∧ ITab n l k T
set_option maxHeartbeats 4000000 in
theorem rleastl_any (n : Nat) (v : Value) (l : List Int) (w : World) (hv : IsInts w v l) (hc0 : chkL n l = 0) :
    Calls Tryd.prog 8 #[.int .i64 (n : Nat), v] w fun e w' => ∃ x : Nat, e = .returned (.int .i64 (x : Nat)) ∧ LeastLook (Un n) l x ∧ Below w.heap.size w w' := by
  have F := chkL_zero hc0
  have hn1 : 1 ≤ n := by have := F.low; omega
  have hn4 : n ≤ 4 := by have := F.low; omega
  have hl40 := F.reqs
  have HIN : Hid (∀ p, p ∈ l → p ∈ Un n) := thing_in F
  have HN : Hid (1 ≤ n ∧ n ≤ 4) := ⟨hn1, hn4⟩
  have HF : Hid (FineL (n : Int) l) := F
  have HFW : Hid ((rowsL n).length ≤ 24 ∧ ∀ r, r ∈ rowsL n → r.length = n) := rowsL_few hn4
  have hR1 : 1 ≤ (rowsL n).length := List.length_pos_iff.2 fun e => by
    have h := (rowsL_row hn1 hn4).2 ⟨Un_nodup n, fun _ => Iff.rfl⟩
    rw [e] at h; cases h
  have hR24 := HFW.out.1
  obtain ⟨ao, cap, rfl, hcap, ho⟩ := hv.opened
  have HO : Hid (∀ k, k < l.length → ∃ b off, ao = some ⟨b, off, none⟩ ∧ l.length ≤ cap ∧ b < w.heap.size ∧ ∀ j, j < l.length → w.cell? ⟨b, off + j, none⟩ = some (.int .i64 (l[j]?.getD 0))) := ho
  clear ho hv hc0 F
  unfold maxLen at hcap
  go_enter Tryd.func8, Tryd.ntmps8
  go_wp2_with (go_at_call 20; fail)
  refine (rrows_any n hn4 w).mono ?_
  rintro e w1 ⟨vr, rfl, hO, hb1⟩
  have HB1 : Hid (Below w.heap.size w w1) := hb1
  obtain ⟨ar, cr, rfl, hlc, hcr, hop⟩ := hO.opened
  obtain ⟨gr, rfl, _, _⟩ := hop 0 hR1
  have HROW : Hid (RowsIn w1 gr (rowsL n)) := fun k hk => by
    obtain ⟨g, hg, _, u, hu, hi⟩ := hop k hk
    cases hg
    exact ⟨u, hu, hi.isInts⟩
  have hmk := fun w : World => makeR w (R := (rowsL n).length) (by omega)
  have HZ : Hid (Own1 w1 (w1.alloc (.cells (madeCells #[.int .i64 0] (rowsL n).length) 3)) w1.heap.size (rowsL n).length (fun _ => some 0)) := zerosR w1 (by omega)
  clear hop hO hb1
  unfold maxLen at hcr
  obtain ⟨R, hR⟩ : ∃ R, (rowsL n).length = R := ⟨_, rfl⟩
  have HRL : Hid ((rowsL n).length = R) := hR
  rw [hR] at hR1 hR24 hlc hmk ⊢
  clear hR
  obtain ⟨gn, hgn⟩ : ∃ gn, w1.heap.size = gn := ⟨_, rfl⟩
  have HGN : Hid (w1.heap.size = gn) := hgn
  have HI0 : Hid (Own1 w1 (w1.alloc (.cells (madeCells #[.int .i64 0] R) 3)) gn R (initTo n 0)) := by
    have h := HZ.out
    rw [HRL.out, hgn] at h
    exact h.congr fun m _ => by unfold initTo; rw [if_neg (Nat.not_lt_zero _)]
  clear HZ
  go_wp2
  go_loopw [7] (fun i wr => ∃ k : Nat, k ≤ R ∧ i = .int .i64 (k : Nat) ∧ Own1 w1 wr gn R (initTo n k)) (fun i _ => R - (intOf i).toNat)
  case atStart => exact ⟨0, Nat.zero_le _, rfl, HI0.out⟩
  case round =>
    clear HI0
    obtain ⟨k, hk, rfl, hO⟩ := hrel
    by_cases hlt : k < R
    · -- <<A
      have hcl := hO.cell hlt
      have hfz := hO.soft k
      have HO1 : Hid (Own1 w1 (wr.setCell ⟨gn, k, none⟩ (.int .i64 (-1))) gn R (updO (initTo n k) k none)) := hO.set k none
      clear hO
      generalize vN (initTo n k k) = z0 at *
      have hRW := HROW.out.later HO1.out.below
      obtain ⟨u, hcu, hiu⟩ := hRW k (by rw [HRL.out]; exact hlt)
      have hlen : (rowAt (rowsL n) k).length = n := HFW.out.2 _ (rowAt_mem (by rw [HRL.out]; exact hlt))
      obtain ⟨au, cau, rfl, _, _⟩ := hiu.opened
      rw [hlen] at hcu hiu
      have HIU : Hid (IsInts (wr.setCell ⟨gn, k, none⟩ (.int .i64 (-1))) (.slice au n cau) (rowAt (rowsL n) k)) := hiu
      have HSW : Hid (∀ (vc : Value) (w : World), IsInts w (.slice au n cau) (rowAt (rowsL n) k) → IsInts w vc (Un n) → Calls Tryd.prog 21 #[.slice au n cau, vc] w fun e w' => e = .returned (.int .i64 (swp (rowAt (rowsL n) k) (Un n) n : Nat)) ∧ ∃ q, w' = w.drewN q) := fun vc w h1 h2 => by
        have := rswaps_any (.slice au n cau) vc (rowAt (rowsL n) k) (Un n) w h1 h2 (fun x hx => (((rowsL_row HN.out.1 HN.out.2).1 (rowAt_mem (by rw [HRL.out]; exact hlt))).mem x).1 hx) (by rw [hlen]; have := HN.out; omega) (by rw [Un_length]; have := HN.out; omega)
        rwa [hlen] at this
      clear hRW hiu hlen
      have HST : Hid (swp (rowAt (rowsL n) k) (Un n) n = 0 → zeroTo n k = some 0) := fun h => by unfold zeroTo; rw [if_pos h]
      have HSF : Hid (swp (rowAt (rowsL n) k) (Un n) n ≠ 0 → zeroTo n k = none) := fun h => by unfold zeroTo; rw [if_neg h]
      generalize swp (rowAt (rowsL n) k) (Un n) n = S at *
      by_cases hS : S = 0
      · subst hS
        have HZT : Hid (zeroTo n k = some 0) := HST.out rfl
        clear HST HSF
        go_wp2
        clear hcl hfz
        generalize wr.setCell ⟨gn, k, none⟩ (.int .i64 (-1)) = w2 at *
        go_region_with (first | (go_at_call 16; go_must (refine (rcount_any n (by have := HN.out; omega) _).mono ?_; rintro e w3 ⟨vc, rfl, hOc, hbc⟩; have hcu3 : w3.cell? ⟨gr, k, none⟩ = some (.slice au n cau) := (hbc.cell (p := ⟨gr, k, none⟩) (World.block_lt_of_cell? _ _ hcu)).trans hcu; have HIU3 : Hid (IsInts w3 (.slice au n cau) (rowAt (rowsL n) k)) := (show IsInts w2.drew (.slice au n cau) (rowAt (rowsL n) k) from HIU.out).below hbc; have HC3 : Hid (IsInts w3 vc (Un n)) := hOc.isInts; have HO3 : Hid (Own1 w1 w3 gn R (updO (initTo n k) k none)) := HO1.out.later ((show Below w2.heap.size w2 w2.drew from (Below.refl _ _).drew).trans hbc); have hcl3 := HO3.out.cell hlt; have hfz3 := HO3.out.soft k; generalize vN (updO (initTo n k) k none k) = z3 at *; clear hOc hbc)) | (go_at_call 21; go_must (refine (HSW.out _ _ HIU3.out HC3.out).mono ?_; rintro e w4 ⟨rfl, q, rfl⟩)))
        all_goals
          go_wp2
          go_roundw
          case rel => exact ⟨k + 1, by omega, by go_num, ((HO3.out.later (below_drewN (Below.refl _ _) _)).set k (some 0)).congr (initTo_succ HZT.out.symm)⟩
          case measure => simp [intOf]; omega
      · have HZT : Hid (zeroTo n k = none) := HSF.out hS
        have hS0 : ((S : Int) == 0) = false := by rw [beq_eq_false_iff_ne]; omega
        clear HST HSF
        go_wp2
        clear hcl hfz
        generalize wr.setCell ⟨gn, k, none⟩ (.int .i64 (-1)) = w2 at *
        go_region_with (first | (go_at_call 16; go_must (refine (rcount_any n (by have := HN.out; omega) _).mono ?_; rintro e w3 ⟨vc, rfl, hOc, hbc⟩; have hcu3 : w3.cell? ⟨gr, k, none⟩ = some (.slice au n cau) := (hbc.cell (p := ⟨gr, k, none⟩) (World.block_lt_of_cell? _ _ hcu)).trans hcu; have HIU3 : Hid (IsInts w3 (.slice au n cau) (rowAt (rowsL n) k)) := (show IsInts w2.drew (.slice au n cau) (rowAt (rowsL n) k) from HIU.out).below hbc; have HC3 : Hid (IsInts w3 vc (Un n)) := hOc.isInts; have HO3 : Hid (Own1 w1 w3 gn R (updO (initTo n k) k none)) := HO1.out.later ((show Below w2.heap.size w2 w2.drew from (Below.refl _ _).drew).trans hbc); have hcl3 := HO3.out.cell hlt; have hfz3 := HO3.out.soft k; generalize vN (updO (initTo n k) k none k) = z3 at *; clear hOc hbc)) | (go_at_call 21; go_must (refine (HSW.out _ _ HIU3.out HC3.out).mono ?_; rintro e w4 ⟨rfl, q, rfl⟩)))
        all_goals
          go_wp2
          go_roundw
          case rel => exact ⟨k + 1, by omega, by go_num, (HO3.out.later (below_drewN (Below.refl _ _) _)).congr (initTo_none HZT.out)⟩
          case measure => simp [intOf]; omega
      -- >>A
    · have hkR : R = k := by omega
      subst hkR
      have HR0 : Hid (LMRel w1 n l (.slice (some ⟨gn, 0, none⟩) R R) (.int .i64 0) wr) := ⟨0, gn, initTo n R, Nat.zero_le _, rfl, by rw [HRL.out], by rw [HRL.out]; exact hO, itab_start HN.out.1 HN.out.2 l (by rw [← HRL.out]; exact initTo_all)⟩
      clear hO HGN hgn
      go_wp2
      go_loopw [6, 8] (fun vn i wr => LMRel w1 n l vn i wr) (fun _ i _ => l.length - (intOf i).toNat)
      case atStart => exact HR0.out
      case round =>
        clear HR0
        obtain ⟨i, gn, N, hi, rfl, rfl, hOwn, hTab⟩ := hrel
        rw [HRL.out] at hOwn ⊢
        by_cases hli : i < l.length
        · obtain ⟨br, off, rfl, hlcr, hbw, hcell⟩ := HO.out i hli
          have hb1w := HB1.out.size
          have hcx : wr.cell? ⟨br, off + i, none⟩ = some (.int .i64 (l[i]?.getD 0)) := (hOwn.below.cell (p := ⟨br, off + i, none⟩) (by exact Nat.lt_of_lt_of_le hbw hb1w)).trans ((HB1.out.cell (p := ⟨br, off + i, none⟩) hbw).trans (hcell i hli))
          have hxU : l[i]?.getD 0 ∈ Un n := asked_in HIN.out hli
          have HXU : Hid (l[i]?.getD 0 ∈ Un n) := hxU
          have HX : Hid (∃ x, l[i]?.getD 0 = x) := ⟨_, rfl⟩
          have HOW : Hid (Own1 w1 wr gn R N) := hOwn
          have HTAB : Hid (ITab n l i N) := hTab
          have HRW : Hid (RowsIn wr gr (rowsL n)) := HROW.out.later hOwn.below
          have HNB : Hid (∀ j x, j < R → N j = some x → x ≤ 800) := fun j x hj e => by
            have := itab_lt HN.out.1 HN.out.2 HIN.out hTab j x (by rw [HRL.out]; exact hj) e
            omega
          have HT0 : Hid (Two wr ((wr.alloc (.cells (madeCells #[.int .i64 0] R) 3)).alloc (.cells (madeCells #[.int .i64 0] R) 3)) wr.heap.size (wr.heap.size + 1) R (midTo n N R 0) (thenTo 0)) := (twoNew wr (by omega)).congr (fun m _ => by unfold midTo; rw [if_neg (Nat.not_lt_zero _)]) (fun m _ => by unfold thenTo; rw [if_neg (Nat.not_lt_zero _)])
          clear hOwn hTab hcell hbw hxU
          generalize hxx : l[i]?.getD 0 = x at *
          have HXX : Hid (l[i]?.getD 0 = x) := hxx
          clear hxx
          go_wp2
          have hsz : (wr.alloc (.cells (madeCells #[.int .i64 0] R) 3)).heap.size = wr.heap.size + 1 := by simp
          first | rw [hsz] | skip
          generalize (wr.alloc (.cells (madeCells #[.int .i64 0] R) 3)).alloc (.cells (madeCells #[.int .i64 0] R) 3) = wB at *
          generalize hgm : wr.heap.size = gm at *
          have HGM : Hid (wr.heap.size = gm) := hgm
          clear hgm
          generalize gm + 1 = gt at *
          clear hsz
          obtain ⟨wA, hwA⟩ : ∃ wA, wA = wr := ⟨_, rfl⟩
          subst hwA
          have hGN := HOW.out.lt
          have HCX : Hid (∀ w' : World, Below wA.heap.size wA w' → w'.cell? ⟨br, off + i, none⟩ = some (.int .i64 x)) := fun w' hb => (hb.cell (p := ⟨br, off + i, none⟩) (World.block_lt_of_cell? wA _ hcx)).trans hcx
          clear hcx
          have HNOW : Hid (∀ w' : World, Below wA.heap.size wA w' → ∀ j, j < R → w'.cell? ⟨gn, j, none⟩ = some (.int .i64 (vN (N j)))) := fun w' hb j hj => (hb.cell (p := ⟨gn, j, none⟩) hGN).trans (HOW.out.cell hj)
          clear hGN
          go_loopw [11] (fun i wr => ∃ k : Nat, k ≤ R ∧ i = .int .i64 (k : Nat) ∧ Two wA wr gm gt R (midTo n N R k) (thenTo k)) (fun i _ => R - (intOf i).toNat)
          case atStart => exact ⟨0, Nat.zero_le _, rfl, HT0.out⟩
          case round =>
            clear HT0
            obtain ⟨k, hk, rfl, hT⟩ := hrel
            by_cases hkl : k < R
            · -- <<B
              have hcm := hT.m.cell hkl
              have hfm := hT.m.soft k
              have hT1 := hT.setM k none
              have hct := hT1.t.cell hkl
              have hft := hT1.t.soft k
              have hT2 := (hT1.setT k none).congr (fun m _ => (rfl : _ = updO (midTo n N R k) k (lowN (midG n N k) 0) m)) thenTo_succ
              have HT2 : Hid (Two wA ((wr.setCell ⟨gm, k, none⟩ (.int .i64 (-1))).setCell ⟨gt, k, none⟩ (.int .i64 (-1))) gm gt R (updO (midTo n N R k) k (lowN (midG n N k) 0)) (thenTo (k+1))) := hT2
              have hct : (wr.setCell ⟨gm, k, none⟩ (.int .i64 (-1))).cell? ⟨gt, k, none⟩ = some (.int .i64 (vN (thenTo k k))) := hct
              have hft : (wr.setCell ⟨gm, k, none⟩ (.int .i64 (-1))).frozen? ⟨gt, k, none⟩ = false := hft
              clear hT hT1 hT2
              generalize vN (thenTo k k) = z1 at *
              generalize vN (midTo n N R k k) = z2 at *
              go_wp2
              go_loopw [12] (fun i wr => ∃ j : Nat, j ≤ R ∧ i = .int .i64 (j : Nat) ∧ Two wA wr gm gt R (updO (midTo n N R k) k (lowN (midG n N k) j)) (thenTo (k+1))) (fun i _ => R - (intOf i).toNat)
              case atStart => exact ⟨0, Nat.zero_le _, rfl, HT2.out⟩
              case round =>
                clear HT2 hcm hfm hct hft
                obtain ⟨j, hj, rfl, hT⟩ := hrel
                by_cases hjl : j < R
                · have hcm := hT.m.cell hkl
                  have hfm := hT.m.soft k
                  rw [updO_at] at hcm
                  have hcn := HNOW.out wr hT.m.below j hjl
                  have HT : Hid (Two wA wr gm gt R (updO (midTo n N R k) k (lowN (midG n N k) j)) (thenTo (k+1))) := hT
                  cases hNj : N j with
                  | none =>
                    rw [hNj] at hcn
                    have HL : Hid (lowN (midG n N k) (j+1) = lowN (midG n N k) j) := lowN_none (by unfold midG; rw [hNj]; rfl)
                    have hcn2 : wr.cell? ⟨gn, j, none⟩ = some (.int .i64 (-1)) := hcn
                    clear hT hcn hNj hcm hfm
                    go_wp2
                    go_roundw
                    case rel => exact ⟨j + 1, by omega, by go_num, by rw [HL.out]; exact HT.out⟩
                    case measure => simp [intOf]; omega
                  | some x0 =>
                    rw [hNj] at hcn
                    have hcn2 : wr.cell? ⟨gn, j, none⟩ = some (.int .i64 (x0 : Nat)) := hcn
                    have hx8 := HNB.out j x0 hjl hNj
                    have HL : Hid (lowN (midG n N k) (j+1) = minO (lowN (midG n N k) j) (x0 + swp (rowAt (rowsL n) j) (rowAt (rowsL n) k) n)) := lowN_some (by unfold midG; rw [hNj]; rfl)
                    have hsm := swp_most (A := rowAt (rowsL n) j) (B := rowAt (rowsL n) k) hn4
                    obtain ⟨uj, hcj0, hij0⟩ := HRW.out j (by rw [HRL.out]; exact hjl)
                    obtain ⟨uk, hck0, hik0⟩ := HRW.out k (by rw [HRL.out]; exact hkl)
                    have hmj : rowAt (rowsL n) j ∈ rowsL n := rowAt_mem (by rw [HRL.out]; exact hjl)
                    have hmk2 : rowAt (rowsL n) k ∈ rowsL n := rowAt_mem (by rw [HRL.out]; exact hkl)
                    obtain ⟨auj, cauj, rfl, _, _⟩ := hij0.opened
                    obtain ⟨auk, cauk, rfl, _, _⟩ := hik0.opened
                    rw [HFW.out.2 _ hmj] at hcj0 hij0
                    rw [HFW.out.2 _ hmk2] at hck0 hik0
                    have hij : IsInts wr (.slice auj n cauj) (rowAt (rowsL n) j) := isInts_below hij0 hT.m.below
                    have hik : IsInts wr (.slice auk n cauk) (rowAt (rowsL n) k) := isInts_below hik0 hT.m.below
                    have HCS : Hid (∀ w' : World, Below wA.heap.size wA w' → w'.cell? ⟨gn, j, none⟩ = some (.int .i64 (x0 : Nat)) ∧ w'.cell? ⟨gr, j, none⟩ = some (.slice auj n cauj) ∧ w'.cell? ⟨gr, k, none⟩ = some (.slice auk n cauk)) := fun w' hb =>
                      ⟨by have := HNOW.out w' hb j hjl; rw [hNj] at this; exact this, (hb.cell (p := ⟨gr, j, none⟩) (World.block_lt_of_cell? wA _ hcj0)).trans hcj0, (hb.cell (p := ⟨gr, k, none⟩) (World.block_lt_of_cell? wA _ hck0)).trans hck0⟩
                    obtain ⟨_, hcj, hck⟩ := HCS.out wr hT.m.below
                    have HSW : Hid (∀ w : World, w.heap = wr.heap → Calls Tryd.prog 21 #[.slice auj n cauj, .slice auk n cauk] w fun e w' => e = .returned (.int .i64 (swp (rowAt (rowsL n) j) (rowAt (rowsL n) k) n : Nat)) ∧ ∃ q, w' = w.drewN q) := fun w h => by
                      have := swaps_at hij hik (fun x hx => (((rowsL_row HN.out.1 HN.out.2).1 hmk2).mem x).2 ((((rowsL_row HN.out.1 HN.out.2).1 hmj).mem x).1 hx)) (by rw [HFW.out.2 _ hmj]; omega) (by rw [HFW.out.2 _ hmk2]; omega) w h
                      rwa [HFW.out.2 _ hmj] at this
                    have HLS : Hid (∀ w, Calls Tryd.prog 22 #[.int .i64 (vN (lowN (midG n N k) j)), .int .i64 ((x0 + swp (rowAt (rowsL n) j) (rowAt (rowsL n) k) n : Nat) : Int)] w fun e w' => e = .returned (.int .i64 (vN (minO (lowN (midG n N k) j) (x0 + swp (rowAt (rowsL n) j) (rowAt (rowsL n) k) n)))) ∧ w' = w) := fun w => lesser_any _ _ w
                    have HFIN : Hid (∀ w' : World, Below wr.heap.size wr w' → Two wA (w'.setCell ⟨gm, k, none⟩ (.int .i64 (vN (minO (lowN (midG n N k) j) (x0 + swp (rowAt (rowsL n) j) (rowAt (rowsL n) k) n))))) gm gt R (updO (midTo n N R k) k (lowN (midG n N k) (j+1))) (thenTo (k+1))) := fun w' hb => by
                      rw [HL.out]
                      exact ((HT.out.later hb).setM k _).congr updO_twice (fun _ _ => rfl)
                    clear hT hcn hNj hij hik hij0 hik0 hcj0 hck0 hmj hmk2 HL HT HCS
                    generalize hS : swp (rowAt (rowsL n) j) (rowAt (rowsL n) k) n = S at *
                    clear hS
                    have hwS : IntKind.i64.wrap ((x0 : Int) + (S : Int)) = ((x0 + S : Nat) : Int) := by rw [IntKind.wrap_i64]; omega
                    generalize vN (minO (lowN (midG n N k) j) (x0 + S)) = u2 at *
                    generalize x0 + S = y at *
                    generalize vN (lowN (midG n N k) j) = u1 at *
                    go_wp2
                    refine wp_region_quiet_last 22 (by kernel_rfl) (by kernel_rfl) ?_
                    simp only [List.take_succ_cons, List.take_zero, List.drop_succ_cons, List.drop_zero]
                    repeat (go_big_quiet_step ((first | (go_at_call 21; exact Calls.quiet_of (HSW.out _ (by rfl))) | (go_at_call 22; exact Calls.quiet_of_same (HLS.out _)))))
                    refine wpQuiet_nil ?_
                    intro _ hw'
                    obtain ⟨nq, hw''⟩ := hw'
                    subst hw''

                    all_goals
                      go_wp2
                      go_roundw
                      case rel => exact ⟨j + 1, by omega, by go_num, HFIN.out _ (below_drewN (Below.refl _ _) _)⟩
                      case measure => simp [intOf]; omega
                · have hjR : R = j := by omega
                  subst hjR
                  have HR : Hid (Two wA wr gm gt R (midTo n N R (k+1)) (thenTo (k+1))) := hT.congr midTo_succ (fun _ _ => rfl)
                  clear hT
                  go_wp2
                  go_roundw
                  case rel => exact ⟨k + 1, by omega, by go_num, HR.out⟩
                  case measure => simp [intOf]; omega
              -- >>B
            · have hkR : R = k := by omega
              subst hkR
              obtain ⟨M, hM⟩ := mid_some HIN.out hi HTAB.out
              rw [HRL.out] at hM
              have HM : Hid (∀ j, j < R → lowN (midG n N j) R = some (M j)) := hM
              have HMB : Hid (∀ j, j < R → M j ≤ 820) := fun j hj => mid_bound HN.out.2 HNB.out (hM j hj)
              have HU0 : Hid (Two wA wr gm gt R (fun m => some (M m)) (thenT n x M R 0)) := hT.congr (fun m hm => by unfold midTo; rw [if_pos hm]; exact hM m hm) (fun m hm => by unfold thenTo thenT; rw [if_pos hm, if_neg (Nat.not_lt_zero _)])
              clear hT hM
              go_wp2
              go_loopw [13] (fun i wr => ∃ k : Nat, k ≤ R ∧ i = .int .i64 (k : Nat) ∧ Two wA wr gm gt R (fun m => some (M m)) (thenT n x M R k)) (fun i _ => R - (intOf i).toNat)
              case atStart => exact ⟨0, Nat.zero_le _, rfl, HU0.out⟩
              case round =>
                clear HU0
                obtain ⟨k, hk, rfl, hT⟩ := hrel
                by_cases hkl : k < R
                · have HT2 : Hid (Two wA wr gm gt R (fun m => some (M m)) (updO (thenT n x M R k) k (lowN (fwG n x M k) 0))) := hT.congr (fun _ _ => rfl) thenT_none
                  clear hT
                  go_wp2
                  go_loopw [14] (fun i wr => ∃ j : Nat, j ≤ R ∧ i = .int .i64 (j : Nat) ∧ Two wA wr gm gt R (fun m => some (M m)) (updO (thenT n x M R k) k (lowN (fwG n x M k) j))) (fun i _ => R - (intOf i).toNat)
                  case atStart => exact ⟨0, Nat.zero_le _, rfl, HT2.out⟩
                  case round =>
                    clear HT2
                    obtain ⟨j, hj, rfl, hT⟩ := hrel
                    by_cases hjl : j < R
                    · obtain ⟨uj, hcj0, hij0⟩ := HRW.out j (by rw [HRL.out]; exact hjl)
                      obtain ⟨uk, hck0, hik0⟩ := HRW.out k (by rw [HRL.out]; exact hkl)
                      have hmj : rowAt (rowsL n) j ∈ rowsL n := rowAt_mem (by rw [HRL.out]; exact hjl)
                      have hmk2 : rowAt (rowsL n) k ∈ rowsL n := rowAt_mem (by rw [HRL.out]; exact hkl)
                      have hxj : x ∈ rowAt (rowsL n) j := (((rowsL_row HN.out.1 HN.out.2).1 hmj).mem x).2 HXU.out
                      have hxk : x ∈ rowAt (rowsL n) k := (((rowsL_row HN.out.1 HN.out.2).1 hmk2).mem x).2 HXU.out
                      obtain ⟨auj, cauj, rfl, _, _⟩ := hij0.opened
                      obtain ⟨auk, cauk, rfl, _, _⟩ := hik0.opened
                      have hpj : pos (rowAt (rowsL n) j) x < n := by have := pos_lt hxj; rwa [HFW.out.2 _ hmj] at this
                      rw [HFW.out.2 _ hmj] at hcj0 hij0
                      rw [HFW.out.2 _ hmk2] at hck0 hik0
                      have HCS : Hid (∀ w' : World, Below wA.heap.size wA w' → w'.cell? ⟨gr, j, none⟩ = some (.slice auj n cauj) ∧ w'.cell? ⟨gr, k, none⟩ = some (.slice auk n cauk) ∧ w'.cell? ⟨br, off + i, none⟩ = some (.int .i64 x)) := fun w' hb =>
                        ⟨(hb.cell (p := ⟨gr, j, none⟩) (World.block_lt_of_cell? wA _ hcj0)).trans hcj0, (hb.cell (p := ⟨gr, k, none⟩) (World.block_lt_of_cell? wA _ hck0)).trans hck0, HCX.out w' hb⟩
                      have HFD : Hid (∀ w' : World, Below wA.heap.size wA w' → Calls Tryd.prog 23 #[.slice auj n cauj, .slice auk n cauk, .int .i64 x] w' fun e w'' => e = .returned (.bool (fwB (rowAt (rowsL n) j) (rowAt (rowsL n) k) x)) ∧ Below w'.heap.size w' w'') := fun w' hb =>
                        rforward_any _ _ _ _ x w' (isInts_below hij0 hb) (isInts_below hik0 hb) hxj hxk (by rw [HFW.out.2 _ hmj]; have := HN.out; omega) (by rw [HFW.out.2 _ hmj, HFW.out.2 _ hmk2])
                      have HPL : Hid (∀ w' : World, Below wA.heap.size wA w' → Calls Tryd.prog 17 #[.slice auj n cauj, .int .i64 x] w' fun e w'' => e = .returned (.int .i64 (pos (rowAt (rowsL n) j) x : Nat)) ∧ w'' = w') := fun w' hb => by rw [← plc_pos hxj]; exact rplace_any _ _ x w' (isInts_below hij0 hb)
                      obtain ⟨hcj, hck, hcx⟩ := HCS.out wr hT.m.below
                      have HT : Hid (Two wA wr gm gt R (fun m => some (M m)) (updO (thenT n x M R k) k (lowN (fwG n x M k) j))) := hT
                      have hMj := HMB.out j hjl
                      clear hT hcj0 hck0 hij0 hik0 hmj hmk2 hxj hxk
                      cases hf : fwB (rowAt (rowsL n) j) (rowAt (rowsL n) k) x
                      · have HL : Hid (lowN (fwG n x M k) (j+1) = lowN (fwG n x M k) j) := lowN_none (by unfold fwG; rw [hf]; rfl)
                        rw [hf] at HFD
                        clear hf
                        go_wp2
                        refine wp_region_quiet_last 12 (by kernel_rfl) (by kernel_rfl) ?_
                        simp only [List.take_succ_cons, List.take_zero, List.drop_succ_cons, List.drop_zero]
                        repeat (go_big_quiet_step (fail))
                        refine wpQuiet_nil ?_
                        intro _ hw'
                        obtain ⟨nq, hw''⟩ := hw'
                        subst hw''
                        go_wp2_with (go_at_call 23; fail)
                        refine (HFD.out _ (below_drewN HT.out.m.below _)).mono ?_
                        rintro e w5 ⟨rfl, hb5⟩
                        have HT5 : Hid (Two wA w5 gm gt R (fun m => some (M m)) (updO (thenT n x M R k) k (lowN (fwG n x M k) (j+1)))) := by rw [HL.out]; exact (HT.out.later (below_drewN (Below.refl _ wr) _)).later hb5
                        clear hb5 hcj hck hcx
                        go_wp2
                        go_roundw
                        case rel => exact ⟨j + 1, by omega, by go_num, HT5.out⟩
                        case measure => simp [intOf]; omega
                      · have HL : Hid (lowN (fwG n x M k) (j+1) = minO (lowN (fwG n x M k) j) (M j + pos (rowAt (rowsL n) j) x + 1)) := lowN_some (by unfold fwG; rw [hf, if_pos rfl])
                        rw [hf] at HFD
                        clear hf
                        go_wp2
                        refine wp_region_quiet_last 12 (by kernel_rfl) (by kernel_rfl) ?_
                        simp only [List.take_succ_cons, List.take_zero, List.drop_succ_cons, List.drop_zero]
                        repeat (go_big_quiet_step (fail))
                        refine wpQuiet_nil ?_
                        intro _ hw'
                        obtain ⟨nq, hw''⟩ := hw'
                        subst hw''
                        go_wp2_with (go_at_call 23; fail)
                        refine (HFD.out _ (below_drewN HT.out.m.below _)).mono ?_
                        rintro e w5 ⟨rfl, hb5⟩
                        have HT5 : Hid (Two wA w5 gm gt R (fun m => some (M m)) (updO (thenT n x M R k) k (lowN (fwG n x M k) j))) := (HT.out.later (below_drewN (Below.refl _ wr) _)).later hb5
                        have HFIN : Hid (∀ w' : World, Below w5.heap.size w5 w' → Two wA (w'.setCell ⟨gt, k, none⟩ (.int .i64 (vN (minO (lowN (fwG n x M k) j) (M j + pos (rowAt (rowsL n) j) x + 1))))) gm gt R (fun m => some (M m)) (updO (thenT n x M R k) k (lowN (fwG n x M k) (j+1)))) := fun w' hb => by
                          rw [HL.out]
                          exact ((HT5.out.later hb).setT k _).congr (fun _ _ => rfl) updO_twice
                        have HLS : Hid (∀ w, Calls Tryd.prog 22 #[.int .i64 (vN (lowN (fwG n x M k) j)), .int .i64 ((M j + pos (rowAt (rowsL n) j) x + 1 : Nat) : Int)] w fun e w' => e = .returned (.int .i64 (vN (minO (lowN (fwG n x M k) j) (M j + pos (rowAt (rowsL n) j) x + 1)))) ∧ w' = w) := fun w => lesser_any _ _ w
                        clear hb5 hcj hck hcx HT HL
                        obtain ⟨hcj, hck, hcx⟩ := HCS.out w5 HT5.out.m.below
                        have hmid : w5.cell? ⟨gm, j, none⟩ = some (.int .i64 (M j : Nat)) := HT5.out.m.cell hjl
                        have hthen := HT5.out.t.cell hkl
                        have hsoft := HT5.out.t.soft k
                        rw [updO_at] at hthen
                        generalize pos (rowAt (rowsL n) j) x = pj at *
                        have hw1 : IntKind.i64.wrap ((M j : Int) + (pj : Int)) = ((M j + pj : Nat) : Int) := by rw [IntKind.wrap_i64]; omega
                        have hw2 : IntKind.i64.wrap (((M j + pj : Nat) : Int) + 1) = ((M j + pj + 1 : Nat) : Int) := by rw [IntKind.wrap_i64]; omega
                        generalize vN (minO (lowN (fwG n x M k) j) (M j + pj + 1)) = u2 at *
                        generalize M j + pj + 1 = y at *
                        generalize M j + pj = y1 at *
                        generalize vN (lowN (fwG n x M k) j) = u1 at *
                        go_wp2
                        refine wp_region_quiet_last 23 (by kernel_rfl) (by kernel_rfl) ?_
                        simp only [List.take_succ_cons, List.take_zero, List.drop_succ_cons, List.drop_zero]
                        repeat (go_big_quiet_step ((first | (go_at_call 17; exact Calls.quiet_of_same (HPL.out _ (below_drewN HT5.out.m.below _))) | (go_at_call 22; exact Calls.quiet_of_same (HLS.out _)))))
                        refine wpQuiet_nil ?_
                        intro _ hw'
                        obtain ⟨nq, hw''⟩ := hw'
                        subst hw''
                        go_wp2
                        go_roundw
                        case rel => exact ⟨j + 1, by omega, by go_num, HFIN.out _ (below_drewN (Below.refl _ _) _)⟩
                        case measure => simp [intOf]; omega
                    · have hjR : R = j := by omega
                      subst hjR
                      have HR : Hid (Two wA wr gm gt R (fun m => some (M m)) (thenT n x M R (k+1))) := hT.congr (fun _ _ => rfl) thenT_succ
                      clear hT
                      go_wp2
                      go_roundw
                      case rel => exact ⟨k + 1, by omega, by go_num, HR.out⟩
                      case measure => simp [intOf]; omega
                · have hkR : R = k := by omega
                  subst hkR
                  have HTA : Hid (ITab n l (i+1) (thenT n x M R R)) := itab_succ HN.out.1 HN.out.2 hli HXX.out M HTAB.out (by rw [HRL.out]; exact HM.out) (fun m hm => by rw [HRL.out] at hm ⊢; unfold thenT; rw [if_pos hm])
                  have HLM : Hid (LMRel w1 n l (.slice (some ⟨gt, 0, none⟩) R R) (.int .i64 ((i : Int) + 1)) wr) := ⟨i + 1, gt, thenT n x M R R, by omega, by go_num, by rw [HRL.out], by rw [HRL.out]; exact ⟨ownI_mono hT.t.own HOW.out.below.size, HOW.out.below.trans (hT.t.below.mono HOW.out.below.size)⟩, HTA.out⟩
                  clear hT HTA
                  go_wp2
                  go_roundw
                  case rel => exact HLM.out
                  case measure => simp [intOf]; omega
        · have hil : l.length = i := by omega
          subst hil
          have HTAB : Hid (ITab n l l.length N) := hTab
          have HOW : Hid (Own1 w1 wr gn R N) := hOwn
          clear hTab hOwn
          obtain ⟨z, hlow, hleast⟩ := itab_least HN.out.1 HN.out.2 HIN.out HTAB.out
          rw [HRL.out] at hlow
          have HLOW : Hid (lowN N R = some z) := hlow
          have HLEAST : Hid (LeastLook (Un n) l z) := hleast
          have HNB : Hid (∀ j x, j < R → N j = some x → x ≤ 800) := fun j x hj e => by
            have := itab_lt HN.out.1 HN.out.2 HIN.out HTAB.out j x (by rw [HRL.out]; exact hj) e
            omega
          clear hlow hleast
          go_wp2
          go_loopw [15, 16] (fun m i wr => ∃ k : Nat, k ≤ R ∧ i = .int .i64 (k : Nat) ∧ m = .int .i64 (vN (lowN N k)) ∧ Own1 w1 wr gn R N) (fun _ i _ => R - (intOf i).toNat)
          case atStart => exact ⟨0, Nat.zero_le _, rfl, rfl, HOW.out⟩
          case round =>
            clear HOW
            obtain ⟨k, hk, rfl, rfl, hO⟩ := hrel
            have HOW : Hid (Own1 w1 wr gn R N) := hO
            by_cases hkl : k < R
            · have hcn := hO.cell hkl
              cases hNk : N k with
              | none =>
                rw [hNk] at hcn
                have HV : Hid (vN (lowN N (k+1)) = vN (lowN N k)) := by unfold Hid; rw [lowN_none hNk]
                have hcn2 : wr.cell? ⟨gn, k, none⟩ = some (.int .i64 (-1)) := hcn
                clear hO hcn hNk
                generalize vN (lowN N k) = u1 at *
                go_wp2
                go_roundw
                case rel => exact ⟨k + 1, by omega, by go_num, by rw [HV.out], HOW.out⟩
                case measure => simp [intOf]; omega
              | some x0 =>
                rw [hNk] at hcn
                have hx8 := HNB.out k x0 hkl hNk
                have HL : Hid (lowN N (k+1) = minO (lowN N k) x0) := lowN_some hNk
                have hcn2 : wr.cell? ⟨gn, k, none⟩ = some (.int .i64 (x0 : Nat)) := hcn
                have HLS : Hid (∀ w, Calls Tryd.prog 22 #[.int .i64 (vN (lowN N k)), .int .i64 (x0 : Nat)] w fun e w' => e = .returned (.int .i64 (vN (minO (lowN N k) x0))) ∧ w' = w) := fun w => lesser_any _ _ w
                clear hO hcn hNk
                generalize vN (lowN N k) = u1 at *
                go_wp2_with (go_at_call 22; go_must (refine (HLS.out _).mono ?_; rintro e w' ⟨rfl, hw⟩; have hw := hw.symm; subst hw))
                go_roundw
                case rel => exact ⟨k + 1, by omega, by go_num, by rw [HL.out], HOW.out⟩
                case measure => simp [intOf]; omega
            · have hkR : R = k := by omega
              subst hkR
              have HBW : Hid (Below w.heap.size w wr) := HB1.out.trans (hO.below.mono HB1.out.size)
              rw [HLOW.out]
              clear hO
              go_wp2
              go_ret
              exact ⟨z, rfl, HLEAST.out, HBW.out⟩
end Go.Proofs.YtjafedijbainbaaDoor
