/- The walk of the document's answer (larderwickref1): LeastServers. -/
import Derived.Test.YtnjfmlojbaigjaaDoorRowW
import Derived.Test.YtnjfmlojbaigjaaDoorRefAbs
import Derived.Test.YtnjfmlojbaigjaaDoorSCheck
import Derived.Test.YtnjfmlojbaigjaaDoorQuietLast
import Derived.Deep.RegionWith
namespace Go.Proofs.YtnjfmlojbaigjaaDoor
set_option maxRecDepth 100000
open Go.RowKit Go.Sort

def LVRel (w : World) (s asks : List Int) (R : Nat) (vn i : Value) (wr : World) : Prop :=
  ∃ (k gn : Nat) (T : Nat → Option Nat), k ≤ asks.length ∧ i = .int .i64 (k : Nat) ∧ vn = .slice (some ⟨gn, 0, none⟩) R R ∧ Own1 w wr gn R T ∧ NTab s asks k T
set_option maxHeartbeats 16000000 in
theorem rleasts_any (v va : Value) (s asks : List Int) (w : World) (hv : IsInts w v s) (ha : IsInts w va asks) (hc0 : chkV s asks = 0) :
    Calls Tryd.prog 9 #[v, va] w fun e w' => ∃ x : Nat, e = .returned (.int .i64 (x : Nat)) ∧ LeastGo s asks x ∧ Below w.heap.size w w' := by
  have F := chkV_zero hc0
  have HF : Hid (FineV s asks) := F
  have hn1 : 1 ≤ s.length := List.length_pos_iff.2 F.some
  have hn3 := F.few
  have ha20 := F.many
  obtain ⟨ao, cap, rfl, hcap, hos⟩ := hv.opened
  obtain ⟨aa, capa, rfl, hcapa, ho⟩ := ha.opened
  have HOS : Hid (∀ k, k < s.length → ∃ b off, ao = some ⟨b, off, none⟩ ∧ s.length ≤ cap ∧ b < w.heap.size ∧ ∀ j, j < s.length → w.cell? ⟨b, off + j, none⟩ = some (.int .i64 (s[j]?.getD 0))) := hos
  have HO : Hid (∀ k, k < asks.length → ∃ b off, aa = some ⟨b, off, none⟩ ∧ asks.length ≤ capa ∧ b < w.heap.size ∧ ∀ j, j < asks.length → w.cell? ⟨b, off + j, none⟩ = some (.int .i64 (asks[j]?.getD 0))) := ho
  unfold maxLen at hcap hcapa
  clear hv ha hos ho hc0 F
  go_enter Tryd.func9, Tryd.ntmps9
  go_wp2
  go_loop [5, 6] (fun z i => ∃ k : Nat, k ≤ s.length ∧ i = .int .i64 (k : Nat) ∧ z = .int .i64 ((13 ^ k : Nat) : Int)) (fun _ i => s.length - (intOf i).toNat)
  case atStart => exact ⟨0, Nat.zero_le _, rfl, rfl⟩
  case round =>
    obtain ⟨k, hk, rfl, rfl⟩ := hrel
    have hP := pow13 (k := k) (by omega)
    by_cases hlt : k < s.length
    · have HP2 : Hid (13 ^ (k+1) = 13 ^ k * 13) := hP.2.2.2
      obtain ⟨hp1, hp2, hp3, _⟩ := hP
      generalize 13 ^ k = P at *
      go_wp2
      go_round
      case rel => exact ⟨k + 1, by omega, by go_num, by rw [HP2.out]; go_num⟩
      case measure => simp [intOf]; omega
    · have hkn : k = s.length := by omega
      subst hkn
      obtain ⟨R, hR⟩ : ∃ R, 13 ^ s.length = R := ⟨_, rfl⟩
      have HR : Hid (13 ^ s.length = R) := hR
      rw [hR] at hP ⊢
      obtain ⟨hR1, hR2, _, _⟩ := hP
      clear hR
      have hmk := fun w : World => makeR w (R := R) (by omega)
      obtain ⟨gn, hgn⟩ : ∃ gn, w.heap.size = gn := ⟨_, rfl⟩
      have HZ : Hid (Own1 w (w.alloc (.cells (madeCells #[.int .i64 0] R) 3)) gn R (noneTo 0)) := by
        have := zerosR w (R := R) (by omega)
        rw [noneTo_zero, hgn] at this
        exact this
      go_wp2
      first | rw [hgn] | skip
      clear hgn
      go_loopw [8] (fun i wr => ∃ k : Nat, k ≤ R ∧ i = .int .i64 (k : Nat) ∧ Own1 w wr gn R (noneTo k)) (fun i _ => R - (intOf i).toNat)
      case atStart => exact ⟨0, Nat.zero_le _, rfl, HZ.out⟩
      case round =>
        clear HZ
        obtain ⟨k, hk, rfl, hO⟩ := hrel
        by_cases hlt : k < R
        · have hcl := hO.cell hlt
          have hfz := hO.soft k
          have HO1 : Hid (Own1 w (wr.setCell ⟨gn, k, none⟩ (.int .i64 (-1))) gn R (noneTo (k+1))) := by rw [← noneTo_succ]; exact hO.set k none
          generalize vN (noneTo k k) = z0 at *
          clear hO
          go_wp2
          go_roundw
          case rel => exact ⟨k + 1, by omega, by go_num, HO1.out⟩
          case measure => simp [intOf]; omega
        · have hkR : k = R := by omega
          subst hkR
          have HOW : Hid (Own1 w wr gn k (noneTo k)) := hO
          clear hO
          go_wp2
          go_loop [9, 10] (fun f i => ∃ j : Nat, j ≤ s.length ∧ i = .int .i64 (j : Nat) ∧ f = .int .i64 (encF (s.take j) : Nat)) (fun _ i => s.length - (intOf i).toNat)
          case atStart => exact ⟨0, Nat.zero_le _, rfl, by rw [List.take_zero]; rfl⟩
          case round =>
            obtain ⟨j, hj, rfl, rfl⟩ := hrel
            by_cases hlt : j < s.length
            · obtain ⟨b, off, rfl, hlc, hbw, hcell⟩ := HOS.out j hlt
              have hcj : wr.cell? ⟨b, off + j, none⟩ = some (.int .i64 (s[j]?.getD 0)) := (HOW.out.below.cell (by exact hbw)).trans (hcell j hlt)
              obtain ⟨e1, e2⟩ := enc_take hn3 HF.out.line hlt
              have h12 := HF.out.line _ (get_mem hlt)
              have HE1 : Hid ((encF (s.take (j+1)) : Int) = (encF (s.take j) : Int) * 13 + s[j]?.getD 0) := by unfold Hid; omega
              clear hcell e1
              generalize encF (s.take j) = E at *
              generalize s[j]?.getD 0 = a at *
              go_wp2
              go_round
              case rel => exact ⟨j + 1, by omega, by go_num, by rw [HE1.out]⟩
              case measure => simp [intOf]; omega
            · have hjn : j = s.length := by omega
              subst hjn
              rw [List.take_of_length_le (Nat.le_refl _)]
              have hEk : encF s < k := by rw [← HR.out]; exact enc_lt hn1 hn3 HF.out.line
              have hcl := HOW.out.cell hEk
              have hfz := HOW.out.soft (encF s)
              have HT0 : Hid (LVRel w s asks k (.slice (some ⟨gn, 0, none⟩) k k) (.int .i64 0) (wr.setCell ⟨gn, encF s, none⟩ (.int .i64 0))) := by
                refine ⟨0, gn, updO (noneTo k) (encF s) (some 0), Nat.zero_le _, rfl, rfl, HOW.out.set (encF s) (some 0), ntab_start s asks (by unfold updO; rw [if_pos rfl]) fun m hm hne => ?_⟩
                unfold updO
                rw [if_neg hne, noneTo_all (by rw [← HR.out]; exact hm)]
              clear HOW
              generalize vN (noneTo k (encF s)) = z0 at *
              generalize encF s = E at *
              go_wp2
              clear hcl hfz
              go_loopw [7, 11] (fun vn i wr => LVRel w s asks k vn i wr) (fun _ i _ => asks.length - (intOf i).toNat)
              case atStart => exact HT0.out
              case round =>
                clear HT0
                obtain ⟨i, gn, N, hi, rfl, rfl, hOwn, hTab⟩ := hrel
                by_cases hli : i < asks.length
                · obtain ⟨br, off, rfl, hlcr, hbw, hcell⟩ := HO.out i hli
                  have hr := ask_in HF.out.asked hli
                  obtain ⟨r, hrr⟩ : ∃ r : Nat, (r : Int) = asks[i]?.getD 0 := ⟨(asks[i]?.getD 0).toNat, by omega⟩
                  have HRR : Hid ((r : Int) = asks[i]?.getD 0) := hrr
                  have hr12 : r ≤ 12 := by omega
                  have hcx : wr.cell? ⟨br, off + i, none⟩ = some (.int .i64 (r : Nat)) := by rw [hrr]; exact (hOwn.below.cell (by exact hbw)).trans (hcell i hli)
                  have HOW : Hid (Own1 w wr gn k N) := hOwn
                  have HTAB : Hid (NTab s asks i N) := hTab
                  have HNB : Hid (∀ m x, m < k → N m = some x → x ≤ 240) := fun m x hm e => ntab_lt HF.out.line HF.out.asked HF.out.many hi hTab m x (by rw [HR.out]; exact hm) e
                  obtain ⟨gt, hgt⟩ : ∃ gt, wr.heap.size = gt := ⟨_, rfl⟩
                  have HZ : Hid (Own1 wr (wr.alloc (.cells (madeCells #[.int .i64 0] k) 3)) gt k (noneTo 0)) := by
                    have := zerosR wr (R := k) (by omega)
                    rw [noneTo_zero, hgt] at this
                    exact this
                  clear hOwn hTab hcell hbw hr hrr
                  go_wp2
                  first | rw [hgt] | skip
                  clear hgt
                  obtain ⟨wA, hwA⟩ : ∃ wA, wA = wr := ⟨_, rfl⟩
                  subst hwA
                  have hGN := HOW.out.lt
                  have HCX : Hid (∀ w' : World, Below wA.heap.size wA w' → w'.cell? ⟨br, off + i, none⟩ = some (.int .i64 (r : Nat))) := fun w' hb => (hb.cell (p := ⟨br, off + i, none⟩) (World.block_lt_of_cell? wA _ hcx)).trans hcx
                  have HNOW : Hid (∀ w' : World, Below wA.heap.size wA w' → ∀ j, j < k → w'.cell? ⟨gn, j, none⟩ = some (.int .i64 (vN (N j)))) := fun w' hb j hj => (hb.cell (p := ⟨gn, j, none⟩) hGN).trans (HOW.out.cell hj)
                  clear hGN hcx
                  go_loopw [13] (fun i wr => ∃ j : Nat, j ≤ k ∧ i = .int .i64 (j : Nat) ∧ Own1 wA wr gt k (noneTo j)) (fun i _ => k - (intOf i).toNat)
                  case atStart => exact ⟨0, Nat.zero_le _, rfl, HZ.out⟩
                  case round =>
                    clear HZ
                    obtain ⟨j, hj, rfl, hO⟩ := hrel
                    by_cases hlt : j < k
                    · have hcl := hO.cell hlt
                      have hfz := hO.soft j
                      have HO1 : Hid (Own1 wA (wr.setCell ⟨gt, j, none⟩ (.int .i64 (-1))) gt k (noneTo (j+1))) := by rw [← noneTo_succ]; exact hO.set j none
                      generalize vN (noneTo j j) = z0 at *
                      clear hO
                      go_wp2
                      go_roundw
                      case rel => exact ⟨j + 1, by omega, by go_num, HO1.out⟩
                      case measure => simp [intOf]; omega
                    · have hjk : j = k := by omega
                      subst hjk
                      have HT0 : Hid (∃ (m : Nat) (T : Nat → Option Nat), m ≤ j ∧ (Value.int .i64 0) = .int .i64 (m : Nat) ∧ Own1 wA wr gt j T ∧ MadeN (offAll N r s.length m) T j) := ⟨0, noneTo j, Nat.zero_le _, rfl, hO, madeN_none j⟩
                      clear hO
                      go_wp2
                      go_loopw [14] (fun i wr => ∃ (m : Nat) (T : Nat → Option Nat), m ≤ j ∧ i = .int .i64 (m : Nat) ∧ Own1 wA wr gt j T ∧ MadeN (offAll N r s.length m) T j) (fun i _ => j - (intOf i).toNat)
                      case atStart => exact HT0.out
                      case round =>
                        clear HT0
                        obtain ⟨m, T, hm, rfl, hT, hM⟩ := hrel
                        by_cases hlm : m < j
                        · have hcn := HNOW.out wr hT.below m hlm
                          cases hNm : N m with
                          | none =>
                            rw [hNm] at hcn
                            have hcn2 : wr.cell? ⟨gn, m, none⟩ = some (.int .i64 (-1)) := hcn
                            have HT : Hid (Own1 wA wr gt j T) := hT
                            have HM : Hid (MadeN (offAll N r s.length (m+1)) T j) := by unfold Hid; rw [offAll_none hNm]; exact hM
                            clear hcn hNm hT hM
                            go_wp2
                            go_roundw
                            case rel => exact ⟨m + 1, T, by omega, by go_num, HT.out, HM.out⟩
                            case measure => simp [intOf]; omega
                          | some x =>
                            rw [hNm] at hcn
                            have hcn2 : wr.cell? ⟨gn, m, none⟩ = some (.int .i64 (x : Nat)) := hcn
                            have hx8 := HNB.out m x hlm hNm
                            have HNX : Hid (offAll N r s.length (m+1) = offAll N r s.length m ++ offDig r m x s.length) := offAll_some hNm
                            have HNM : Hid (N m = some x) := hNm
                            have HT0 : Hid (∃ (q : Nat) (T : Nat → Option Nat), q ≤ s.length ∧ (Value.int .i64 0) = .int .i64 (q : Nat) ∧ (Value.int .i64 1) = .int .i64 ((13 ^ q : Nat) : Int) ∧ Own1 wA wr gt j T ∧ MadeN (offAll N r s.length m ++ offDig r m x q) T j) := ⟨0, T, Nat.zero_le _, rfl, rfl, hT, by rw [offDig, List.append_nil]; exact hM⟩
                            clear hcn hNm hT hM
                            go_wp2
                            clear hcn2
                            go_loopw [15, 16] (fun p i wr => ∃ (q : Nat) (T : Nat → Option Nat), q ≤ s.length ∧ i = .int .i64 (q : Nat) ∧ p = .int .i64 ((13 ^ q : Nat) : Int) ∧ Own1 wA wr gt j T ∧ MadeN (offAll N r s.length m ++ offDig r m x q) T j) (fun _ i _ => s.length - (intOf i).toNat)
                            case atStart => exact HT0.out
                            case round =>
                              clear HT0
                              obtain ⟨q, T, hq, rfl, rfl, hT, hM⟩ := hrel
                              by_cases hlq : q < s.length
                              · obtain ⟨hp1, hp2, hp3, hp4⟩ := pow13 (k := q) (by omega)
                                obtain ⟨hto, hdg, hte, hm1, hm2⟩ := go13_facts (m := m) (r := r) hn1 hn3 hlq (by rw [HR.out]; exact hlm) hr12
                                rw [HR.out] at hto
                                have HPW : Hid (13 ^ (q+1) = 13 ^ q * 13) := hp4
                                have HOD : Hid (offDig r m x (q+1) = offDig r m x q ++ [(goN13 m q r, x + (zabs ((digN m q : Nat) - (r : Nat))).toNat)]) := rfl
                                have HDG : Hid (m / 13 ^ q % 13 = digN m q) := rfl
                                have hct := hT.cell hto
                                have hft := hT.soft (goN13 m q r)
                                have HT : Hid (Own1 wA wr gt j T) := hT
                                have HM : Hid (MadeN (offAll N r s.length m ++ offDig r m x q) T j) := hM
                                have hcn2 : wr.cell? ⟨gn, m, none⟩ = some (.int .i64 (x : Nat)) := by have := HNOW.out wr hT.below m hlm; rwa [HNM.out] at this
                                have hcx2 := HCX.out wr hT.below
                                have hpq : 13 ^ q ≤ 169 := hp3 (by omega)
                                have HAB : Hid (∀ w, Calls Tryd.prog 19 #[.int .i64 (digN m q : Nat), .int .i64 (r : Nat)] w fun e w' => e = .returned (.int .i64 (zabs ((digN m q : Nat) - (r : Nat)))) ∧ w' = w) := fun w => abs_any _ _ (by omega) (by omega) w
                                obtain ⟨zd, hzd⟩ : ∃ zd : Nat, zabs ((digN m q : Nat) - (r : Nat)) = (zd : Int) := ⟨(zabs ((digN m q : Nat) - (r : Nat))).toNat, by unfold zabs; omega⟩
                                have hz12 : zd ≤ 12 := by unfold zabs at hzd; omega
                                rw [hzd] at HAB HOD
                                rw [show ((zd : Nat) : Int).toNat = zd from Int.toNat_natCast zd] at HOD
                                have hq13 : ((m / 13 ^ q : Nat) : Int) % 13 = ((digN m q : Nat) : Int) := by rw [← HDG.out]; omega
                                have hdiv : (m : Int) / ((13 ^ q : Nat) : Int) = ((m / 13 ^ q : Nat) : Int) := by omega
                                have hqle : m / 13 ^ q ≤ m := Nat.div_le_self _ _
                                clear hT hM hp2 hp3 hp4 HDG hzd
                                generalize hTO : goN13 m q r = TO at *
                                generalize digN m q = D at *
                                generalize m / 13 ^ q = Q at *
                                generalize hPP : 13 ^ q = P at *
                                clear hTO hPP
                                have HLS : Hid (∀ w, Calls Tryd.prog 21 #[.int .i64 (vN (T TO)), .int .i64 ((x + zd : Nat) : Int)] w fun e w' => e = .returned (.int .i64 (vN (minO (T TO) (x + zd)))) ∧ w' = w) := fun w => lesser_any (T TO) (x + zd) w
                                have HNEW : Hid (∀ n, Own1 wA ((wr.drewN n).setCell ⟨gt, TO, none⟩ (.int .i64 (vN (minO (T TO) (x + zd))))) gt j (offN T TO (x + zd)) ∧ MadeN (offAll N r s.length m ++ offDig r m x (q+1)) (offN T TO (x + zd)) j) := fun n => by
                                  refine ⟨(HT.out.later (below_drewN (Below.refl _ wr) n)).set TO _, ?_⟩
                                  rw [HOD.out, ← List.append_assoc]
                                  exact madeN_off HM.out TO (x + zd)
                                have hwz : IntKind.i64.wrap ((x : Int) + (zd : Int)) = ((x + zd : Nat) : Int) := by rw [IntKind.wrap_i64]; omega
                                clear HM HT HOD
                                generalize vN (minO (T TO) (x + zd)) = u2 at *
                                generalize vN (T TO) = u1 at *
                                generalize hxz : x + zd = xz at *
                                go_wp2
                                rw [hq13, ← hte]
                                clear hdiv hq13 hte hm1 hm2 hdg
                                refine wp_region_quiet_last 19 (by kernel_rfl) (by kernel_rfl) ?_
                                simp only [List.take_succ_cons, List.take_zero, List.drop_succ_cons, List.drop_zero]
                                repeat (go_big_quiet_step (first | (go_at_call 19; exact Calls.quiet_of_same (HAB.out _)) | (go_at_call 21; exact Calls.quiet_of_same (HLS.out _))))
                                refine wpQuiet_nil ?_
                                intro _ hw'
                                obtain ⟨nq, hw''⟩ := hw'
                                subst hw''
                                go_wp2
                                go_roundw
                                case rel => exact ⟨q + 1, _, by omega, by go_num, by rw [HPW.out]; go_num, (HNEW.out _).1, (HNEW.out 0).2⟩
                                case measure => simp [intOf]; omega
                              · have hqn : q = s.length := by omega
                                subst hqn
                                have HM : Hid (MadeN (offAll N r s.length (m+1)) T j) := by unfold Hid; rw [HNX.out]; exact hM
                                have HT : Hid (Own1 wA wr gt j T) := hT
                                clear hM hT HNX
                                generalize 13 ^ s.length = P at *
                                go_wp2
                                go_roundw
                                case rel => exact ⟨m + 1, T, by omega, by go_num, HT.out, HM.out⟩
                                case measure => simp [intOf]; omega
                        · have hmj : m = j := by omega
                          subst hmj
                          have HLV : Hid (LVRel w s asks m (.slice (some ⟨gt, 0, none⟩) m m) (.int .i64 ((i : Int) + 1)) wr) := ⟨i + 1, gt, T, by omega, by go_num, rfl, ⟨ownI_mono hT.own HOW.out.below.size, HOW.out.below.trans (hT.below.mono HOW.out.below.size)⟩, ntab_succ hn1 hn3 HF.out.line HF.out.asked hli HRR.out HTAB.out (by rw [HR.out]; exact hM)⟩
                          clear hT hM
                          go_wp2
                          go_roundw
                          case rel => exact HLV.out
                          case measure => simp [intOf]; omega
                · have hil : i = asks.length := by omega
                  subst hil
                  obtain ⟨z, hlow, hleast⟩ := ntab_least hn1 hn3 HF.out.line HF.out.asked hTab
                  rw [HR.out] at hlow
                  have HLOW : Hid (lowN N k = some z) := hlow
                  have HLEAST : Hid (LeastGo s asks z) := hleast
                  have HNB : Hid (∀ m x, m < k → N m = some x → x ≤ 240) := fun m x hm e => ntab_lt HF.out.line HF.out.asked HF.out.many (Nat.le_refl _) hTab m x (by rw [HR.out]; exact hm) e
                  have HOW : Hid (Own1 w wr gn k N) := hOwn
                  clear hlow hleast hTab hOwn
                  go_wp2
                  go_loopw [19, 20] (fun l i wr => ∃ m : Nat, m ≤ k ∧ i = .int .i64 (m : Nat) ∧ l = .int .i64 (vN (lowN N m)) ∧ Own1 w wr gn k N) (fun _ i _ => k - (intOf i).toNat)
                  case atStart => exact ⟨0, Nat.zero_le _, rfl, rfl, HOW.out⟩
                  case round =>
                    clear HOW
                    obtain ⟨m, hm, rfl, rfl, hO⟩ := hrel
                    have HOW : Hid (Own1 w wr gn k N) := hO
                    by_cases hml : m < k
                    · have hcn := hO.cell hml
                      cases hNm : N m with
                      | none =>
                        rw [hNm] at hcn
                        have HV : Hid (vN (lowN N (m+1)) = vN (lowN N m)) := by unfold Hid; rw [lowN_none hNm]
                        have hcn2 : wr.cell? ⟨gn, m, none⟩ = some (.int .i64 (-1)) := hcn
                        clear hO hcn hNm
                        generalize vN (lowN N m) = u1 at *
                        go_wp2
                        go_roundw
                        case rel => exact ⟨m + 1, by omega, by go_num, by rw [HV.out], HOW.out⟩
                        case measure => simp [intOf]; omega
                      | some x0 =>
                        rw [hNm] at hcn
                        have hx8 := HNB.out m x0 hml hNm
                        have HL : Hid (lowN N (m+1) = minO (lowN N m) x0) := lowN_some hNm
                        have hcn2 : wr.cell? ⟨gn, m, none⟩ = some (.int .i64 (x0 : Nat)) := hcn
                        have HLS : Hid (∀ w, Calls Tryd.prog 21 #[.int .i64 (vN (lowN N m)), .int .i64 (x0 : Nat)] w fun e w' => e = .returned (.int .i64 (vN (minO (lowN N m) x0))) ∧ w' = w) := fun w => lesser_any _ _ w
                        clear hO hcn hNm
                        generalize vN (lowN N m) = u1 at *
                        go_wp2_with (go_at_call 21; go_must (refine (HLS.out _).mono ?_; rintro e w' ⟨rfl, hw⟩; have hw := hw.symm; subst hw))
                        go_roundw
                        case rel => exact ⟨m + 1, by omega, by go_num, by rw [HL.out], HOW.out⟩
                        case measure => simp [intOf]; omega
                    · have hmk2 : m = k := by omega
                      subst hmk2
                      have HBW : Hid (Below w.heap.size w wr) := hO.below
                      rw [HLOW.out]
                      clear hO
                      go_wp2
                      go_ret
                      exact ⟨z, rfl, HLEAST.out, HBW.out⟩
end Go.Proofs.YtnjfmlojbaigjaaDoor
