/- LandCredits is proved: for every two lists of requests and costs, and every number of slots, in whatever memory and on every schedule, it returns true and leaves its arguments as they were: each page that is there has a credit from 0 to its cost, the last one has all of it, and no more are there than slots. No condition. -/
import Derived.Test.YtedmfehjifknbaaLandFact
import Derived.Test.YtedmfehjifknbaaLandZ
import Derived.Test.YtedmfehjifknbaaLawIn2
import Derived.Test.YtedmfehjifknbaaHas
import Derived.Test.YtedmfehjifknbaaOwnCells
import Derived.Test.YtedmfehjifknbaaHasAt
import Derived.Test.YtedmfehjifknbaaLawkit
namespace Go.Proofs.Ytedmfehjifknbaa
open Go.ChangeShapes Go.WideShapes Go.ChangeAt Go.RowKit Go.Sort

theorem land_in {s : Nat} {c : Int → Nat} {l : List Int} : ∀ {k : Nat}, k ≤ l.length → ∀ p, p ∈ tenants (land s c l k) → p ∈ l
  | 0, _, p, h => by cases h
  | k + 1, hk, p, h => by
    have ih := land_in (s := s) (c := c) (l := l) (k := k) (by omega)
    have hm : l[k]?.getD 0 ∈ l := by rw [List.getElem?_eq_getElem (by omega)]; exact List.getElem_mem _
    rw [land] at h
    unfold landS at h
    split at h
    · rw [tenants_again] at h; exact ih p h
    · split at h
      · rw [tenants_snoc] at h
        rcases List.mem_append.1 h with h | h
        · refine ih p ?_
          obtain ⟨x, hx, rfl⟩ := List.mem_map.1 h
          unfold letOut lessBy at hx
          obtain ⟨y, hy, rfl⟩ := List.mem_map.1 hx
          exact List.mem_map.2 ⟨y, List.mem_of_mem_eraseP hy, rfl⟩
        · simp at h; rw [h]; exact hm
      · rw [tenants_snoc] at h
        rcases List.mem_append.1 h with h | h
        · exact ih p h
        · simp at h; rw [h]; exact hm
/-- What holds of each tenant. -/
structure Tenant (l c : List Int) (st : List (Int × Nat)) (k : Nat) (p f : Nat) (q : Nat) : Prop where
  page : (tenants st)[k]?.getD 0 = (p : Int)
  cred : (creds st)[k]?.getD 0 = (q : Int)
  cost : cf c (p : Int) = f
  low : p < c.length
  le : q ≤ f
  new : ((tenants st).take k).contains (p : Int) = false
  last : (p : Int) = l[l.length - 1]?.getD 0 → q = f
theorem tenant_of {l c : List Int} {s : Nat} (F : FineC l c (s : Int)) {k : Nat} (hk : k < (land s (cf c) l l.length).length) : ∃ p f q, Tenant l c (land s (cf c) l l.length) k p f q := by
  have hs : 1 ≤ s := by have := F.slots; omega
  have hi := land_inv hs (cf c) l l.length
  have hin := land_in (s := s) (c := cf c) (l := l) (Nat.le_refl l.length)
  have h0 : l.length ≠ 0 := fun e => by rw [e] at hk; cases hk
  have hlast := land_last hs (cf c) l (l.length - 1)
  rw [Nat.sub_add_cancel (by omega)] at hlast
  generalize land s (cf c) l l.length = st at *
  have hm : st[k] ∈ st := List.getElem_mem hk
  have hp : st[k].1 ∈ l := hin _ (List.mem_map.2 ⟨_, hm, rfl⟩)
  obtain ⟨j, hj, e⟩ := List.getElem_of_mem hp
  have hpg := F.page j hj
  rw [List.getElem?_eq_getElem hj, Option.getD_some, e] at hpg
  obtain ⟨p, hpn⟩ : ∃ p : Nat, st[k].1 = (p : Int) := ⟨st[k].1.toNat, by omega⟩
  have hkt : k < (tenants st).length := by unfold tenants; rw [List.length_map]; exact hk
  have hgt : (tenants st)[k] = st[k].1 := by simp [tenants]
  refine ⟨p, cf c p, st[k].2, ?_, ?_, rfl, by omega, ?_, ?_, ?_⟩
  · rw [List.getElem?_eq_getElem hkt, Option.getD_some, hgt, hpn]
  · unfold creds; rw [List.getElem?_map, List.getElem?_eq_getElem hk]; rfl
  · rw [← hpn]; exact hi.cr _ hm
  · cases hc : ((tenants st).take k).contains (p : Int) with
    | false => rfl
    | true =>
      exfalso
      have h1 := List.contains_iff_mem.1 hc
      obtain ⟨i, hi2, e2⟩ := List.getElem_of_mem h1
      rw [List.length_take] at hi2
      rw [List.getElem_take, ← hpn, ← hgt] at e2
      have h3 : (tenants st)[i]? = (tenants st)[k]? := by rw [List.getElem?_eq_getElem (by omega), List.getElem?_eq_getElem hkt, e2]
      have := (List.getElem?_inj (by omega) hi.nd).1 h3
      omega
  · intro e3
    rw [← hpn] at e3 ⊢
    exact hlast.2 _ hm e3

theorem opened_pos {w : World} {a : Option Addr} {n cp : Nat} {l : List Int} (h : IsInts w (.slice a n cp) l) (hn : l.length = n) (h0 : 0 < n) : ∃ b off, a = some ⟨b, off, none⟩ ∧ n ≤ cp ∧ cp ≤ maxLen ∧ ∀ j, j < n → w.cell? ⟨b, off + j, none⟩ = some (.int .i64 (l[j]?.getD 0)) := by
  rcases h with ⟨rfl, _⟩ | ⟨b, off, cap, hv, _, hlc, hcap, hc⟩
  · simp at hn; omega
  · simp only [Value.slice.injEq] at hv
    obtain ⟨rfl, h2, rfl⟩ := hv
    rw [h2]
    exact ⟨b, off, rfl, hlc, hcap, hc⟩
theorem cell_heap {w w0 : World} (hh : w.heap = w0.heap) {b j : Nat} {u : Value} (h : w0.cell? ⟨b, j, none⟩ = some u) : w.cell? ⟨b, j, none⟩ = some u := by
  unfold World.cell? at *
  rw [hh]; exact h

set_option maxHeartbeats 4000000 in
set_option maxRecDepth 100000 in
theorem credits_any (v : Value) (l : List Int) (vc : Value) (c : List Int) (s : Int) (w : World) (hv : IsInts w v l) (_ : ∃ ao cap, v = .slice ao l.length cap) (hvc : IsInts w vc c) (_ : ∃ ao cap, vc = .slice ao c.length cap) :
    Calls Try.prog 7 #[v, vc, .int .i64 s] w fun e w' => e = .returned (.bool true) ∧ Below w.heap.size w w' := by
  have HV : Hid (IsInts w v l) := hv
  have HVC : Hid (IsInts w vc c) := hvc
  obtain ⟨ao, cap, rfl, hcap, ho⟩ := hv.opened
  obtain ⟨ac, cac, rfl, hcac, hoc⟩ := hvc.opened
  have HO : Hid (∀ k, k < l.length → ∃ b off, ao = some ⟨b, off, none⟩ ∧ l.length ≤ cap ∧ b < w.heap.size ∧ ∀ j, j < l.length → w.cell? ⟨b, off + j, none⟩ = some (.int .i64 (l[j]?.getD 0))) := ho
  have HOC : Hid (∀ k, k < c.length → ∃ b off, ac = some ⟨b, off, none⟩ ∧ c.length ≤ cac ∧ b < w.heap.size ∧ ∀ j, j < c.length → w.cell? ⟨b, off + j, none⟩ = some (.int .i64 (c[j]?.getD 0))) := hoc
  unfold maxLen at hcac hcap
  clear hv hvc hoc ho
  go_enter Try.func7, Try.ntmps7
  go_wp2_with (first | (go_at_call 8; go_must (refine (lfact_any _).mono ?_; rintro e w1 ⟨rfl, hb1⟩; have HB1 : Hid (Below w.heap.size w w1) := hb1; clear hb1)) | (go_at_call 10; fail))
  refine (landlord_any _ _ l c s _ (HV.out.below HB1.out) (HVC.out.below HB1.out)).mono ?_
  rintro e w2 ⟨vp, vq, rfl, hP, hQ, hb2⟩
  have HB2 : Hid (Below w.heap.size w w2) := HB1.out.trans (hb2.mono HB1.out.size)
  clear hb2 HB1
  by_cases hc : chkC l c s = 0
  case neg =>
    have hn : chkC l c s = 1 ∨ chkC l c s = 4 := by have := chkC_cases l c s; omega
    have e0 : landT l c s = [] := by rw [landT, if_neg hc]
    rw [e0] at hP hQ
    obtain ⟨ap, cp, rfl⟩ := hP.form
    obtain ⟨aq, cq, rfl⟩ := hQ.form
    rw [show (tenants []).length = 0 from rfl, show (creds []).length = 0 from rfl]
    generalize landN l c s = N at *
    clear hP hQ e0
    rcases hn with hn | hn
    all_goals
      rw [hn]
      clear hn hc HV HVC HOC HO
      simp only [errV]
      go_wp2
      go_ret
      exact ⟨rfl, HB2.out⟩
  have F := chkC_zero hc
  obtain ⟨S, rfl⟩ : ∃ S : Nat, s = S := ⟨s.toNat, by have := F.slots; omega⟩
  have hS1 : 1 ≤ S := by have := F.slots; omega
  have hS8 : S ≤ 8 := by have := F.slots; omega
  have e0 : landT l c (S : Int) = land S (cf c) l l.length := by rw [landT, if_pos hc, Int.toNat_natCast]
  rw [e0] at hP hQ
  have hle := (land_inv hS1 (cf c) l l.length).le
  have HTN : Hid (∀ k, k < (land S (cf c) l l.length).length → ∃ p f q, Tenant l c (land S (cf c) l l.length) k p f q) := fun k hk => tenant_of F hk
  have HLS : Hid (l.length ≠ 0 → (tenants (land S (cf c) l l.length)).contains (l[l.length - 1]?.getD 0) = true) := fun h0 => by
    have := (land_last hS1 (cf c) l (l.length - 1)).1
    rw [Nat.sub_add_cancel (by omega)] at this
    exact List.contains_iff_mem.2 this
  have HEM : Hid (l.length = 0 → land S (cf c) l l.length = []) := fun h0 => by rw [h0]; rfl
  have HF : Hid (FineC l c (S : Int)) := F
  rw [hc, show errV 0 = .nilIface from rfl]
  generalize landN l c (S : Int) = N at *
  clear hc e0 F
  generalize land S (cf c) l l.length = st at *
  obtain ⟨ap, cp, hvp⟩ := hP.form
  obtain ⟨aq, cq, hvq⟩ := hQ.form
  rw [show (tenants st).length = st.length by unfold tenants; rw [List.length_map]] at hvp
  rw [show (creds st).length = st.length by unfold creds; rw [List.length_map]] at hvq
  subst hvp hvq
  by_cases h0 : l.length = 0
  · have hst := HEM.out h0
    subst hst
    rw [h0]
    clear HV HVC HO HOC HTN HLS HEM HF hP hQ h0
    simp only [List.length_nil] at *
    go_wp2
    go_loop [12] (fun i => i = .int .i64 0) (fun _ => 0)
    case atStart => rfl
    case round =>
      obtain rfl := hrel
      go_wp2
      go_ret
      exact ⟨rfl, HB2.out⟩
  · have hlt0 : l.length - 1 < l.length := by omega
    obtain ⟨b, off, rfl, hlc, hbw, hcell⟩ := HO.out (l.length - 1) hlt0
    have hpos : 0 < st.length := by
      have := List.contains_iff_mem.1 (HLS.out h0)
      have := List.length_pos_of_mem this
      unfold tenants at this
      rwa [List.length_map] at this
    obtain ⟨L, hL⟩ : ∃ L, l.length = L + 1 := ⟨l.length - 1, by omega⟩
    have hlastc : w2.cell? ⟨b, off + L, none⟩ = some (.int .i64 (l[l.length - 1]?.getD 0)) := by
      have := (HB2.out.cell (p := ⟨b, off + (l.length - 1), none⟩) (by exact hbw)).trans (hcell (l.length - 1) hlt0)
      rwa [show l.length - 1 = L by omega] at this ⊢
    have hsub : IntKind.i64.wrap ((l.length : Int) - 1) = (L : Int) := by rw [IntKind.wrap_i64]; have := HF.out.reqs; omega
    have hLl : L < l.length := by omega
    have hl40 := HF.out.reqs
    have hc6 := HF.out.costs
    have HNT : Hid ((tenants st).length = st.length) := by unfold tenants Hid; rw [List.length_map]
    have HNC : Hid ((creds st).length = st.length) := by unfold creds Hid; rw [List.length_map]
    have HPI : Hid (IsInts w2 (.slice ap st.length cp) (tenants st)) := hP.isInts
    have HQI : Hid (IsInts w2 (.slice aq st.length cq) (creds st)) := hQ.isInts
    have HLC : Hid ((tenants st).contains (l[l.length - 1]?.getD 0) = true) := HLS.out h0
    clear hP hQ HLS HEM hcell hbw hlt0 h0
    obtain ⟨gp, offp, rfl, hgp, hgp2, hcp⟩ := opened_pos HPI.out HNT.out hpos
    obtain ⟨gq, offq, rfl, hgq, hgq2, hcq⟩ := opened_pos HQI.out HNC.out hpos
    have HCP : Hid (∀ j, j < st.length → w2.cell? ⟨gp, offp + j, none⟩ = some (.int .i64 ((tenants st)[j]?.getD 0))) := hcp
    have HCQ : Hid (∀ j, j < st.length → w2.cell? ⟨gq, offq + j, none⟩ = some (.int .i64 ((creds st)[j]?.getD 0))) := hcq
    unfold maxLen at hgp2 hgq2
    clear hcp hcq
    generalize hz0 : l[l.length - 1]?.getD 0 = z at *
    have HZ : Hid (l[l.length - 1]?.getD 0 = z) := hz0
    clear hz0
    generalize hn : st.length = n at *
    have HN : Hid (st.length = n) := hn
    clear hn
    have HZ2 : Hid (∀ (p q f : Nat), ((p : Int) = l[l.length - 1]?.getD 0 → q = f) → (p : Int) = z → q = f) := fun p q f h e => h (by rw [HZ.out]; exact e)
    generalize hln : l.length = ln at HV hsub hLl hl40 hlc ⊢
    clear HZ
    have hln1 : 1 ≤ ln := by omega
    clear hln hL
    have hb1 : ((n : Int) == 0) = false := beq_eq_false_iff_ne.2 (by omega)
    have hb2 : ((ln : Int) == 0) = false := beq_eq_false_iff_ne.2 (by omega)
    have hb3 : decide (S < n) = false := decide_eq_false (by omega)
    go_wp2
    go_loopw [12] (fun i wr => ∃ k : Nat, k ≤ n ∧ i = .int .i64 k ∧ wr.heap = w2.heap ∧ Below w.heap.size w wr) (fun i _ => n - (intOf i).toNat)
    case atStart => exact ⟨0, Nat.zero_le _, rfl, rfl, HB2.out⟩
    case round =>
      obtain ⟨k, hk, rfl, hh, hbw⟩ := hrel
      by_cases hlt : k < n
      · obtain ⟨p, f, q, TN⟩ := HTN.out k hlt
        obtain ⟨bc, offc, rfl, hlcc, hbcw, hcellc⟩ := HOC.out p TN.low
        have hcp : wr.cell? ⟨gp, offp + k, none⟩ = some (.int .i64 (p : Int)) := cell_heap hh (by rw [HCP.out k hlt, TN.page])
        have hcq : wr.cell? ⟨gq, offq + k, none⟩ = some (.int .i64 (q : Int)) := cell_heap hh (by rw [HCQ.out k hlt, TN.cred])
        have hcc : wr.cell? ⟨bc, offc + p, none⟩ = some (.int .i64 (f : Int)) := cell_heap hh (by
          have := cf_get HF.out (p := (p : Int)) (by rw [Int.toNat_natCast]; exact TN.low)
          rw [Int.toNat_natCast, TN.cost] at this
          rw [HB2.out.cell (by exact hbcw), hcellc p TN.low, this])
        have hcz : wr.cell? ⟨b, off + L, none⟩ = some (.int .i64 z) := cell_heap hh hlastc
        have hf20 : f ≤ 20 := by rw [← TN.cost]; exact cf_le HF.out _
        have hql := TN.le
        have hpl := TN.low
        have hw1 : within (p : Int) 0 ((c.length : Int) - 1) = true := by simp [within]; omega
        have hw2 : within (q : Int) 0 (f : Int) = true := by simp [within]; omega
        have HPX : Hid (IsInts wr (.slice (some ⟨gp, offp, none⟩) k cp) ((tenants st).take k)) := (isInts_prefix HPI.out HNT.out (by omega)).heap hh
        have HNW : Hid (((tenants st).take k).contains (p : Int) = false) := TN.new
        have HLA : Hid ((p : Int) = z → q = f) := HZ2.out p q f TN.last
        clear TN hcellc hbcw
        by_cases hz : (p : Int) = z
        · have hqf : q = f := HLA.out hz
          subst hqf
          subst hz
          go_wp2_with fail
          go_quiet (first | (go_at_call 9; exact Calls.quiet_of_same (within_any _ _ _ _)) | (go_at_call 12; exact Calls.quiet_of_same (has_at HPX.out HNW.out _ (by rfl))))
          have hcp' : (wr.drewN nq).cell? ⟨gp, offp + k, none⟩ = some (.int .i64 (p : Int)) := hcp
          have hcq' : (wr.drewN nq).cell? ⟨gq, offq + k, none⟩ = some (.int .i64 (q : Int)) := hcq
          have hcc' : (wr.drewN nq).cell? ⟨bc, offc + p, none⟩ = some (.int .i64 (q : Int)) := hcc
          have hcz' : (wr.drewN nq).cell? ⟨b, off + L, none⟩ = some (.int .i64 (p : Int)) := hcz
          have hhq : (wr.drewN nq).heap = w2.heap := hh
          have hbq : Below w.heap.size w (wr.drewN nq) := below_drewN hbw _
          clear hcp hcq hcc hcz hh hbw HPX
          generalize wr.drewN nq = wq at *
          go_wp2_with fail
          go_quiet (fail)
          go_wp2
          go_roundw
          case rel => exact ⟨k + 1, by omega, by go_num, hhq, below_drewN hbq _⟩
          case measure => simp [intOf]; omega
        · have hzb : ((p : Int) == z) = false := beq_eq_false_iff_ne.2 hz
          go_wp2_with fail
          go_quiet (first | (go_at_call 9; exact Calls.quiet_of_same (within_any _ _ _ _)) | (go_at_call 12; exact Calls.quiet_of_same (has_at HPX.out HNW.out _ (by rfl))))
          have hcp' : (wr.drewN nq).cell? ⟨gp, offp + k, none⟩ = some (.int .i64 (p : Int)) := hcp
          have hcq' : (wr.drewN nq).cell? ⟨gq, offq + k, none⟩ = some (.int .i64 (q : Int)) := hcq
          have hcc' : (wr.drewN nq).cell? ⟨bc, offc + p, none⟩ = some (.int .i64 (f : Int)) := hcc
          have hcz' : (wr.drewN nq).cell? ⟨b, off + L, none⟩ = some (.int .i64 z) := hcz
          have hhq : (wr.drewN nq).heap = w2.heap := hh
          have hbq : Below w.heap.size w (wr.drewN nq) := below_drewN hbw _
          clear hcp hcq hcc hcz hh hbw HPX
          generalize wr.drewN nq = wq at *
          go_wp2_with fail
          go_quiet (fail)
          go_wp2
          go_roundw
          case rel => exact ⟨k + 1, by omega, by go_num, hhq, below_drewN hbq _⟩
          case measure => simp [intOf]; omega
      · have hkn : k = n := by omega
        subst hkn
        have hcz : wr.cell? ⟨b, off + L, none⟩ = some (.int .i64 z) := cell_heap hh hlastc
        have HPW : Hid (IsInts wr (.slice (some ⟨gp, offp, none⟩) k cp) (tenants st)) := HPI.out.heap hh
        go_wp2_with (go_at_call 12; go_must (refine (has_at HPW.out HLC.out _ (by rfl)).mono ?_; rintro e w' ⟨rfl, hw⟩; have hw := hw.symm; subst hw))
        go_ret
        exact ⟨rfl, hbw⟩

theorem landCredits_own : ownKnob Try.prog.godebug = none := by kernel_rfl
theorem landCredits_laidOut : laidOutB Try.prog = true := by kernel_rfl

set_option maxRecDepth 100000 in
theorem landCredits_lifted (os : Os) (started : os.Started) (H : Type) (enc : TypeId × Value → H) :
    ReturnsInHanded {} Try.checked os 7 .any (Rows.landCreditsSpec.pre6 enc Try.prog Try.f7 Rows.landCreditsRow.domain false) (Rows.landCreditsSpec.post enc Try.prog Try.f7 false true false false) := by
  refine returnsInHanded_of_change (C := Try.checked) landCredits_own started (by kernel_rfl) Try.func7
    (ChangeSpec.witness6 (enc := enc) (C := Try.checked) false ⟨#[], #[.slice none 0 0, .slice none 0 0, .int .i64 0], []⟩ 8 (by kernel_rfl) (by kernel_rfl) (by kernel_rfl) (by kernel_rfl)) ?_
  intro W base args ds gs before hval0 hW _ _
  have hval : ∀ (j : Nat) t v, Try.f7.params[j]? = some t → args[j]? = some v → Value.okWide Try.prog W .any base t v := hval0
  have hW' : DataW.Whole enc Try.prog Try.f7.params.toList Rows.landCreditsSpec.vars false W args.toList ds gs before := hW
  obtain ⟨p, q, hA0, hV, rfl, hfz, hnd⟩ := hW
  have hA : DataW.TrodAll enc Try.prog W 0 (fun _ => true) true Try.f7.params.toList args.toList ds p := hA0
  rw [Try.params7] at hA hval
  obtain ⟨v0, vs0, d0, ds0, p0, q0, hargs, rfl, rfl, h0, r0⟩ := trodAll_cons hA
  obtain ⟨v1, vs1, d1, ds1, p1, q1, rfl, rfl, rfl, h1, r1⟩ := trodAll_cons r0
  obtain ⟨v2, vs2, d2, ds2, p2, q2, rfl, rfl, rfl, h2, r2⟩ := trodAll_cons r1
  obtain ⟨rfl, rfl, rfl⟩ := trodAll_nil r2
  obtain rfl : args = #[v0, v1, v2] := by cases args; simp_all
  obtain ⟨rfl, rfl⟩ := trodVars_none hV
  obtain ⟨n2, rfl, rfl, rfl, wn2⟩ := open_int Try.underlying3 (hval 2 3 v2 rfl rfl) h2
  obtain ⟨l0, ao0, cap0, hv0, hl0⟩ := arg_ints Try.underlying22 Try.underlying3 (by kernel_rfl) (hval 0 22 v0 rfl rfl) h0
  obtain ⟨l1, ao1, cap1, hv1, hl1⟩ := arg_ints Try.underlying22 Try.underlying3 (by kernel_rfl) (hval 1 22 v1 rfl rfl) h1
  clear hA0 hval0
  refine (credits_any v0 l0 v1 l1 n2 W hl0 ⟨ao0, cap0, hv0⟩ hl1 ⟨ao1, cap1, hv1⟩).mono fun e W' ⟨he, hb⟩ => ?_
  subst he
  exact ⟨_, rfl, law_post hW' hb landCredits_laidOut rfl (by kernel_rfl) (by kernel_rfl) Try.underlying4 rfl rfl rfl⟩

theorem landCredits_holds : Rows.LandCreditsSaid :=
  OpenClaim.holds_of_wide 7 Try.f7 rfl rfl rfl rfl rfl rfl rfl ⟨rfl, rfl, rfl, rfl, rfl⟩ rfl rfl rfl rfl rfl (by kernel_rfl) Try.func7 (by kernel_rfl)
    (of_decide_eq_true (by kernel_rfl)) (by unfold Func.isWrapper; first | (rw [if_pos (by decide +kernel)]; kernel_rfl) | (rw [if_neg (by decide +kernel)]; exact ⟨rfl, rfl⟩))
    (fun os started H enc _ => landCredits_lifted os started H enc)
end Go.Proofs.Ytedmfehjifknbaa
