/- GraphSorts is proved: of whatever heap, in whatever memory and on every schedule, it returns true and leaves its argument as it was: where no node comes to itself nodes can be taken away one by one, each pointed to by none that is left; and where one does they cannot. No condition. -/
import Derived.Test.YtafjaeoelpelnaaGFact
import Derived.Test.YtafjaeoelpelnaaRBit
import Derived.Test.YtafjaeoelpelnaaRCount
import Derived.Test.YtafjaeoelpelnaaHasAt
import Derived.Test.YtafjaeoelpelnaaWithoutS
import Derived.Test.YtafjaeoelpelnaaGraphM
import Derived.Test.YtafjaeoelpelnaaArgHeap
namespace Go.Proofs.Ytafjaeoelpelnaa
set_option maxRecDepth 100000
open Go.ChangeShapes Go.WideShapes Go.ChangeAt Go.RowKit Go.Sort

/-- The nodes left behind n turns and i nodes. -/
def pasTo (L : List (List Int)) (n i : Nat) : List Int := pass (gOf L) (passes (gOf L) (upTo L.length) n) (upTo i)
theorem pasTo_zero (L : List (List Int)) : pasTo L 0 0 = upTo L.length := rfl
theorem pasTo_last (L : List (List Int)) (n : Nat) : pasTo L n L.length = pasTo L (n+1) 0 := rfl
theorem pasTo_succ (L : List (List Int)) (n i : Nat) : pasTo L n (i+1) = if pointed (gOf L) (pasTo L n i) (i : Int) then pasTo L n i else (pasTo L n i).erase (i : Int) := by
  unfold pasTo
  rw [upTo_next, pass_snoc]; rfl
theorem pasTo_mem {L : List (List Int)} {n i : Nat} {x : Int} (h : x ∈ pasTo L n i) : 0 ≤ x ∧ x < L.length := upTo_mem.1 (passes_sub n x (pass_sub h))
theorem pasTo_short (L : List (List Int)) (n i : Nat) : (pasTo L n i).length ≤ L.length := by
  have := length_le_of_subset (pass_nodup (g := gOf L) (l := upTo i) (passes_nodup (g := gOf L) (upTo_nodup L.length) n)) fun p hp => upTo_mem.2 (pasTo_mem hp)
  rwa [upTo_length] at this
/-- What is known behind k of those left. -/
def poiTo (L : List (List Int)) (A : List Int) (i k : Nat) : Bool := !A.contains (i : Int) || (A.take k).any fun x => (gOf L x).contains (i : Int)
theorem poiTo_succ {L : List (List Int)} {A : List Int} {i k : Nat} (hk : k < A.length) : poiTo L A i (k+1) = (poiTo L A i k || (gOf L (A[k]?.getD 0)).contains (i : Int)) := by
  unfold poiTo
  rw [List.take_succ_eq_append_getElem hk, List.any_append, List.getElem?_eq_getElem hk, Bool.or_assoc]
  simp
theorem poiTo_all {L : List (List Int)} {A : List Int} {i k : Nat} (hk : A.length ≤ k) : poiTo L A i k = pointed (gOf L) A (i : Int) := by
  unfold poiTo pointed
  rw [List.take_of_length_le hk]
theorem sorts_end {L : List (List Int)} {R : List Int} (hf : FineH L R) {m : Nat} (hm : RingsOf L m) : (m = 0 ↔ (pasTo L L.length 0).length = 0) ∧ ∀ i : Nat, i < L.length → m.testBit i = true → (pasTo L L.length 0).contains (i : Int) = true := by
  have hR : ∀ x, Ring (gOf L) x → x ∈ upTo L.length := fun x hx => ring_node (fun y hy => gOf_out hy) hx
  have h := sorts (g := gOf L) (nodes := upTo L.length) (upTo_nodup _) hR
  rw [upTo_length] at h
  have hl12 := hf.few
  refine ⟨?_, fun i hi hb => List.contains_iff_mem.2 (passes_ring hR L.length _ ((hm.2 i (by omega)).1 hb))⟩
  show m = 0 ↔ (passes (gOf L) (upTo L.length) L.length).length = 0
  rw [List.length_eq_zero_iff, ← h]
  constructor
  · intro h0 x hx
    have hx2 := upTo_mem.1 (hR x hx)
    have := (hm.2 x.toNat (by omega)).2 (by rwa [Int.toNat_of_nonneg hx2.1])
    rw [h0] at this; simp at this
  · intro h0
    refine bits_unique hm.1 (by decide) fun i hi => ?_
    rw [Nat.zero_testBit, Bool.eq_false_iff]
    intro hb
    exact h0 _ ((hm.2 i hi).1 hb)
set_option maxHeartbeats 4000000 in
theorem gsorts_any (v : Value) (L : List (List Int)) (R : List Int) (w : World) (hv : IsHeap w v L R) (_ : CameH w v R) :
    Calls Try.prog 4 #[v] w fun e w' => e = .returned (.bool true) ∧ Below w.heap.size w w' := by
  obtain ⟨ao, co, ar, cr, rfl, h1, h2⟩ := hv.form
  have HBX : Hid (Boxed w (w.alloc (.cells #[.slice ao L.length co, .slice ar R.length cr] 25)) w.heap.size ao co ar cr L R) := boxed h1 h2 _
  clear hv h1 h2
  go_enter Try.func4, Try.ntmps4
  go_wp2_with (go_at_call 5; fail)
  generalize w.alloc (.cells #[.slice ao L.length co, .slice ar R.length cr] 25) = W at *
  refine (graphfact_any _).mono ?_
  rintro e w1 ⟨rfl, hb1⟩
  have HB1 : Hid (Boxed w w1 w.heap.size ao co ar cr L R) := HBX.out.later hb1
  clear HBX hb1
  have hd0 : w1.cell? ⟨w.heap.size, 0, none⟩ = some (.slice ao L.length co) := HB1.out.outs
  have hd1 : w1.cell? ⟨w.heap.size, 1, none⟩ = some (.slice ar R.length cr) := HB1.out.roots
  go_wp2_with (go_at_call 9; fail)
  refine (rounds_any _ L R _ HB1.out.isHeap).mono ?_
  rintro e w2 ⟨⟨m, rfl, hm⟩, hb2⟩
  have HB2 : Hid (Boxed w w2 w.heap.size ao co ar cr L R) := HB1.out.later hb2
  clear hd0 hd1 HB1 hb2
  by_cases h0 : chkH L R = 0
  · have HF : Hid (FineH L R) := chkH_zero.1 h0
    have hl12 := HF.out.few
    have hm0 := hm
    unfold RoundsIs at hm0
    rw [if_pos h0] at hm0
    obtain ⟨he1, he2⟩ := sorts_end HF.out hm0
    have HE1 : Hid (m = 0 ↔ (pasTo L L.length 0).length = 0) := he1
    have HE2 : Hid (∀ i : Nat, i < L.length → m.testBit i = true → (pasTo L L.length 0).contains (i : Int) = true) := he2
    have hm16 : m < 65536 := hm0.1
    rw [h0, show errV 0 = .nilIface from rfl]
    clear hm hm0 h0 he1 he2
    have hd0 : w2.cell? ⟨w.heap.size, 0, none⟩ = some (.slice ao L.length co) := HB2.out.outs
    have hcO := HB2.out.capO
    go_wp2_with (go_at_call 10; fail)
    refine (rcount_any L.length (by omega) _).mono ?_
    rintro e w3 ⟨lv, rfl, hO3, hb3⟩
    have HB3 : Hid (Boxed w w3 w.heap.size ao co ar cr L R) := HB2.out.later hb3
    have HI3 : Hid (IsInts w3 lv (pasTo L 0 0)) := hO3.isInts
    clear hd0 hb3 hO3 HB2
    go_wp2
    go_loopw [6, 7] (fun lv i wr => ∃ n : Nat, n ≤ L.length ∧ i = .int .i64 (n : Nat) ∧ IsInts wr lv (pasTo L n 0) ∧ Below w3.heap.size w3 wr) (fun _ i _ => L.length - (intOf i).toNat)
    case atStart => exact ⟨0, Nat.zero_le _, rfl, HI3.out, Below.refl _ _⟩
    case round =>
      obtain ⟨n, hn, rfl, hi, hbel⟩ := hrel
      have HI4 : Hid (IsInts wr u6 (pasTo L n 0)) := hi
      have HBW : Hid (Below w3.heap.size w3 wr) := hbel
      have HB4 : Hid (Boxed w wr w.heap.size ao co ar cr L R) := HB3.out.later hbel
      have hd0 : wr.cell? ⟨w.heap.size, 0, none⟩ = some (.slice ao L.length co) := HB4.out.outs
      clear hi hbel
      by_cases hlt : n < L.length
      · have hlt' : (n : Int) < (L.length : Int) := by omega
        go_wp2
        clear hd0
        obtain ⟨wA, hwA⟩ : ∃ wA, wA = wr := ⟨_, rfl⟩
        subst hwA
        go_loopw [6, 8] (fun lv i wr => ∃ j : Nat, j ≤ L.length ∧ i = .int .i64 (j : Nat) ∧ IsInts wr lv (pasTo L n j) ∧ Below w3.heap.size w3 wr) (fun _ i _ => L.length - (intOf i).toNat)
        case atStart => exact ⟨0, Nat.zero_le _, rfl, HI4.out, HBW.out⟩
        case round =>
          obtain ⟨j, hj, rfl, hi, hbel⟩ := hrel
          clear HI4 HBW HB4
          have HBW : Hid (Below w3.heap.size w3 wr) := hbel
          have HB4 : Hid (Boxed w wr w.heap.size ao co ar cr L R) := HB3.out.later hbel
          have hd0 : wr.cell? ⟨w.heap.size, 0, none⟩ = some (.slice ao L.length co) := HB4.out.outs
          obtain ⟨lo, lc, rfl, hlcap, hlo⟩ := hi.opened
          have HI4 : Hid (IsInts wr (.slice lo (pasTo L n j).length lc) (pasTo L n j)) := hi
          have HLO : Hid (∀ k, k < (pasTo L n j).length → ∃ b off, lo = some ⟨b, off, none⟩ ∧ (pasTo L n j).length ≤ lc ∧ b < wr.heap.size ∧ ∀ q, q < (pasTo L n j).length → wr.cell? ⟨b, off + q, none⟩ = some (.int .i64 ((pasTo L n j)[q]?.getD 0))) := hlo
          clear hi hbel hlo
          unfold maxLen at hlcap
          by_cases hjt : j < L.length
          · have hjt' : (j : Int) < (L.length : Int) := by omega
            have HSU : Hid (pasTo L n (j+1) = if pointed (gOf L) (pasTo L n j) (j : Int) then pasTo L n j else (pasTo L n j).erase (j : Int)) := pasTo_succ L n j
            have HMEM : Hid (∀ x, x ∈ pasTo L n j → 0 ≤ x ∧ x < L.length) := fun x hx => pasTo_mem hx
            have hsh := pasTo_short L n j
            have HC0 : Hid (poiTo L (pasTo L n j) j 0 = !(pasTo L n j).contains (j : Int)) := by unfold Hid poiTo; simp
            have HPA : Hid (∀ k, (pasTo L n j).length ≤ k → poiTo L (pasTo L n j) j k = pointed (gOf L) (pasTo L n j) (j : Int)) := fun k hk => poiTo_all hk
            have HPS : Hid (∀ k, k < (pasTo L n j).length → poiTo L (pasTo L n j) j (k+1) = (poiTo L (pasTo L n j) j k || (gOf L ((pasTo L n j)[k]?.getD 0)).contains (j : Int))) := fun k hk => poiTo_succ hk
            generalize pasTo L n j = A at *
            generalize hA' : pasTo L n (j+1) = A' at *
            have HA' : Hid (pasTo L n (j+1) = A') := hA'
            clear hA'
            go_wp2_with (go_at_call 11; fail)
            refine (has_any _ A (j : Int) _ HI4.out).mono ?_
            rintro e w4 ⟨rfl, hw⟩
            have hw := hw.symm
            subst hw
            go_wp2
            clear hd0
            obtain ⟨wB, hwB⟩ : ∃ wB, wB = wr := ⟨_, rfl⟩
            subst hwB
            go_loopw [9, 10] (fun pv i wr => ∃ k : Nat, k ≤ A.length ∧ i = .int .i64 (k : Nat) ∧ pv = .bool (poiTo L A j k) ∧ ∃ q, wr = wB.drewN q) (fun _ i _ => A.length - (intOf i).toNat)
            case atStart => exact ⟨0, Nat.zero_le _, rfl, by rw [HC0.out]; simp, 0, rfl⟩
            case round =>
              obtain ⟨k, hk, rfl, rfl, q, hq⟩ := hrel
              have HB5 : Hid (Boxed w wr w.heap.size ao co ar cr L R) := by unfold Hid; rw [hq]; exact HB4.out.drewN q
              have HI5 : Hid (IsInts wr (.slice lo A.length lc) A) := by unfold Hid; rw [hq]; exact HI4.out
              have HEQ : Hid (∃ q, wr = wB.drewN q) := ⟨q, hq⟩
              have HW0 : Hid (∀ n, ∃ q', wr.drewN n = wB.drewN q') := fun n => ⟨q + n, by rw [hq, World.drewN_drewN]⟩
              have hd0 : wr.cell? ⟨w.heap.size, 0, none⟩ = some (.slice ao L.length co) := HB5.out.outs
              by_cases hkt : k < A.length
              · have hkt' : (k : Int) < (A.length : Int) := by omega
                obtain ⟨b, off, rfl, hlc, hbs, hcell⟩ := HLO.out k hkt
                have hck0 := hcell k hkt
                have hxm : 0 ≤ A[k]?.getD 0 ∧ A[k]?.getD 0 < L.length := HMEM.out _ (by rw [List.getElem?_eq_getElem hkt]; exact List.getElem_mem _)
                have HPK := HPS.out k hkt
                obtain ⟨x, hx⟩ : ∃ x : Nat, A[k]?.getD 0 = x := ⟨(A[k]?.getD 0).toNat, by omega⟩
                rw [hx] at hck0 hxm HPK
                have hck : wr.cell? ⟨b, off + k, none⟩ = some (.int .i64 (x : Int)) := by rw [hq]; exact hck0
                clear hcell hck0 hx hq
                have hxl : x < L.length := by omega
                obtain ⟨bo, oo, rfl, hlco, hbso, au, cu, hcu, hiu, hmm, hcum⟩ := HB5.out.rows.at hxl
                have hcx : (gOf L (x : Int)).contains (j : Int) = (rowAt L x).contains (j : Int) := by rw [gOf_at]; rfl
                rw [hcx] at HPK
                have hxb : (x : Int) < (L.length : Int) := by omega
                have hx0 : (0 : Int) ≤ (x : Int) := by omega
                obtain ⟨r, hr⟩ : ∃ r, (rowAt L x).contains (j : Int) = r := ⟨_, rfl⟩
                have HR : Hid ((rowAt L x).contains (j : Int) = r) := hr
                have HIU : Hid (IsInts wr (.slice au (rowAt L x).length cu) (rowAt L x)) := hiu
                have HPK' : Hid (poiTo L A j (k+1) = (poiTo L A j k || r)) := by unfold Hid; rw [HPK, hr]
                clear hcx HPK hiu hr hbs hbso hxm
                generalize poiTo L A j k = p at *
                cases p with
                | true =>
                  go_wp2
                  go_quiet (first | (go_at_call 11; exact (has_at HIU.out HR.out _ (by rfl)).mono fun _ _ ⟨he, hm⟩ => ⟨he, _, hm⟩))
                  go_wp2
                  go_roundw
                  case rel => exact ⟨k + 1, by omega, by go_num, by rw [HPK'.out]; rfl, HW0.out _⟩
                  case measure => simp [intOf]; omega
                | false =>
                  go_wp2
                  go_quiet (first | (go_at_call 11; exact (has_at HIU.out HR.out _ (by rfl)).mono fun _ _ ⟨he, hm⟩ => ⟨he, _, hm⟩))
                  go_wp2
                  go_roundw
                  case rel => exact ⟨k + 1, by omega, by go_num, by rw [HPK'.out]; rfl, HW0.out _⟩
                  case measure => simp [intOf]; omega
              · have hkt' : ¬ (k : Int) < (A.length : Int) := by omega
                have HBR : Hid (Below w3.heap.size w3 wr) := by unfold Hid; rw [hq]; exact below_drewN HBW.out q
                have HPF : Hid (poiTo L A j k = pointed (gOf L) A (j : Int)) := HPA.out k (by omega)
                clear hq
                cases hp : pointed (gOf L) A (j : Int) with
                | true =>
                  have HF1 : Hid (poiTo L A j k = true) := by unfold Hid; rw [HPF.out, hp]
                  have HA2 : Hid (A' = A) := by unfold Hid; rw [HSU.out, hp]; rfl
                  clear hp
                  rw [HF1.out]
                  go_wp2
                  go_roundw
                  case rel => exact ⟨j + 1, by omega, by go_num, by rw [HA'.out, HA2.out]; exact HI5.out, HBR.out⟩
                  case measure => simp [intOf]; omega
                | false =>
                  have HF1 : Hid (poiTo L A j k = false) := by unfold Hid; rw [HPF.out, hp]
                  have HA2 : Hid (A' = A.erase (j : Int)) := by unfold Hid; rw [HSU.out, hp]; rfl
                  clear hp
                  rw [HF1.out]
                  go_wp2_with (go_at_call 12; fail)
                  refine (without_any _ A (j : Int) _ HI5.out (by omega)).mono ?_
                  rintro e w6 ⟨v6, rfl, hO6, hb6⟩
                  have HI6 : Hid (IsInts w6 v6 A') := by unfold Hid; rw [HA2.out]; exact hO6.isInts
                  have HB6 : Hid (Below w3.heap.size w3 w6) := HBR.out.trans (hb6.mono HBR.out.size)
                  clear hO6 hb6
                  go_wp2
                  go_roundw
                  case rel => exact ⟨j + 1, by omega, by go_num, by rw [HA'.out]; exact HI6.out, HB6.out⟩
                  case measure => simp [intOf]; omega
          · have hjt' : ¬ (j : Int) < (L.length : Int) := by omega
            have HI5 : Hid (IsInts wr (.slice lo (pasTo L n j).length lc) (pasTo L (n+1) 0)) := by unfold Hid; rw [← pasTo_last, show L.length = j by omega]; exact HI4.out
            generalize (pasTo L n j).length = nn at *
            clear HI4 HLO
            go_wp2
            go_roundw
            case rel => exact ⟨n + 1, by omega, by go_num, HI5.out, HBW.out⟩
            case measure => simp [intOf]; omega
      · have hlt' : ¬ (n : Int) < (L.length : Int) := by omega
        have HI5 : Hid (IsInts wr u6 (pasTo L L.length 0)) := by have := HI4.out; rwa [show n = L.length by omega] at this
        have hsh := pasTo_short L L.length 0
        clear HI4
        generalize pasTo L L.length 0 = A at *
        obtain ⟨lo, lc, rfl, hlcap, _⟩ := HI5.out.opened
        go_wp2
        go_loop [11] (fun i => ∃ k : Nat, k ≤ L.length ∧ i = .int .i64 (k : Nat)) (fun i => L.length - (intOf i).toNat)
        case atStart => exact ⟨0, Nat.zero_le _, rfl⟩
        case round =>
          obtain ⟨k, hk, rfl⟩ := hrel
          by_cases hkt : k < L.length
          · have hkt' : (k : Int) < (L.length : Int) := by omega
            have HE3 := HE2.out k hkt
            cases hb : m.testBit k with
            | true =>
              have HBT : Hid (m.testBit k = true) := hb
              have HCT : Hid (A.contains (k : Int) = true) := HE3 hb
              clear hb HE3
              go_wp2_with (first | (go_at_call 7; go_must (refine (rbit_any m k hm16 (by omega) _).mono ?_; rintro e w' ⟨rfl, hw⟩; have hw := hw.symm; subst hw; rw [HBT.out])) | (go_at_call 11; go_must (refine (has_any _ A (k : Int) _ HI5.out).mono ?_; rintro e w' ⟨rfl, hw⟩; have hw := hw.symm; subst hw; rw [HCT.out])))
              go_round
              case rel => exact ⟨k + 1, by omega, by go_num⟩
              case measure => simp [intOf]; omega
            | false =>
              have HBT : Hid (m.testBit k = false) := hb
              clear hb HE3
              go_wp2_with (first | (go_at_call 7; go_must (refine (rbit_any m k hm16 (by omega) _).mono ?_; rintro e w' ⟨rfl, hw⟩; have hw := hw.symm; subst hw; rw [HBT.out])))
              go_round
              case rel => exact ⟨k + 1, by omega, by go_num⟩
              case measure => simp [intOf]; omega
          · have hkt' : ¬ (k : Int) < (L.length : Int) := by omega
            by_cases hm0 : m = 0
            · have hA0 : A.length = 0 := HE1.out.1 hm0
              have e1 : ((m : Int) == 0) = true := by rw [beq_iff_eq]; omega
              have e2 : ((A.length : Int) == 0) = true := by rw [beq_iff_eq]; omega
              have HBR : Hid (Below w.heap.size w wr) := HB4.out.below
              clear hA0
              go_wp2
              go_ret
              exact ⟨rfl, HBR.out⟩
            · have hA0 : ¬ A.length = 0 := fun h => hm0 (HE1.out.2 h)
              have e1 : ((m : Int) == 0) = false := by rw [beq_eq_false_iff_ne]; omega
              have e2 : ((A.length : Int) == 0) = false := by rw [beq_eq_false_iff_ne]; omega
              have HBR : Hid (Below w.heap.size w wr) := HB4.out.below
              clear hA0
              go_wp2
              go_ret
              exact ⟨rfl, HBR.out⟩
  · unfold RoundsIs at hm
    rw [if_neg h0] at hm
    subst hm
    rw [errV_pos h0]
    go_wp2
    go_ret
    exact ⟨rfl, HB2.out.below⟩

theorem graphSorts_own : ownKnob Try.prog.godebug = none := by kernel_rfl
theorem graphSorts_laidOut : laidOutB Try.prog = true := by kernel_rfl

set_option maxRecDepth 100000 in
theorem graphSorts_lifted (os : Os) (started : os.Started) (H : Type) (enc : TypeId × Value → H) :
    ReturnsInHanded {} Try.checked os 4 .any (Rows.graphSortsSpec.pre6 enc Try.prog Try.f4 Rows.graphSortsRow.domain false) (Rows.graphSortsSpec.post enc Try.prog Try.f4 false true false false) := by
  refine returnsInHanded_of_change (C := Try.checked) graphSorts_own started (by kernel_rfl) Try.func4
    (ChangeSpec.witness6 (enc := enc) (C := Try.checked) false ⟨#[], #[.agg #[.slice none 0 0, .slice none 0 0]], []⟩ 8 (by kernel_rfl) (by kernel_rfl) (by kernel_rfl) (by kernel_rfl)) ?_
  intro W base args ds gs before hval0 hW _ _
  have hval : ∀ (j : Nat) t v, Try.f4.params[j]? = some t → args[j]? = some v → Value.okWide Try.prog W .any base t v := hval0
  have hW' : DataW.Whole enc Try.prog Try.f4.params.toList Rows.graphSortsSpec.vars false W args.toList ds gs before := hW
  obtain ⟨p, q, hA0, hV, rfl, hfz, hnd⟩ := hW
  have hA : DataW.TrodAll enc Try.prog W 0 (fun _ => true) true Try.f4.params.toList args.toList ds p := hA0
  rw [Try.params4] at hA hval
  obtain ⟨v0, vs0, d0, ds0, p0, q0, hargs, rfl, rfl, h0, r0⟩ := trodAll_cons hA
  obtain ⟨rfl, rfl, rfl⟩ := trodAll_nil r0
  obtain rfl : args = #[v0] := by cases args; simp_all
  obtain ⟨rfl, rfl⟩ := trodVars_none hV
  obtain ⟨l0, rt0, hl0, hc0⟩ := arg_heap (hval 0 25 v0 rfl rfl) h0
  clear hA0 hval0
  refine (gsorts_any v0 l0 rt0 W hl0 hc0).mono fun e W' ⟨he, hb⟩ => ?_
  subst he
  exact ⟨_, rfl, law_post hW' hb graphSorts_laidOut rfl (by kernel_rfl) (by kernel_rfl) Try.underlying4 rfl rfl rfl⟩

theorem graphSorts_holds : Rows.GraphSortsSaid :=
  OpenClaim.holds_of_wide 4 Try.f4 rfl rfl rfl rfl rfl rfl rfl ⟨rfl, rfl, rfl, rfl, rfl⟩ rfl rfl rfl rfl rfl (by kernel_rfl) Try.func4 (by kernel_rfl)
    (of_decide_eq_true (by kernel_rfl)) (by unfold Func.isWrapper; first | (rw [if_pos (by decide +kernel)]; kernel_rfl) | (rw [if_neg (by decide +kernel)]; exact ⟨rfl, rfl⟩))
    (fun os started H enc _ => graphSorts_lifted os started H enc)
end Go.Proofs.Ytafjaeoelpelnaa
