/- The walk of sweep.Mark's function that comes to a node, with a pile. -/
import Derived.Test.YtelmfccpcejdnaaDoorSMark
import Derived.Test.YtelmfccpcejdnaaDoorLists
namespace Go.Proofs.YtelmfccpcejdnaaDoor
set_option maxRecDepth 100000
open Go.RowKit Go.Sort

theorem IsInts.open_at {w : World} {ao : Option Addr} {n cap k : Nat} {l : List Int} (h : IsInts w (.slice ao n cap) l) (hk : k < l.length) : ∃ b off, ao = some ⟨b, off, none⟩ ∧ l.length ≤ cap ∧ b < w.heap.size ∧ ∀ j, j < l.length → w.cell? ⟨b, off + j, none⟩ = some (.int .i64 (l[j]?.getD 0)) := by
  obtain ⟨ao', cap', e, _, ho⟩ := h.opened
  simp only [Value.slice.injEq] at e
  obtain ⟨rfl, rfl, rfl⟩ := e
  exact ho k hk
/-- Nodes of a heap, none of them twice. -/
def Inn (L : List (List Int)) (A : List Int) : Prop := A.Nodup ∧ ∀ y, y ∈ A → 0 ≤ y ∧ y < L.length
theorem inn_nil (L : List (List Int)) : Inn L [] := ⟨by simp, by simp⟩
theorem Inn.few {L : List (List Int)} {A : List Int} (h : Inn L A) : A.length ≤ L.length := by
  have := length_le_of_subset h.1 fun p hp => upTo_mem.2 (h.2 p hp)
  rwa [upTo_length] at this
theorem Inn.add {L : List (List Int)} {A : List Int} (h : Inn L A) {x : Int} (hx : 0 ≤ x ∧ x < L.length) (hA : x ∉ A) : Inn L (A ++ [x]) := by
  refine ⟨List.nodup_append.2 ⟨h.1, by simp, fun a ha b hb => ?_⟩, fun y hy => ?_⟩
  · rw [List.mem_singleton] at hb
    rintro rfl
    exact hA (hb ▸ ha)
  · rcases List.mem_append.1 hy with hy | hy
    · exact h.2 y hy
    · rw [List.mem_singleton] at hy; rw [hy]; exact hx
theorem Inn.deep {L : List (List Int)} {R A l C : List Int} (h : Inn L A) (hf : FineH L R) (hl : ∀ x, x ∈ l → 0 ≤ x ∧ x < L.length) (hd : Deep (gOf L) A l C) : Inn L C := by
  obtain ⟨N, h1, h2, _, h4, _⟩ := hd.marked
  refine ⟨h2 h.1, fun y hy => ?_⟩
  rw [h1] at hy
  rcases List.mem_append.1 hy with hy | hy
  · exact h.2 y hy
  · exact hf.come hl (h4 y hy)
theorem unm_mono {g : Int → List Int} {U A l C : List Int} (hU : U.Nodup) (hd : Deep g A l C) : unmarked U C ≤ unmarked U A := by
  obtain ⟨N, h1, _⟩ := hd.marked
  unfold unmarked
  refine length_le_of_subset (hU.filter _) fun p hp => ?_
  have hp := List.mem_filter.1 hp
  refine List.mem_filter.2 ⟨hp.1, ?_⟩
  have h3 : p ∉ C := by simpa using hp.2
  have : p ∉ A := fun h => h3 (by rw [h1]; exact List.mem_append_left _ h)
  simpa using this
/-- What the function sees. -/
structure Env (w0 w : World) (B bo gm cm gh cc : Nat) (ao : Option Addr) (co : Nat) (L : List (List Int)) : Prop where
  rows : IsRows w0 (.slice ao L.length co) L
  lt0 : w0.heap.size ≤ bo
  bB : bo ≤ B
  below : Below w0.heap.size w0 w
  mark : w.cell? ⟨cm, 0, none⟩ = some (.func (.func 31) #[] #[.pointer (some ⟨gm, 0, none⟩)])
  come : w.cell? ⟨cc, 0, none⟩ = some (.func (.func 21) #[] #[.pointer (some ⟨cm, 0, none⟩), .pointer (some ⟨gh, 0, none⟩), .pointer (some ⟨cc, 0, none⟩)])
  order : w.cell? ⟨gm, 0, none⟩ = some (.pointer (some ⟨bo, 0, none⟩))
  outs : w.cell? ⟨gh, 0, none⟩ = some (.slice ao L.length co)
  ltm : cm < B ∧ cm ≠ bo
  ltc : cc < B ∧ cc ≠ bo
  lto : gm < B ∧ gm ≠ bo
  lth : gh < B ∧ gh ≠ bo
theorem Env.but {w0 w w1 : World} {B bo gm cm gh cc co : Nat} {ao : Option Addr} {L : List (List Int)} (h : Env w0 w B bo gm cm gh cc ao co L) (hb : But B bo w w1) : Env w0 w1 B bo gm cm gh cc ao co L :=
  ⟨h.rows, h.lt0, h.bB, h.below.trans ((hb.below h.bB).mono h.lt0), by rw [hb.cell h.ltm.1 h.ltm.2]; exact h.mark, by rw [hb.cell h.ltc.1 h.ltc.2]; exact h.come, by rw [hb.cell h.lto.1 h.lto.2]; exact h.order, by rw [hb.cell h.lth.1 h.lth.2]; exact h.outs, h.ltm, h.ltc, h.lto, h.lth⟩
section
variable {w0 : World} {B bo gm cm gh cc co : Nat} {ao : Option Addr} {L : List (List Int)} {R : List Int}
set_option maxHeartbeats 2000000 in
theorem come_any (hf : FineH L R) (n : Nat) : ∀ (x : Nat) (A C : List Int) (vo : Value) (w : World), unmarked (upTo L.length) A < n → x < L.length → Inn L A → Deep (gOf L) A [(x : Int)] C → Ord w B bo A vo → Env w0 w B bo gm cm gh cc ao co L →
    Calls Tryd.prog 21 #[.int .i64 (x : Nat), .pointer (some ⟨cm, 0, none⟩), .pointer (some ⟨gh, 0, none⟩), .pointer (some ⟨cc, 0, none⟩)] w fun e w' => e = .returned (.tuple #[]) ∧ (∃ vo', Ord w' B bo C vo') ∧ But B bo w w' := by
  induction n with
  | zero => intro _ _ _ _ _ h; omega
  | succ n ih =>
    intro x A C vo w hn hx hI hd ho he
    have HIH : Hid (∀ (x : Nat) (A C : List Int) (vo : Value) (w : World), unmarked (upTo L.length) A < n → x < L.length → Inn L A → Deep (gOf L) A [(x : Int)] C → Ord w B bo A vo → Env w0 w B bo gm cm gh cc ao co L →
      Calls Tryd.prog 21 #[.int .i64 (x : Nat), .pointer (some ⟨cm, 0, none⟩), .pointer (some ⟨gh, 0, none⟩), .pointer (some ⟨cc, 0, none⟩)] w fun e w' => e = .returned (.tuple #[]) ∧ (∃ vo', Ord w' B bo C vo') ∧ But B bo w w') := ih
    clear ih
    have HF : Hid (FineH L R) := hf
    have HO : Hid (Ord w B bo A vo) := ho
    have HE : Hid (Env w0 w B bo gm cm gh cc ao co L) := he
    have HII : Hid (Inn L A) := hI
    have hcm := he.mark
    have hcc := he.come
    by_cases hA : (x : Int) ∈ A
    · have HA : Hid ((x : Int) ∈ A) := hA
      have hCA : C = A := ((Deep.pop hA).1 hd).det .nil
      subst hCA
      clear hd ho he hI hA hcc
      go_enter Tryd.func21, Tryd.ntmps21
      go_wp2_with (go_at_call 31; go_must (refine (mark_old (x : Int) HA.out HO.out HE.out.order).mono ?_; rintro e w' ⟨rfl, hw⟩; have hw := hw.symm; subst hw))
      refine bodyPost_ret (results_none rfl _ _ _) rfl ?_
      exact ⟨rfl, ⟨_, HO.out⟩, But.refl _ _ _⟩
    · have HA : Hid ((x : Int) ∉ A) := hA
      have HN : Hid (unmarked (upTo L.length) (A ++ [(x : Int)]) < n) := by
        have := unm_less (n := L.length) (A := A) (x := (x : Int)) ⟨by omega, by omega⟩ hA
        unfold Hid; omega
      have HI1 : Hid (Inn L (A ++ [(x : Int)])) := hI.add ⟨by omega, by omega⟩ hA
      have HD : Hid (Deep (gOf L) (A ++ [(x : Int)]) (rowAt L x) C) := by
        have := (Deep.push hA).1 hd
        rw [List.append_nil, gOf_at] at this
        exact this
      have hl12 : A.length ≤ 100 := by have := hI.few; have := hf.few; omega
      clear hd ho he hI hA hcc
      go_enter Tryd.func21, Tryd.ntmps21
      go_wp2_with (go_at_call 31; fail)
      refine (mark_new (x : Int) HA.out hl12 HO.out HE.out.order HE.out.lto.2 HE.out.lto.1).mono ?_
      rintro e w1 ⟨rfl, vo1, ho1, hm1⟩
      have HB1 : Hid (But B bo w w1) := hm1.but HO.out
      have HE1 : Hid (Env w0 w1 B bo gm cm gh cc ao co L) := HE.out.but HB1.out
      have HO1 : Hid (Ord w1 B bo (A ++ [(x : Int)]) vo1) := ho1
      clear HE HO hm1 ho1 hcm
      obtain ⟨b, off, rfl, hlc, hbs, au, cu, hcu, hiu, hmm, hcum⟩ := HE1.out.rows.at hx
      have hcu1 : w1.cell? ⟨b, off + x, none⟩ = some (.slice au (rowAt L x).length cu) := (HE1.out.below.cell (p := ⟨b, off + x, none⟩) hbs).trans hcu
      have HIU : Hid (IsInts w0 (.slice au (rowAt L x).length cu) (rowAt L x)) := hiu
      have ho1 := HE1.out.outs
      have hxi : (x : Int) < (L.length : Int) := by omega
      have HRN : Hid (∀ y, y ∈ rowAt L x → 0 ≤ y ∧ y < L.length) := HF.out.node _ (rowAt_mem hx)
      clear hiu hcu
      go_wp2
      go_loopw [17] (fun i wr => ∃ (k : Nat) (A2 : List Int) (vo2 : Value), k ≤ (rowAt L x).length ∧ i = .int .i64 (k : Nat) ∧ Hid (Ord wr B bo A2 vo2) ∧ Hid (Inn L A2) ∧ Hid (unmarked (upTo L.length) A2 < n) ∧ Hid (Deep (gOf L) A2 ((rowAt L x).drop k) C) ∧ Hid (But B bo w1 wr)) (fun i _ => (rowAt L x).length - (intOf i).toNat)
      case atStart => exact ⟨0, _, _, Nat.zero_le _, rfl, HO1, HI1, HN, by rw [List.drop_zero]; exact HD, But.refl _ _ _⟩
      case round =>
        obtain ⟨k, A2, vo2, hk, rfl, HO2, HI2, HN2, HD2, HB2⟩ := hrel
        by_cases hlt : k < (rowAt L x).length
        · have hlt' : (k : Int) < ((rowAt L x).length : Int) := by omega
          have HE2 : Hid (Env w0 wr B bo gm cm gh cc (some ⟨b, off, none⟩) co L) := HE1.out.but HB2.out
          obtain ⟨b2, off2, rfl, hlc2, hb2, hcell⟩ := (HIU.out.below HE2.out.below).open_at hlt
          have hcc2 := HE2.out.come
          have hck := hcell k hlt
          clear hcell
          have hy := HRN.out _ (List.getElem_mem hlt)
          have hdr : (rowAt L x).drop k = (rowAt L x)[k] :: (rowAt L x).drop (k+1) := List.drop_eq_getElem_cons hlt
          rw [List.getElem?_eq_getElem hlt, Option.getD_some] at hck
          have HD3 := HD2.out
          rw [hdr] at HD3
          obtain ⟨A3, hd3, hd4⟩ := Deep.one.1 HD3
          generalize (rowAt L x)[k] = y at *
          obtain ⟨y, rfl⟩ : ∃ t : Nat, y = (t : Int) := ⟨y.toNat, by omega⟩
          have hyl : y < L.length := by omega
          have HD3 : Hid (Deep (gOf L) A2 [(y : Int)] A3) := hd3
          have HD4 : Hid (Deep (gOf L) A3 ((rowAt L x).drop (k+1)) C) := hd4
          have HI3 : Hid (Inn L A3) := HI2.out.deep HF.out (fun z hz => by rw [List.mem_singleton] at hz; rw [hz]; exact hy) hd3
          have HN3 : Hid (unmarked (upTo L.length) A3 < n) := Nat.lt_of_le_of_lt (unm_mono (upTo_nodup _) hd3) HN2.out
          clear hd3 hd4 hdr hy HD2
          go_wp2_with (go_at_call 21; go_must (refine (HIH.out y A2 A3 vo2 _ HN2.out hyl HI2.out HD3.out HO2.out HE2.out).mono ?_; rintro e w3 ⟨rfl, ⟨vo3, ho3⟩, hb3⟩; have HO3 : Hid _ := ho3; have HB3 : Hid _ := hb3; clear ho3 hb3))
          go_roundw
          case rel => exact ⟨k + 1, A3, vo3, by omega, by go_num, HO3, HI3, HN3, HD4, HB2.out.trans HB3.out⟩
          case measure => simp [intOf]; omega
        · have hlt' : ¬ (k : Int) < ((rowAt L x).length : Int) := by omega
          have hA2 : C = A2 := by
            have h := HD2.out
            rw [List.drop_eq_nil_of_le (by omega)] at h
            exact h.det .nil
          subst hA2
          go_wp2
          go_end0
          exact ⟨rfl, ⟨_, HO2.out⟩, HB1.out.trans HB2.out⟩
end
end Go.Proofs.YtelmfccpcejdnaaDoor
