/- ServeDouble is proved: for every list of servers and every list of asks, in whatever memory and on every schedule, it returns true and leaves its arguments as they were: to go from both sides is no more than so many times the least as there are servers, and how far they were apart at first, two by two. No condition. -/
import Derived.Test.YtnjfmlojbaigjaaSFact
import Derived.Test.YtnjfmlojbaigjaaRefAbs
import Derived.Test.YtnjfmlojbaigjaaLawkit
import Derived.Deep.QuietTactic
namespace Go.Proofs.Ytnjfmlojbaigjaa
set_option maxRecDepth 100000
open Go.ChangeShapes Go.WideShapes Go.ChangeAt Go.RowKit Go.Sort

/-- How far one server is from the first j. -/
def rowA (s : List Int) (i : Nat) : Nat → Int
  | 0 => 0
  | j + 1 => rowA s i j + zabs (s[i]?.getD 0 - s[j]?.getD 0)
/-- How far the first i are apart, two by two. -/
def allA (s : List Int) : Nat → Int
  | 0 => 0
  | i + 1 => allA s i + rowA s i i
theorem rowA_most {s : List Int} (h : onLine s) {i : Nat} (hi : i < s.length) : ∀ j, j ≤ s.length → 0 ≤ rowA s i j ∧ rowA s i j ≤ 12 * j
  | 0, _ => by unfold rowA; omega
  | j + 1, hj => by
    have h1 := rowA_most h hi j (by omega)
    have h2 := h _ (get_mem hi)
    have h3 := h _ (get_mem (show j < s.length by omega))
    have hz : 0 ≤ zabs (s[i]?.getD 0 - s[j]?.getD 0) ∧ zabs (s[i]?.getD 0 - s[j]?.getD 0) ≤ 12 := by unfold zabs; omega
    show 0 ≤ _ + _ ∧ _ + _ ≤ _
    omega
theorem allA_most {s : List Int} (h : onLine s) (h3 : s.length ≤ 3) : ∀ i, i ≤ s.length → 0 ≤ allA s i ∧ allA s i ≤ 36 * i
  | 0, _ => by unfold allA; omega
  | i + 1, hi => by
    have h1 := allA_most h h3 i (by omega)
    have h2 := rowA_most h (show i < s.length by omega) i (by omega)
    show 0 ≤ _ + _ ∧ _ + _ ≤ _
    omega
theorem allA_phi {s : List Int} (h : onLine s) (h0 : s ≠ []) (h3 : s.length ≤ 3) : phi s.length s s = allA s s.length := by
  match s, h0, h3 with
  | [a], _, _ => rw [show (([a] : List Int).length : Int) = 1 from rfl, apart_one]; rfl
  | [a, b], _, _ =>
    rw [show (([a, b] : List Int).length : Int) = 2 from rfl, apart_two (h a (by simp)) (h b (by simp))]
    show _ = 0 + 0 + (0 + zabs (b - a))
    omega
  | [a, b, c], _, _ =>
    rw [show (([a, b, c] : List Int).length : Int) = 3 from rfl, apart_three (h a (by simp)) (h b (by simp)) (h c (by simp))]
    show _ = 0 + 0 + (0 + zabs (b - a)) + (0 + zabs (c - a) + zabs (c - b))
    omega

set_option maxHeartbeats 4000000 in
theorem sdbl_any (v : Value) (s : List Int) (va : Value) (asks : List Int) (w : World) (hv : IsInts w v s) (_ : ∃ ao cap, v = .slice ao s.length cap) (ha : IsInts w va asks) (_ : ∃ ao cap, va = .slice ao asks.length cap) :
    Calls Try.prog 3 #[v, va] w fun e w' => e = .returned (.bool true) ∧ Below w.heap.size w w' := by
  have HV : Hid (IsInts w v s) := hv
  have HA : Hid (IsInts w va asks) := ha
  obtain ⟨ao, cap, rfl, hcap, ho⟩ := hv.opened
  obtain ⟨aa, capa, rfl, hcapa, _⟩ := ha.opened
  have HO : Hid (∀ k, k < s.length → ∃ b off, ao = some ⟨b, off, none⟩ ∧ s.length ≤ cap ∧ b < w.heap.size ∧ ∀ j, j < s.length → w.cell? ⟨b, off + j, none⟩ = some (.int .i64 (s[j]?.getD 0))) := ho
  unfold maxLen at hcap hcapa
  clear hv ha ho
  go_enter Try.func3, Try.ntmps3
  go_wp2_with (first | (go_at_call 8; go_must (refine (sfact_any _).mono ?_; rintro e w1 ⟨rfl, hb1⟩; have HB1 : Hid (Below w.heap.size w w1) := hb1; clear hb1)) | (go_at_call 9; fail))
  refine (sdouble_any _ _ s asks _ (HV.out.below HB1.out) (HA.out.below HB1.out)).mono ?_
  rintro e w2 ⟨vd, rfl, hOd, hb2⟩
  have HB2 : Hid (Below w.heap.size w w2) := HB1.out.trans (hb2.mono HB1.out.size)
  clear hb2 HB1 hOd
  have HN : Hid (goN true s asks = goN true s asks) := rfl
  obtain ⟨N1, hN1⟩ : ∃ N1, goN true s asks = N1 := ⟨_, rfl⟩
  have HN1 : Hid (goN true s asks = N1) := hN1
  rw [hN1]
  clear hN1 HN
  go_wp2_with (go_at_call 10; fail)
  refine (sleast_any _ _ s asks _ (HV.out.below HB2.out) (HA.out.below HB2.out)).mono ?_
  rintro e w3 ⟨x, rfl, hx, hb3⟩
  have HB3 : Hid (Below w.heap.size w w3) := HB2.out.trans (hb3.mono HB2.out.size)
  clear hb3 HB2
  by_cases hc : chkS s asks = 0
  case neg =>
    have hn : chkS s asks = 1 ∨ chkS s asks = 4 ∨ chkS s asks = 5 := by have := chkS_cases s asks; omega
    obtain rfl := hx.err hc
    rcases hn with hn | hn | hn
    all_goals
      rw [hn]
      clear hn hc hx
      simp only [errV]
      go_wp2
      go_ret
      exact ⟨rfl, HB3.out⟩
  have F := chkS_zero hc
  have hX := hx.ok hc
  have e1 : N1 = goCost true s asks asks.length := by rw [← HN1.out]; unfold goN; rw [if_pos hc]
  have RO := rowOk true F.some F.line F.asked _ (Nat.le_refl asks.length)
  have hb := row_both F.some F.line F.asked _ (Nat.le_refl asks.length)
  have h13 : 1 ≤ s.length ∧ s.length ≤ 3 := ⟨List.length_pos_iff.2 F.some, F.few⟩
  have HFIN : Hid (N1 ≤ s.length * (x : Int) + allA s s.length) := by
    have := leastGo_double h13 F.line F.asked hX hb
    unfold Hid
    rw [e1, ← allA_phi F.line F.some F.few]; exact this
  have hxle : (x : Int) ≤ 240 := by
    have := leastGo_both F.line F.asked hX hb
    have := RO.cost
    have := F.many
    omega
  have hN : 0 ≤ N1 ∧ N1 ≤ 240 := by
    have := RO.cost
    have := F.many
    omega
  have HRA : Hid (∀ i j, i < s.length → j ≤ s.length → 0 ≤ rowA s i j ∧ rowA s i j ≤ 36) := fun i j hi hj => by have := rowA_most F.line hi j hj; omega
  have HAA : Hid (∀ i, i ≤ s.length → 0 ≤ allA s i ∧ allA s i ≤ 108) := fun i hi => by have := allA_most F.line F.few i hi; omega
  have HSL : Hid (∀ i, i < s.length → -1000 ≤ s[i]?.getD 0 ∧ s[i]?.getD 0 ≤ 1000) := fun i hi => by have := F.line _ (get_mem hi); omega
  have hn3 := F.few
  rw [hc]
  clear hc hx hX e1 RO hb h13 F HN1
  simp only [errV]
  go_wp2
  go_loopw [11, 12] (fun a i wr => ∃ (k q : Nat), k ≤ s.length ∧ i = .int .i64 k ∧ a = .int .i64 (allA s k) ∧ wr = w3.drewN q) (fun _ i _ => s.length - (intOf i).toNat)
  case atStart => exact ⟨0, 0, by omega, rfl, rfl, rfl⟩
  case round =>
    obtain ⟨k, q, hk, rfl, rfl, rfl⟩ := hrel
    have ha := HAA.out k hk
    by_cases hlt : k < s.length
    · have HAS : Hid (allA s (k+1) = allA s k + rowA s k k) := rfl
      have HA0 : Hid (0 ≤ allA s k ∧ allA s k ≤ 108) := ha
      clear HFIN
      generalize allA s k = A at *
      go_wp2
      go_loopw [11, 13] (fun a j wr => ∃ (m q : Nat), m ≤ k ∧ j = .int .i64 m ∧ a = .int .i64 (A + rowA s k m) ∧ wr = w3.drewN q) (fun _ j _ => k - (intOf j).toNat)
      case atStart => exact ⟨0, q, by omega, rfl, by show _ = Value.int .i64 (A + 0); rw [Int.add_zero], rfl⟩
      case round =>
        obtain ⟨m, q, hm, rfl, rfl, rfl⟩ := hrel
        have hr := HRA.out k m hlt (by omega)
        by_cases hmk : m < k
        · obtain ⟨b, off, rfl, hlc, hbw, hcell⟩ := HO.out k hlt
          have hck : (w3.drewN q).cell? ⟨b, off + k, none⟩ = some (.int .i64 (s[k]?.getD 0)) := (HB3.out.cell (by exact hbw)).trans (hcell k hlt)
          have hcm : (w3.drewN q).cell? ⟨b, off + m, none⟩ = some (.int .i64 (s[m]?.getD 0)) := (HB3.out.cell (by exact hbw)).trans (hcell m (by omega))
          have HRS : Hid (rowA s k (m+1) = rowA s k m + zabs (s[k]?.getD 0 - s[m]?.getD 0)) := rfl
          have hr2 := HRA.out k (m+1) hlt (by omega)
          rw [HRS.out] at hr2
          have HAB : Hid (∀ w, Calls Try.prog 11 #[.int .i64 (s[k]?.getD 0), .int .i64 (s[m]?.getD 0)] w fun e w' => e = .returned (.int .i64 (zabs (s[k]?.getD 0 - s[m]?.getD 0))) ∧ w' = w) := fun w => abs_any _ _ (HSL.out k hlt) (HSL.out m (by omega)) w
          have HW0 : Hid (∀ n, ∃ q', (w3.drewN q).drewN n = w3.drewN q') := fun n => ⟨q + n, by rw [World.drewN_drewN]⟩
          have hww : IntKind.i64.wrap (A + rowA s k m + zabs (s[k]?.getD 0 - s[m]?.getD 0)) = A + rowA s k m + zabs (s[k]?.getD 0 - s[m]?.getD 0) := by rw [IntKind.wrap_i64]; omega
          have hms : m < s.length := by omega
          clear hcell hbw hr hr2
          generalize zabs (s[k]?.getD 0 - s[m]?.getD 0) = z at *
          generalize s[k]?.getD 0 = a1 at *
          generalize s[m]?.getD 0 = a2 at *
          generalize rowA s k m = R at *
          generalize w3.drewN q = wq at *
          go_wp2
          go_quiet (first | (go_at_call 11; exact Calls.quiet_of_same (HAB.out _)))
          go_wp2
          go_roundw
          case rel => exact ⟨m + 1, (HW0.out _).choose, by omega, by go_num, by rw [HRS.out]; congr 1; omega, (HW0.out _).choose_spec⟩
          case measure => simp [intOf]; omega
        · have hmk2 : m = k := by omega
          subst hmk2
          go_wp2
          go_roundw
          case rel => exact ⟨m + 1, q, by omega, by go_num, by rw [HAS.out], rfl⟩
          case measure => simp [intOf]; omega
    · have hkl : k = s.length := by omega
      subst hkl
      have hfin := HFIN.out
      have hmul : 0 ≤ (s.length : Int) * (x : Int) ∧ (s.length : Int) * (x : Int) ≤ 720 := by
        have h1 : s.length * x ≤ 3 * 240 := Nat.mul_le_mul hn3 (by omega)
        have h2 : ((s.length * x : Nat) : Int) = (s.length : Int) * (x : Int) := Int.natCast_mul _ _
        omega
      have hw1 : IntKind.i64.wrap ((s.length : Int) * (x : Int)) = (s.length : Int) * (x : Int) := by rw [IntKind.wrap_i64]; omega
      have hw2 : IntKind.i64.wrap ((s.length : Int) * (x : Int) + allA s s.length) = (s.length : Int) * (x : Int) + allA s s.length := by rw [IntKind.wrap_i64]; omega
      have hd : decide (N1 ≤ (s.length : Int) * (x : Int) + allA s s.length) = true := decide_eq_true hfin
      go_wp2
      go_ret
      exact ⟨rfl, below_drewN HB3.out _⟩

theorem serveDouble_own : ownKnob Try.prog.godebug = none := by kernel_rfl
theorem serveDouble_laidOut : laidOutB Try.prog = true := by kernel_rfl

set_option maxRecDepth 100000 in
theorem serveDouble_lifted (os : Os) (started : os.Started) (H : Type) (enc : TypeId × Value → H) :
    ReturnsInHanded {} Try.checked os 3 .any (Rows.serveDoubleSpec.pre6 enc Try.prog Try.f3 Rows.serveDoubleRow.domain false) (Rows.serveDoubleSpec.post enc Try.prog Try.f3 false true false false) := by
  refine returnsInHanded_of_change (C := Try.checked) serveDouble_own started (by kernel_rfl) Try.func3
    (ChangeSpec.witness6 (enc := enc) (C := Try.checked) false ⟨#[], #[.slice none 0 0, .slice none 0 0], []⟩ 8 (by kernel_rfl) (by kernel_rfl) (by kernel_rfl) (by kernel_rfl)) ?_
  intro W base args ds gs before hval0 hW _ _
  have hval : ∀ (j : Nat) t v, Try.f3.params[j]? = some t → args[j]? = some v → Value.okWide Try.prog W .any base t v := hval0
  have hW' : DataW.Whole enc Try.prog Try.f3.params.toList Rows.serveDoubleSpec.vars false W args.toList ds gs before := hW
  obtain ⟨p, q, hA0, hV, rfl, hfz, hnd⟩ := hW
  have hA : DataW.TrodAll enc Try.prog W 0 (fun _ => true) true Try.f3.params.toList args.toList ds p := hA0
  rw [Try.params3] at hA hval
  obtain ⟨v0, vs0, d0, ds0, p0, q0, hargs, rfl, rfl, h0, r0⟩ := trodAll_cons hA
  obtain ⟨v1, vs1, d1, ds1, p1, q1, rfl, rfl, rfl, h1, r1⟩ := trodAll_cons r0
  obtain ⟨rfl, rfl, rfl⟩ := trodAll_nil r1
  obtain rfl : args = #[v0, v1] := by cases args; simp_all
  obtain ⟨rfl, rfl⟩ := trodVars_none hV
  obtain ⟨l0, ao0, cap0, hv0, hl0⟩ := arg_ints Try.underlying22 Try.underlying3 (by kernel_rfl) (hval 0 22 v0 rfl rfl) h0
  obtain ⟨l1, ao1, cap1, hv1, hl1⟩ := arg_ints Try.underlying22 Try.underlying3 (by kernel_rfl) (hval 1 22 v1 rfl rfl) h1
  clear hA0 hval0
  refine (sdbl_any v0 l0 v1 l1 W hl0 ⟨ao0, cap0, hv0⟩ hl1 ⟨ao1, cap1, hv1⟩).mono fun e W' ⟨he, hb⟩ => ?_
  subst he
  exact ⟨_, rfl, law_post hW' hb serveDouble_laidOut rfl (by kernel_rfl) (by kernel_rfl) Try.underlying4 rfl rfl rfl⟩

theorem serveDouble_holds : Rows.ServeDoubleSaid :=
  OpenClaim.holds_of_wide 3 Try.f3 rfl rfl rfl rfl rfl rfl rfl ⟨rfl, rfl, rfl, rfl, rfl⟩ rfl rfl rfl rfl rfl (by kernel_rfl) Try.func3 (by kernel_rfl)
    (of_decide_eq_true (by kernel_rfl)) (by unfold Func.isWrapper; first | (rw [if_pos (by decide +kernel)]; kernel_rfl) | (rw [if_neg (by decide +kernel)]; exact ⟨rfl, rfl⟩))
    (fun os started H enc _ => serveDouble_lifted os started H enc)
end Go.Proofs.Ytnjfmlojbaigjaa
