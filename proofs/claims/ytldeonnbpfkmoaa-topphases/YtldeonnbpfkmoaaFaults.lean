/- The walk of larderwicklaw1.faults: how often a page is not there, in one of four ways. -/
import Derived.Test.YtldeonnbpfkmoaaLru
import Derived.Test.YtldeonnbpfkmoaaFifo
import Derived.Test.YtldeonnbpfkmoaaClock3
import Derived.Test.YtldeonnbpfkmoaaFlush
import Derived.Test.YtldeonnbpfkmoaaMissIs
import Derived.Test.YtldeonnbpfkmoaaPhaseParts1
namespace Go.Proofs.Ytldeonnbpfkmoaa
open Go.RowKit Go.Sort

/-- Whether request k is there, in one of four ways. -/
def wayAt (kind : Int) (s : Nat) (l : List Int) : Nat → Bool :=
  if kind = 0 then hitAt s l else if kind = 1 then fhit s l else if kind = 2 then chit s l else ehit s l
def wayN (kind : Int) (l : List Int) (s : Int) : Nat := if chk l s = 0 then mc (wayAt kind s.toNat l) l.length else 0
theorem way_few {s : Nat} (hs : 1 ≤ s) (kind : Int) (l : List Int) : FewIn s l (wayAt kind s l) := by
  unfold wayAt
  split
  · exact few_lru hs l
  · split
    · exact few_fifo hs l
    · split
      · exact few_clock hs l
      · exact few_flush s l
theorem way_take (kind : Int) {s n k : Nat} {l : List Int} (h : k < n) : wayAt kind s (l.take n) k = wayAt kind s l k := by
  unfold wayAt
  split
  · exact hitAt_take h
  · split
    · exact fhit_take h
    · split
      · exact chit_take h
      · exact ehit_take h
theorem wayN_ok {kind : Int} {l : List Int} {s : Int} (h : chk l s = 0) : wayN kind l s = mc (wayAt kind s.toNat l) l.length := if_pos h
theorem wayN_bad {kind : Int} {l : List Int} {s : Int} (h : chk l s ≠ 0) : wayN kind l s = 0 := if_neg h
theorem mc_le (f : Nat → Bool) (n : Nat) : mc f n ≤ n := by have := mc_count f n; omega
theorem wayN_lru (l : List Int) (s : Int) : missed (lruB l s) (lruB l s).length = wayN 0 l s := by
  by_cases h : chk l s = 0
  · rw [lruB_ok h, wayN_ok h]; exact missed_mc _ _
  · rw [lruB_bad h, wayN_bad h]; rfl
theorem wayN_fifo (l : List Int) (s : Int) : missed (fifoB l s) (fifoB l s).length = wayN 1 l s := by
  by_cases h : chk l s = 0
  · rw [fifoB_ok h, wayN_ok h]; exact missed_mc _ _
  · rw [fifoB_bad h, wayN_bad h]; rfl
theorem wayN_clock (l : List Int) (s : Int) : missed (clockB l s) (clockB l s).length = wayN 2 l s := by
  by_cases h : chk l s = 0
  · rw [clockB_ok h, wayN_ok h]; exact missed_mc _ _
  · rw [clockB_bad h, wayN_bad h]; rfl
theorem wayN_flush {kind : Int} (h0 : kind ≠ 0) (h1 : kind ≠ 1) (h2 : kind ≠ 2) (l : List Int) (s : Int) : missed (flushB l s) (flushB l s).length = wayN kind l s := by
  by_cases h : chk l s = 0
  · rw [flushB_ok h, wayN_ok h]
    unfold wayAt
    rw [if_neg h0, if_neg h1, if_neg h2]
    exact missed_mc _ _
  · rw [flushB_bad h, wayN_bad h]; rfl

set_option maxHeartbeats 1000000 in
theorem faults_any (kind : Int) (v : Value) (l : List Int) (s : Int) (w : World) (hv : IsInts w v l) :
    Calls Try.prog 15 #[.int .i64 kind, v, .int .i64 s] w fun e w' => e = .returned (.tuple #[.int .i64 (wayN kind l s), .bool (decide (chk l s = 0))]) ∧ Below w.heap.size w w' := by
  have HV : Hid (IsInts w v l) := hv
  clear hv
  rcases (by omega : kind = 0 ∨ kind = 1 ∨ kind = 2 ∨ (kind ≠ 0 ∧ kind ≠ 1 ∧ kind ≠ 2)) with rfl | rfl | rfl | ⟨h0, h1, h2⟩
  · go_enter Try.func15, Try.ntmps15
    go_wp2_with (go_at_call 19; fail)
    refine (lru_any _ l s _ HV.out).mono ?_
    rintro e w1 ⟨vb, vh, rfl, hB, _, hb⟩
    have HB : Hid (IsBools w1 vb (lruB l s)) := hB.isBools
    have HM : Hid (missed (lruB l s) (lruB l s).length = _) := wayN_lru l s
    clear hB HV
    generalize hx : wayN 0 l s = x at *
    have HX : Hid (wayN 0 l s = x) := hx
    clear hx
    by_cases hc : chk l s = 0
    · have HD : Hid (decide (chk l s = 0) = true) := decide_eq_true hc
      rw [hc, show errV 0 = .nilIface from rfl]
      clear hc
      go_wp2
      go_quiet (first | (go_at_call 17; exact Calls.quiet_of_same (misses_is HB.out HM.out _ (by rfl))))
      go_wp2
      go_ret2
      exact ⟨by rw [HX.out, HD.out]; rfl, below_drewN hb _⟩
    · have HD : Hid (decide (chk l s = 0) = false) := decide_eq_false hc
      rw [errV_pos hc]
      clear hc
      go_wp2
      go_quiet (first | (go_at_call 17; exact Calls.quiet_of_same (misses_is HB.out HM.out _ (by rfl))))
      go_wp2
      go_ret2
      exact ⟨by rw [HX.out, HD.out]; rfl, below_drewN hb _⟩
  · go_enter Try.func15, Try.ntmps15
    go_wp2_with (go_at_call 20; fail)
    refine (fifo_any _ l s _ HV.out).mono ?_
    rintro e w1 ⟨vb, vh, rfl, hB, _, hb⟩
    have HB : Hid (IsBools w1 vb (fifoB l s)) := hB.isBools
    have HM : Hid (missed (fifoB l s) (fifoB l s).length = _) := wayN_fifo l s
    clear hB HV
    generalize hx : wayN 1 l s = x at *
    have HX : Hid (wayN 1 l s = x) := hx
    clear hx
    by_cases hc : chk l s = 0
    · have HD : Hid (decide (chk l s = 0) = true) := decide_eq_true hc
      rw [hc, show errV 0 = .nilIface from rfl]
      clear hc
      go_wp2
      go_quiet (first | (go_at_call 17; exact Calls.quiet_of_same (misses_is HB.out HM.out _ (by rfl))))
      go_wp2
      go_ret2
      exact ⟨by rw [HX.out, HD.out]; rfl, below_drewN hb _⟩
    · have HD : Hid (decide (chk l s = 0) = false) := decide_eq_false hc
      rw [errV_pos hc]
      clear hc
      go_wp2
      go_quiet (first | (go_at_call 17; exact Calls.quiet_of_same (misses_is HB.out HM.out _ (by rfl))))
      go_wp2
      go_ret2
      exact ⟨by rw [HX.out, HD.out]; rfl, below_drewN hb _⟩
  · go_enter Try.func15, Try.ntmps15
    go_wp2_with (go_at_call 21; fail)
    refine (clock_any _ l s _ HV.out).mono ?_
    rintro e w1 ⟨vb, vh, rfl, hB, _, hb⟩
    have HB : Hid (IsBools w1 vb (clockB l s)) := hB.isBools
    have HM : Hid (missed (clockB l s) (clockB l s).length = _) := wayN_clock l s
    clear hB HV
    generalize hx : wayN 2 l s = x at *
    have HX : Hid (wayN 2 l s = x) := hx
    clear hx
    by_cases hc : chk l s = 0
    · have HD : Hid (decide (chk l s = 0) = true) := decide_eq_true hc
      rw [hc, show errV 0 = .nilIface from rfl]
      clear hc
      go_wp2
      go_quiet (first | (go_at_call 17; exact Calls.quiet_of_same (misses_is HB.out HM.out _ (by rfl))))
      go_wp2
      go_ret2
      exact ⟨by rw [HX.out, HD.out]; rfl, below_drewN hb _⟩
    · have HD : Hid (decide (chk l s = 0) = false) := decide_eq_false hc
      rw [errV_pos hc]
      clear hc
      go_wp2
      go_quiet (first | (go_at_call 17; exact Calls.quiet_of_same (misses_is HB.out HM.out _ (by rfl))))
      go_wp2
      go_ret2
      exact ⟨by rw [HX.out, HD.out]; rfl, below_drewN hb _⟩
  · have hk0 : (kind == 0) = false := by rw [beq_eq_false_iff_ne]; exact h0
    have hk1 : (kind == 1) = false := by rw [beq_eq_false_iff_ne]; exact h1
    have hk2 : (kind == 2) = false := by rw [beq_eq_false_iff_ne]; exact h2
    go_enter Try.func15, Try.ntmps15
    go_wp2_with (go_at_call 9; fail)
    refine (flush_any _ l s _ HV.out).mono ?_
    rintro e w1 ⟨vb, vh, rfl, hB, _, hb⟩
    have HB : Hid (IsBools w1 vb (flushB l s)) := hB.isBools
    have HM : Hid (missed (flushB l s) (flushB l s).length = _) := wayN_flush h0 h1 h2 l s
    clear hB HV
    generalize hx : wayN kind l s = x at *
    have HX : Hid (wayN kind l s = x) := hx
    clear hx
    by_cases hc : chk l s = 0
    · have HD : Hid (decide (chk l s = 0) = true) := decide_eq_true hc
      rw [hc, show errV 0 = .nilIface from rfl]
      clear hc
      go_wp2
      go_quiet (first | (go_at_call 17; exact Calls.quiet_of_same (misses_is HB.out HM.out _ (by rfl))))
      go_wp2
      go_ret2
      exact ⟨by rw [HX.out, HD.out]; rfl, below_drewN hb _⟩
    · have HD : Hid (decide (chk l s = 0) = false) := decide_eq_false hc
      rw [errV_pos hc]
      clear hc
      go_wp2
      go_quiet (first | (go_at_call 17; exact Calls.quiet_of_same (misses_is HB.out HM.out _ (by rfl))))
      go_wp2
      go_ret2
      exact ⟨by rw [HX.out, HD.out]; rfl, below_drewN hb _⟩
end Go.Proofs.Ytldeonnbpfkmoaa
