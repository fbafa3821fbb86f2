/- Lists alone, for chapter 20's laws: bits. -/
import Derived.Test.YtmibnceadciidaaCHere
import Derived.Test.YtmibnceadciidaaGRounds
import Derived.Test.YtmibnceadciidaaBitsU
namespace Go.Proofs.Ytmibnceadciidaa

theorem here_comes {c : KS} {n : Nat} (h : KGood c) (hn : Comes c.outs c.roots n) {i : Nat} (hi : i < 12) (hb : n.testBit i = true) : (hereB c).testBit i = true := by
  rw [hereB_bit, ← isN_is]
  exact good_safe h ((hn.2 i (by omega)).1 hb)
theorem no_rings {c : KS} {m : Nat} (h : KGood c) (hm : RingsOf c.outs m) (h0 : m = 0) : ∀ x, ¬ Ring (gOf c.outs) x := fun x hx => by
  subst h0
  have hf := good_fine h
  have h1 := hf.come (fun y hy => hf.step hy) hx
  have h2 := hf.few
  obtain ⟨i, rfl⟩ : ∃ i : Nat, x = (i : Int) := ⟨x.toNat, by omega⟩
  have := (hm.2 i (by omega)).2 hx
  simp at this
theorem some_ring {c : KS} {m : Nat} (hm : RingsOf c.outs m) (h0 : m ≠ 0) : ∃ x, Ring (gOf c.outs) x := by
  refine Classical.byContradiction fun hno => h0 (bits_unique hm.1 (by decide) fun i hi => ?_)
  cases hb : m.testBit i
  · simp
  · exact absurd ⟨(i : Int), (hm.2 i hi).1 hb⟩ hno
theorem here_16 (c : KS) (h : KGood c) : hereB c < 4096 := by
  have := hereM_small c (k := c.here.length) h.few
  unfold hereB; exact this
theorem here_all {c : KS} {n m : Nat} (h : KGood c) (hn : Comes c.outs c.roots n) (hm : RingsOf c.outs m) (h0 : m = 0) : n = hereB c := by
  have hr := no_rings h hm h0
  refine bits_unique hn.1 (by have := here_16 c h; omega) fun i hi => ?_
  rw [Bool.eq_iff_iff, hn.2 i hi, hereB_bit, ← isN_is]
  exact ⟨fun hc => good_safe h hc, fun hc => good_all h hr hc⟩
theorem fine_zero {c : KS} (h : KGood c) : chkH c.outs c.roots = 0 := chkH_zero.2 (good_fine h)
end Go.Proofs.Ytmibnceadciidaa
