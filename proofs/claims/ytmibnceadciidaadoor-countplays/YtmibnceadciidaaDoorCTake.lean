/- The walk of take. -/
import Derived.Test.YtmibnceadciidaaDoorCSettle
import Derived.Test.YtmibnceadciidaaDoorIndex
namespace Go.Proofs.YtmibnceadciidaaDoor
set_option maxRecDepth 100000
open Go.RowKit Go.Sort

set_option maxHeartbeats 1000000 in
theorem take_miss (a : Nat) (p : Addr) (u : Value) (l : List Int) (x : Int) (w : World) (hp : w.cell? p = some u) (ho : IsInts w u l) (hx : x ∉ l) :
    Calls Tryd.prog 27 #[.pointer (some ⟨a, 0, none⟩), .pointer (some p), .int .i64 x] w fun e w' => e = .returned (errV 5) ∧ w' = w := by
  have HO : Hid (IsInts w u l) := ho
  have hi : at_ l x = -1 := idx_miss hx
  have HI : Hid (at_ l x = -1) := hi
  obtain ⟨ao, cap, rfl, hcap, _⟩ := ho.opened
  clear ho hi hx
  go_enter Tryd.func27, Tryd.ntmps27
  go_wp2_with (go_at_call 33; go_must (refine (index_any _ l x _ HO.out).mono ?_; rintro e w' ⟨rfl, hw⟩; have hw := hw.symm; subst hw; rw [HI.out]))
  go_ret
  exact ⟨rfl, rfl⟩
set_option maxHeartbeats 4000000 in
theorem take_hit (a : Nat) (p : Addr) (S : Nat → Prop) (c : KS) (u : Value) (l : List Int) (x : Nat) (w : World) (hp : w.cell? p = some u) (hf : w.frozen? p = false) (ho : OwnI w 0 u l) (hpb : u.ownBlock ≠ some p.block) (hx : (x : Int) ∈ l) (hxl : x < c.here.length) (hc : KMid c)
    (hnext : ∀ (u' : Value) (w2 : World), OwnI w2 0 u' (l.erase (x : Int)) → w.grownBy w2 u.ownBlock → u'.ownBlock = u.ownBlock → ∃ S1, CHeap (w2.setCell p u') S1 a c ∧ Stp S S1 w (w2.setCell p u')) :
    Calls Tryd.prog 27 #[.pointer (some ⟨a, 0, none⟩), .pointer (some p), .int .i64 (x : Nat)] w fun e w' => e = .returned .nilIface ∧ ∃ d S', CHeap w' S' a d ∧ Stp S S' w w' ∧ Sets c d [(x : Int)] := by
  have hne : l ≠ [] := by intro h; subst h; simp at hx
  obtain ⟨g, cap, cur, rfl, _, hgs, hg, hlc, hcap, hcs, htk⟩ := ho.block hne
  obtain ⟨i, hi, hix, hie⟩ := idx_hit hx
  have HOWN : Hid (OwnI w 0 (.slice (some ⟨g, 0, none⟩) l.length cap) l) := ho
  have HV : Hid (IsInts w (.slice (some ⟨g, 0, none⟩) l.length cap) l) := ho.isInts
  have HI : Hid (at_ l (x : Int) = (i : Int)) := hix
  have HE : Hid (l.take i ++ l.drop (i + 1) = l.erase (x : Int)) := hie
  have HH : Hid (Holds (Value.int .i64) w g 0 l.toArray) := own_holds ho rfl
  have HX : Hid ((x : Int) ∈ l) := hx
  have HXL : Hid (x < c.here.length) := hxl
  have HC : Hid (KMid c) := hc
  have hpg : some p.block ≠ some g := fun e => hpb e.symm
  have HN : Hid (∀ (u' : Value) (w2 : World), OwnI w2 0 u' (l.erase (x : Int)) → w.grownBy w2 (some g) → u'.ownBlock = some g → ∃ S1, CHeap (w2.setCell p u') S1 a c ∧ Stp S S1 w (w2.setCell p u')) := hnext
  have hps : p.block < w.heap.size := World.block_lt_of_cell? w _ hp
  unfold maxLen at hcap
  clear hne hx hix hie hxl hc hnext hpb ho htk hcs hg cur
  go_enter Tryd.func27, Tryd.ntmps27
  go_wp2_with (first | (go_at_call 33; go_must (refine (index_any _ l (x : Int) _ HV.out).mono ?_; rintro e w' ⟨rfl, hw⟩; have hw := hw.symm; subst hw; rw [HI.out])) | (go_at_call 34; go_must (refine (Tryd.slices_Delete_int g 0 cap i (i+1) l _ HH.out hlc (by omega) (by omega) (by omega)).mono ?_; rintro e w1 ⟨rfl, q, hw1⟩; have HD := own_drop (q := q) HOWN.out hi HE.out HX.out; rw [← hw1, show l.length - (i + 1 - i) = l.length - 1 by omega] at HD; have hp1 := HD.2.cell hp hpg; have hf1 : w1.frozen? p = false := (World.frozen?_of_block (HD.2.block _ hps hpg)).trans hf; obtain ⟨S1, h1, h2⟩ := HN.out _ _ HD.1 HD.2 rfl; have H1 : Hid _ := h1; have H2 : Hid _ := h2; clear h1 h2 hw1 HD hp hf)) | (go_at_call 35; fail))
  refine (settle_any a c.heres S1 c x _ H1.out HC.out (Nat.le_refl _) HXL.out).mono ?_
  rintro e w3 ⟨rfl, d, S2, k1, k2, k3⟩
  have K : Hid (∃ d S', CHeap w3 S' a d ∧ Stp S S' w w3 ∧ Sets c d [(x : Int)]) := ⟨d, S2, k1, H2.out.trans k2, k3⟩
  clear k1 k2 k3
  go_wp2
  go_ret
  exact ⟨rfl, K.out⟩
end Go.Proofs.YtmibnceadciidaaDoor
