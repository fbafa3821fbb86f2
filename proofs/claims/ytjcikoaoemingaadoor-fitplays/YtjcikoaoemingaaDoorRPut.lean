/- The walk of the document's answer (larderwickref1): Put. -/
import Derived.Test.YtjcikoaoemingaaDoorKeep
import Derived.Test.YtjcikoaoemingaaDoorCame
namespace Go.Proofs.YtjcikoaoemingaaDoor
set_option maxRecDepth 100000
open Go.ChangeShapes Go.WideShapes Go.ChangeAt Go.RowKit Go.Sort

theorem came_of {w : World} {a : Addr} {n cap : Nat} {l : List Int} (h : IsInts w (.slice (some a) n cap) l) (hn : l.length = n) : Came w (.slice (some a) n cap) l := by
  subst hn
  refine .inr ⟨a, cap, rfl, fun j u hj => ?_⟩
  rcases h with ⟨rfl, _⟩ | ⟨b, off, cap2, hv, hpos, hlc, hcap, hc⟩
  · simp at hj
  · simp at hv
    obtain ⟨rfl, rfl⟩ := hv
    have hjl : j < l.length := by have := (List.getElem?_eq_some_iff.1 hj).1; simpa using this
    rw [List.getElem?_map, List.getElem?_eq_getElem hjl] at hj
    have := hc j hjl
    rw [List.getElem?_eq_getElem hjl] at this
    rw [add_plain, this]
    simpa using hj
theorem below_nil {w w1 : World} (h : w.grownBy w1 none) : Below w.heap.size w w1 := (Below.refl w.heap.size w).grown h (Nat.le_refl _) fun k hk => by cases hk
set_option maxHeartbeats 1000000 in
theorem rput_any (v : Value) (l : List Int) (a : Nat) (x : Int) (w : World) (B : Nat) (hv : OwnI w B v l) (ha : a ≤ l.length) (hlen : l.length ≤ 1000) :
    Calls Tryd.prog 48 #[v, .int .i64 (a : Nat), .int .i64 x] w fun e w' => ∃ v', e = .returned v' ∧ OwnI w' w.heap.size v' (l.take a ++ x :: l.drop a) ∧ Below w.heap.size w w' := by
  obtain ⟨i0, hi, hz0, hz1, hz2⟩ := info_parts Tryd.info3
  have HI : Hid (Tryd.prog.info? 3 = some i0 ∧ i0.zero = some (.int .i64 0) ∧ i0.size = 1 ∧ i0.bytes = 8) := ⟨hi, hz0, hz1, hz2⟩
  clear hi hz0 hz1 hz2
  have HR : Hid (l.take a ++ x :: l.drop a = (l.take a ++ [x]) ++ l.drop a) := by unfold Hid; simp
  have hIn := hv.isInts
  rcases hv.2 with ⟨rfl, h0⟩ | ⟨g, cap, cur, rfl, hbg, hg, hn, hm, hs, ht⟩
  · obtain rfl : l = [] := List.eq_nil_of_length_eq_zero h0
    obtain rfl : a = 0 := by simpa using ha
    rw [show ((0 : Nat) : Int) = 0 from rfl]
    clear hv hIn h0 ha hlen
    have HC1 : Hid (Came w (.slice none 0 0) []) := .inl ⟨rfl, rfl⟩
    go_enter Tryd.func48, Tryd.ntmps48
    go_wp2_with (at_builtin; go_must (first | (refine append_came rfl _ _ rfl w.heap.size (.slice none 0 0) _ [] ([]) rfl rfl (OwnI.nil _ _) HC1.out (Nat.le_refl _) (by simp) ?_; intro v1 w1 ho1 hg1; have HO1 : Hid (OwnI w1 w.heap.size v1 ([])) := ho1; have HB1 : Hid (Below w.heap.size w w1) := below_nil hg1; have hs1 : w.heap.size ≤ w1.heap.size := HB1.out.size; clear ho1 hg1 HC1) | (refine wpList_append_own _ rfl _ _ 22 rfl w.heap.size 3 i0 (.int .i64 0) 1 8 Tryd.underlying22 HI.out.1 HI.out.2.1 HI.out.2.2.1 HI.out.2.2.2 rfl (by decide) _ ([]).length (([]).map (Value.int .i64)) rfl (World.ownsRow.alloc HO1.out _) ⟨w1.heap.size, 0, none⟩ 1 1 [.int .i64 x] rfl rfl (new_one _ _ _) (one_cell _) (by simp [maxLen]) (by simp) (by simp; omega) ?_; intro v2 w2 hown' hgrow _; have R := own_append (l := []) HO1.out HB1.out (Nat.le_refl _) hown' hgrow; have HO2 : Hid (OwnI w2 w.heap.size v2 ([] ++ [x])) := R.1; have HB2 : Hid (Below w.heap.size w w2) := R.2; have hs2 : w.heap.size ≤ w2.heap.size := HB2.out.size; clear R hown' hgrow HO1 HB1) | (refine append_came rfl _ _ rfl w.heap.size v2 _ ([] ++ [x]) ([]) rfl rfl HO2.out (.inl ⟨rfl, rfl⟩) HB2.out.size (by simp) ?_; intro v3 w3 ho3 hg3; have HO3 : Hid (OwnI w3 w.heap.size v3 (([] ++ [x]) ++ [])) := ho3; have HB3 : Hid (Below w.heap.size w w3) := HB2.out.grown hg3 HB2.out.size fun k hk => (World.ownsRow.lt HO2.out k hk).1; clear ho3 hg3 HO2 HB2)))
    go_ret
    exact ⟨_, rfl, HO3.out, HB3.out⟩
  · have HC1 : Hid (Came w (.slice (some ⟨g, 0, none⟩) a cap) (l.take a)) := came_of (isInts_prefix hIn rfl ha) (by rw [List.length_take]; omega)
    have hla : (l.take a).length = a := by rw [List.length_take]; omega
    have hld : (l.drop a).length = l.length - a := List.length_drop
    have HLA : Hid ((l.take a).length = a) := hla
    have HLD : Hid ((l.drop a).length = l.length - a) := hld
    unfold maxLen at hm
    have key : ∀ (ao2 : Option Addr) (cap2 : Nat) (w2 : World), Below w.heap.size w w2 → (∃ b, ao2 = some b) → (a < l.length → ao2 = some ⟨g, a, none⟩ ∧ cap2 = cap - a) → Came w2 (.slice ao2 (l.length - a) cap2) (l.drop a) := by
      rintro ao2 cap2 w2 hb2 ⟨b, rfl⟩ h2
      by_cases hal : a < l.length
      · obtain ⟨h3, rfl⟩ := h2 hal
        rw [h3]
        refine came_of ?_ List.length_drop
        exact IsInts.below (isInts_drop hIn rfl ha (fun y hy _ => by cases hy; simp)) hb2
      · have : l.drop a = [] := List.drop_eq_nil_of_le (by omega)
        rw [this, show l.length - a = 0 by omega]
        exact .inr ⟨b, cap2, rfl, fun j u hj => by simp at hj⟩
    have HKEY : Hid (∀ (ao2 : Option Addr) (cap2 : Nat) (w2 : World), Below w.heap.size w w2 → (∃ b, ao2 = some b) → (a < l.length → ao2 = some ⟨g, a, none⟩ ∧ cap2 = cap - a) → Came w2 (.slice ao2 (l.length - a) cap2) (l.drop a)) := key
    have HA : Hid (a ≤ l.length ∧ l.length ≤ 1000) := ⟨ha, hlen⟩
    clear hv hIn ht hs hg hla hld key
    have hsub : IntKind.i64.wrap ((l.length : Int) - (a : Int)) = ((l.length - a : Nat) : Int) := by rw [IntKind.wrap_i64]; omega
    by_cases hac : cap = a
    · obtain rfl : a = l.length := by omega
      subst hac
      have hkey : ∀ w2 : World, Below w.heap.size w w2 → Came w2 (.slice (some ⟨g, 0, none⟩) 0 0) (l.drop l.length) := fun w2 hb => by have hk := HKEY.out (some ⟨g, 0, none⟩) 0 w2 hb ⟨_, rfl⟩ (fun h => absurd h (Nat.lt_irrefl _)); rw [Nat.sub_self] at hk; exact hk
      have HK2 : Hid (∀ w2 : World, Below w.heap.size w w2 → Came w2 (.slice (some ⟨g, 0, none⟩) 0 0) (l.drop l.length)) := hkey
      clear hkey HKEY
      generalize hL : l.length = a at *
      have HLL : Hid (l.length = a) := hL
      clear hL
      go_enter Tryd.func48, Tryd.ntmps48
      go_wp2_with (at_builtin; go_must (first | (refine append_came rfl _ _ rfl w.heap.size (.slice none 0 0) _ [] (l.take a) rfl rfl (OwnI.nil _ _) HC1.out (Nat.le_refl _) (by rw [HLA.out]; have := HA.out; simp only [List.length_nil]; omega) ?_; intro v1 w1 ho1 hg1; have HO1 : Hid (OwnI w1 w.heap.size v1 (l.take a)) := ho1; have HB1 : Hid (Below w.heap.size w w1) := below_nil hg1; have hs1 : w.heap.size ≤ w1.heap.size := HB1.out.size; clear ho1 hg1 HC1) | (refine wpList_append_own _ rfl _ _ 22 rfl w.heap.size 3 i0 (.int .i64 0) 1 8 Tryd.underlying22 HI.out.1 HI.out.2.1 HI.out.2.2.1 HI.out.2.2.2 rfl (by decide) _ (l.take a).length ((l.take a).map (Value.int .i64)) rfl (World.ownsRow.alloc HO1.out _) ⟨w1.heap.size, 0, none⟩ 1 1 [.int .i64 x] rfl rfl (new_one _ _ _) (one_cell _) (by rw [HLA.out]; have := HA.out; unfold maxLen; omega) (by rw [HLA.out]; have := HA.out; omega) (by simp; omega) ?_; intro v2 w2 hown' hgrow _; have R := own_append (l := l.take a) HO1.out HB1.out (Nat.le_refl _) hown' hgrow; have HO2 : Hid (OwnI w2 w.heap.size v2 (l.take a ++ [x])) := R.1; have HB2 : Hid (Below w.heap.size w w2) := R.2; have hs2 : w.heap.size ≤ w2.heap.size := HB2.out.size; clear R hown' hgrow HO1 HB1) | (refine append_came rfl _ _ rfl w.heap.size v2 _ (l.take a ++ [x]) (l.drop a) rfl rfl HO2.out (HK2.out _ HB2.out) HB2.out.size (by rw [List.length_append, HLA.out, HLD.out]; have := HA.out; simp only [List.length_cons, List.length_nil]; omega) ?_; intro v3 w3 ho3 hg3; have HO3 : Hid (OwnI w3 w.heap.size v3 ((l.take a ++ [x]) ++ l.drop a)) := ho3; have HB3 : Hid (Below w.heap.size w w3) := HB2.out.grown hg3 HB2.out.size fun k hk => (World.ownsRow.lt HO2.out k hk).1; clear ho3 hg3 HO2 HB2)))
      go_ret
      exact ⟨_, rfl, by rw [HR.out]; exact HO3.out, HB3.out⟩
    · have hac2 : ¬ (cap : Int) = (a : Int) := by omega
      go_enter Tryd.func48, Tryd.ntmps48
      go_wp2_with (at_builtin; go_must (first | (refine append_came rfl _ _ rfl w.heap.size (.slice none 0 0) _ [] (l.take a) rfl rfl (OwnI.nil _ _) HC1.out (Nat.le_refl _) (by rw [HLA.out]; have := HA.out; simp only [List.length_nil]; omega) ?_; intro v1 w1 ho1 hg1; have HO1 : Hid (OwnI w1 w.heap.size v1 (l.take a)) := ho1; have HB1 : Hid (Below w.heap.size w w1) := below_nil hg1; have hs1 : w.heap.size ≤ w1.heap.size := HB1.out.size; clear ho1 hg1 HC1) | (refine wpList_append_own _ rfl _ _ 22 rfl w.heap.size 3 i0 (.int .i64 0) 1 8 Tryd.underlying22 HI.out.1 HI.out.2.1 HI.out.2.2.1 HI.out.2.2.2 rfl (by decide) _ (l.take a).length ((l.take a).map (Value.int .i64)) rfl (World.ownsRow.alloc HO1.out _) ⟨w1.heap.size, 0, none⟩ 1 1 [.int .i64 x] rfl rfl (new_one _ _ _) (one_cell _) (by rw [HLA.out]; have := HA.out; unfold maxLen; omega) (by rw [HLA.out]; have := HA.out; omega) (by simp; omega) ?_; intro v2 w2 hown' hgrow _; have R := own_append (l := l.take a) HO1.out HB1.out (Nat.le_refl _) hown' hgrow; have HO2 : Hid (OwnI w2 w.heap.size v2 (l.take a ++ [x])) := R.1; have HB2 : Hid (Below w.heap.size w w2) := R.2; have hs2 : w.heap.size ≤ w2.heap.size := HB2.out.size; clear R hown' hgrow HO1 HB1) | (refine append_came rfl _ _ rfl w.heap.size v2 _ (l.take a ++ [x]) (l.drop a) rfl rfl HO2.out (HKEY.out _ _ _ HB2.out ⟨_, rfl⟩ (fun _ => ⟨rfl, rfl⟩)) HB2.out.size (by rw [List.length_append, HLA.out, HLD.out]; have := HA.out; simp only [List.length_cons, List.length_nil]; omega) ?_; intro v3 w3 ho3 hg3; have HO3 : Hid (OwnI w3 w.heap.size v3 ((l.take a ++ [x]) ++ l.drop a)) := ho3; have HB3 : Hid (Below w.heap.size w w3) := HB2.out.grown hg3 HB2.out.size fun k hk => (World.ownsRow.lt HO2.out k hk).1; clear ho3 hg3 HO2 HB2)))
      go_ret
      exact ⟨_, rfl, by rw [HR.out]; exact HO3.out, HB3.out⟩
end Go.Proofs.YtjcikoaoemingaaDoor
