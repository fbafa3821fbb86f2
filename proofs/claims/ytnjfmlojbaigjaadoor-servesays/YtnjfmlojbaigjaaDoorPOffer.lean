/- Tables of places in the world: what is put in; the walks of a table's offer, and All. Written by wip/tools/gen_places.py. -/
import Derived.Test.YtnjfmlojbaigjaaDoorP3
namespace Go.Proofs.YtnjfmlojbaigjaaDoor
namespace Pl
open Go.RowKit Go.Maps
open Go.WideElems (Fit rd rg)

theorem tight {H : Type} {W : World} {b n : Nat} {D : DataW H} (hf : Few D) (h : W.ownsMap Tryd.prog 47 (plainElem Tryd.prog 3) b n D) : W.ownsMap Tryd.prog 47 (plainElem Tryd.prog 3) b 2197 D := by
  obtain ⟨es, ck, hh, F, _, hD⟩ := h
  refine ⟨es, ck, hh, F, ?_, hD⟩
  have hk : ∀ x, x ∈ es.toList → ∃ s : P3, x.key = s.v := fun x hx => by
    obtain ⟨y, hy⟩ := F.reads x hx
    obtain ⟨g, hg, hl⟩ := gkey_inv (WideElems.rd_key hy)
    have hm : has D g.key = true := by
      rw [hD, has_eq, List.any_eq_true]
      refine ⟨y, mem_sorted.2 (List.mem_map.2 ⟨x, hx, ?_⟩), ?_⟩
      · unfold rg; rw [hy]; rfl
      · rw [hl]; exact WideAt.sameKey_self (G3.keyLit g)
    obtain ⟨s, rfl⟩ := hf g hm
    exact ⟨s, hg⟩
  have hp : es.toList.Pairwise (fun x y => x.key ≠ y.key) := ((MapKept.stamped_iff es ck).1 F.stamped).2.2
  classical
  let f : MapEntry → Nat := fun x => if h : ∃ s : P3, x.key = s.v then h.choose.num else 0
  have hf2 : ∀ x, x ∈ es.toList → ∃ s : P3, x.key = s.v ∧ f x = s.num := fun x hx => ⟨(hk x hx).choose, (hk x hx).choose_spec, by show (if h : ∃ s : P3, x.key = s.v then h.choose.num else 0) = _; rw [dif_pos (hk x hx)]⟩
  have hn : (es.toList.map f).Nodup := by
    unfold List.Nodup
    rw [List.pairwise_map]
    refine List.Pairwise.imp_of_mem ?_ hp
    intro x y hx hy hne e
    obtain ⟨s, hs, e1⟩ := hf2 x hx
    obtain ⟨t, ht, e2⟩ := hf2 y hy
    have : s = t := P3.num_inj (by rw [← e1, ← e2]; exact e)
    exact hne (by rw [hs, ht, this])
  have := nd_few 2197 _ hn (fun i hi => by
    obtain ⟨x, hx, rfl⟩ := List.mem_map.1 hi
    obtain ⟨s, _, e⟩ := hf2 x hx
    rw [e]; exact s.num_lt)
  simpa using this

def offerT (T : P3 → Option Nat) (s : P3) (x : Nat) : P3 → Option Nat := fun t => if t = s then (match T s with | none => some x | some y => if x < y then some x else some y) else T t
theorem few_put {H : Type} {D : DataW H} (h : Few D) (s : P3) (d : DataW H) : Few (D.put s.key d) := fun g hg => by
  by_cases e : g.key = s.key
  · exact ⟨s, G3.key_inj e⟩
  · rw [has_put_other e] at hg
    exact h g hg
theorem put_tab {H : Type} {W : World} {b n : Nat} {D : DataW H} {T T' : P3 → Option Nat} {s : P3} {x : Nat} (hD : IsMap D) (hf : Few D) (h : W.ownsMap Tryd.prog 47 (plainElem Tryd.prog 3) b n (D.put s.key (.lit (.int .i64 x)))) (ht : ∀ t, Tell D t (T t)) (h1 : T' s = some x) (h2 : ∀ t, t ≠ s → T' t = T t) : IsTab H W b T' := by
  refine ⟨_, tight (few_put hf s _) h, fun t => ?_, few_put hf s _⟩
  by_cases e : t = s
  · subst e
    rw [h1]
    exact ⟨has_put_same hD (P3.keyLit _) _, fun z => atKey_put_same hD (P3.keyLit _) _ z⟩
  · have hne : t.key ≠ s.key := fun e2 => e (P3.key_inj e2)
    rw [h2 t e]
    have := ht t
    cases hT : T t with
    | none => rw [hT] at this; exact (has_put_other hne _).trans this
    | some y => rw [hT] at this; exact ⟨(has_put_other hne _).trans this.1, fun z => (atKey_put_other hne _ z).trans (this.2 z)⟩
theorem grown_two (w : World) (b : Nat) (o o' : Obj) : w.grownBy ((w.alloc o).alloc o') (some b) :=
  ⟨rfl, rfl, rfl, by simp; omega, fun i hi _ => (Below.heap_alloc _ _ _ (by simp; omega)).trans (Below.heap_alloc _ _ _ hi)⟩
theorem grownTr {w w1 w2 : World} {g : Option Nat} (h1 : w.grownBy w1 g) (h2 : w1.grownBy w2 g) : w.grownBy w2 g :=
  ⟨h2.os.trans h1.os, h2.tape.trans h1.tape, h2.output.trans h1.output, Nat.le_trans h1.size h2.size, fun k hk hr => (h2.block k (Nat.lt_of_lt_of_le hk h1.size) hr).trans (h1.block k hk hr)⟩
theorem wf_small {x : Nat} (h : x < 4096) : (Lit.int .i64 (x : Int)).wf = true := WalkArith.wf_i64 (by omega)

set_option maxHeartbeats 1000000 in
theorem offer_any (H : Type) (b : Nat) (T : P3 → Option Nat) (s : P3) (x : Nat) (hx : x < 4096) (w : World) (hT : IsTab H w b T) :
    Calls Tryd.prog 39 #[.agg #[.map (some b)], s.v, .int .i64 x] w fun e w' => (∃ v, e = .returned v) ∧ IsTab H w' b (offerT T s x) ∧ w.grownBy w' (some b) := by
  obtain ⟨D, hown, htell, hfew⟩ := hT
  have HK : Hid (keyOf Tryd.prog 47 s.v = some s.key) := key_of s
  have ht := htell s
  have HT : Hid (∀ s, Tell D s (T s)) := htell
  have HOW : Hid (((w.alloc (.cells #[.map (some b)] 50)).alloc (.cells s.cells 47)).ownsMap Tryd.prog 47 (plainElem Tryd.prog 3) b 2197 D) := (hown.alloc _).alloc _
  clear htell hown
  cases hs : T s with
  | none =>
    rw [hs] at ht
    have HH : Hid (has D s.key = false) := ht
    go_enter Tryd.func39, Tryd.ntmps39
    go_wp2_with (first | (at_lookup; refine wpList_lookup_own_ok_int _ rfl _ _ 48 rfl 47 3 .i64 places_keyed Tryd.underlying48 Tryd.underlying3 (Tryd.zeroValue3 _) b 2197 D rfl HOW.out _ _ rfl HK.out ?_; intro c hat hwc; rw [HH.out]) | (at_mapUpdate; refine wpList_mapUpdate_own _ rfl _ _ _ 48 rfl 47 3 places_keyed Tryd.underlying48 _ b 2197 D rfl HOW.out (by unfold maxLen; omega) _ _ _ rfl rfl HK.out _ [] (plainElem_int Tryd.underlying3 (wf_small hx)) ?_; intro w1 hown1 hgrow1))
    all_goals go_end0
    refine ⟨⟨_, rfl⟩, put_tab HOW.out.isMap hfew hown1 HT.out (by simp [offerT, hs]) (fun t e => by simp [offerT, e]), ?_⟩
    exact grownTr (grown_two w b _ _) hgrow1
  | some y =>
    rw [hs] at ht
    have HH : Hid (has D s.key = true) := ht.1
    have HA : Hid (D.atKey s.key (.lit (.int .i64 0)) = .lit (.int .i64 (y : Int))) := ht.2 _
    clear ht
    by_cases hlt : x < y
    · go_enter Tryd.func39, Tryd.ntmps39
      go_wp2_with (first | (at_lookup; refine wpList_lookup_own_ok_int _ rfl _ _ 48 rfl 47 3 .i64 places_keyed Tryd.underlying48 Tryd.underlying3 (Tryd.zeroValue3 _) b 2197 D rfl HOW.out _ _ rfl HK.out ?_; intro c hat hwc; rw [HH.out]; have hcy : c = (y : Int) := by { rw [HA.out] at hat; simpa using hat.symm }; clear hat hwc; subst hcy) | (at_mapUpdate; refine wpList_mapUpdate_own _ rfl _ _ _ 48 rfl 47 3 places_keyed Tryd.underlying48 _ b 2197 D rfl HOW.out (by unfold maxLen; omega) _ _ _ rfl rfl HK.out _ [] (plainElem_int Tryd.underlying3 (wf_small hx)) ?_; intro w1 hown1 hgrow1))
      all_goals go_end0
      refine ⟨⟨_, rfl⟩, put_tab HOW.out.isMap hfew hown1 HT.out (by simp [offerT, hs, hlt]) (fun t e => by simp [offerT, e]), ?_⟩
      exact grownTr (grown_two w b _ _) hgrow1
    · have HOF : Hid (offerT T s x = T) := by
        unfold Hid; funext t; unfold offerT
        by_cases e : t = s
        · subst e; simp [hs, hlt]
        · simp [e]
      go_enter Tryd.func39, Tryd.ntmps39
      go_wp2_with (first | (at_lookup; refine wpList_lookup_own_ok_int _ rfl _ _ 48 rfl 47 3 .i64 places_keyed Tryd.underlying48 Tryd.underlying3 (Tryd.zeroValue3 _) b 2197 D rfl HOW.out _ _ rfl HK.out ?_; intro c hat hwc; rw [HH.out]; have hcy : c = (y : Int) := by { rw [HA.out] at hat; simpa using hat.symm }; clear hat hwc; subst hcy))
      all_goals go_end0
      exact ⟨⟨_, rfl⟩, by rw [HOF.out]; exact ⟨D, HOW.out, HT.out, hfew⟩, grown_two w b _ _⟩
set_option maxHeartbeats 1000000 in
theorem tall_any (b : Nat) (w : World) :
    Calls Tryd.prog 38 #[.agg #[.map (some b)]] w fun e w' => e = .returned (.func (.func 50) #[] #[.pointer (some ⟨w.heap.size, 0, none⟩)]) ∧ w' = w.alloc (.cells #[.map (some b)] 50) := by
  go_enter Tryd.func38, Tryd.ntmps38
  go_wp2
  go_ret
  exact ⟨rfl, rfl⟩
end Pl
end Go.Proofs.YtnjfmlojbaigjaaDoor
