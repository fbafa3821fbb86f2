/- Tables in the world: what is put in; the walks of least.Table's offer and All. Written by wip/tools/gen_waits.py. -/
import Derived.Test.YtbdkpgjbcjmoiaaDoorW20
import Derived.Deep.WholeRow
namespace Go.Proofs.YtbdkpgjbcjmoiaaDoor
set_option maxRecDepth 100000
open Go.RowKit Go.Maps
open Go.WideElems (Fit rd rg)


/-- A block of cells, as it was laid. -/
def Lies (W : World) (B : Nat) (cs : Array Value) (t : TypeId) : Prop := W.heap[B]? = some (.cells cs t (0, 0))
theorem Lies.new (W : World) (cs : Array Value) (t : TypeId) : Lies (W.alloc (.cells cs t)) W.heap.size cs t := World.alloc_heap_new W _
theorem waits_size (s : W20) : (Tryd.prog.info? 47).map (·.size) = some s.cells.size := by
  have e : (Tryd.prog.info? 47).map (·.size) = some 20 := by kernel_rfl
  exact e
theorem store_waits (s : W20) (w : World) : (storeCells ⟨w.heap.size, 0, none⟩ s.cells.toList).run Tryd.prog (w.alloc (.cells #[.bool false, .bool false, .bool false, .bool false, .bool false, .bool false, .bool false, .bool false, .bool false, .bool false, .bool false, .bool false, .bool false, .bool false, .bool false, .bool false, .bool false, .bool false, .bool false, .bool false] 47)) = .ok () (w.alloc (.cells s.cells 47)) :=
  run_storeCells_new w 47 #[.bool false, .bool false, .bool false, .bool false, .bool false, .bool false, .bool false, .bool false, .bool false, .bool false, .bool false, .bool false, .bool false, .bool false, .bool false, .bool false, .bool false, .bool false, .bool false, .bool false] s.cells (waits_size s) rfl (by simp [W20.cells, Value.oneCell'])
theorem wpList_load_waits {ops : Array Oper} {rest : List Oper} {o : Oper} {a : Act} {w : World} {Q : Exit → Act → World → Prop} (hgd : o.guard = none) (x : Operand) (ho : o.op = .load 47 x)
    (g : Nat) (hx : a.eval x = .pointer (some ⟨g, 0, none⟩)) (s : W20) (hg : Lies w g s.cells 47)
    (h : wpList Tryd.prog ops Q rest (a.put o.dst (.agg s.cells)) w) : wpList Tryd.prog ops Q (o :: rest) a w :=
  wpList_load_row hgd 47 x ho g hx 47 s.cells (0, 0) _ hg Tryd.underlying47 rfl (waits_size s) h
theorem wpListIn_load_waits {F : Fence} {nF : Nat} {ops : Array Oper} {rest : List Oper} {o : Oper} {a : Act} {w : World} {Q : Exit → Act → World → Prop} (hgd : o.guard = none) (x : Operand) (ho : o.op = .load 47 x)
    (g : Nat) (hx : a.eval x = .pointer (some ⟨g, 0, none⟩)) (s : W20) (hg : Lies w g s.cells 47)
    (h : wpListIn F nF Tryd.prog ops Q rest (a.put o.dst (.agg s.cells)) w) : wpListIn F nF Tryd.prog ops Q (o :: rest) a w := by
  refine wpListIn_plain hgd fun K' hK' => ?_
  unfold Oper.wpIn
  refine ⟨by simp [Oper.about, ho], ?_⟩
  rw [Oper.semAt_plain F _ _ (by rw [ho]; intro c hc'; cases hc')]
  simp only [execOp, ho, hx, Instr.loadAt, Instr.sureAddr, Sem.run_bind, Sem.run_pure, Result.andThen_ok, run_loadVar_row w g 47 47 s.cells (0, 0) _ hg Tryd.underlying47 rfl (waits_size s)]
  exact hK' _ _ h

theorem tight {H : Type} {W : World} {R : Value → Option (DataW H × List MemPlace)} {b n : Nat} {D : DataW H} (h : W.ownsMap Tryd.prog 47 R b n D) : W.ownsMap Tryd.prog 47 R b 1048576 D := by
  obtain ⟨es, ck, hh, F, _, hD⟩ := h
  refine ⟨es, ck, hh, F, ?_, hD⟩
  have hk : ∀ x, x ∈ es.toList → ∃ s : W20, x.key = s.v := fun x hx => by
    obtain ⟨y, hy⟩ := F.reads x hx
    obtain ⟨s, hs, _⟩ := key_inv (WideElems.rd_key hy)
    exact ⟨s, hs⟩
  have hp : es.toList.Pairwise (fun x y => x.key ≠ y.key) := ((MapKept.stamped_iff es ck).1 F.stamped).2.2
  classical
  let f : MapEntry → Nat := fun x => if h : ∃ s : W20, x.key = s.v then h.choose.num else 0
  have hf : ∀ x, x ∈ es.toList → ∃ s : W20, x.key = s.v ∧ f x = s.num := fun x hx => ⟨(hk x hx).choose, (hk x hx).choose_spec, by show (if h : ∃ s : W20, x.key = s.v then h.choose.num else 0) = _; rw [dif_pos (hk x hx)]⟩
  have hn : (es.toList.map f).Nodup := by
    unfold List.Nodup
    rw [List.pairwise_map]
    refine List.Pairwise.imp_of_mem ?_ hp
    intro x y hx hy hne e
    obtain ⟨s, hs, e1⟩ := hf x hx
    obtain ⟨t, ht, e2⟩ := hf y hy
    have : s = t := W20.num_inj (by rw [← e1, ← e2]; exact e)
    exact hne (by rw [hs, ht, this])
  have := nd_few 1048576 _ hn (fun i hi => by
    obtain ⟨x, hx, rfl⟩ := List.mem_map.1 hi
    obtain ⟨s, _, e⟩ := hf x hx
    rw [e]; exact s.num_lt)
  simpa using this

def offerT (T : W20 → Option Nat) (s : W20) (x : Nat) : W20 → Option Nat := fun t => if t = s then (match T s with | none => some x | some y => if x < y then some x else some y) else T t
theorem put_tab {H : Type} {W : World} {b n : Nat} {D : DataW H} {T T' : W20 → Option Nat} {s : W20} {x : Nat} (hD : IsMap D) (h : W.ownsMap Tryd.prog 47 (plainElem Tryd.prog 3) b n (D.put s.key (.lit (.int .i64 x)))) (ht : ∀ t, Tell D t (T t)) (h1 : T' s = some x) (h2 : ∀ t, t ≠ s → T' t = T t) : IsTab H W b T' := by
  refine ⟨_, tight h, fun t => ?_⟩
  by_cases e : t = s
  · subst e
    rw [h1]
    exact ⟨has_put_same hD (W20.keyLit _) _, fun z => atKey_put_same hD (W20.keyLit _) _ z⟩
  · have hne : t.key ≠ s.key := fun e2 => e (W20.key_inj e2)
    rw [h2 t e]
    have := ht t
    cases hT : T t with
    | none => rw [hT] at this; exact (has_put_other hne _).trans this
    | some y => rw [hT] at this; exact ⟨(has_put_other hne _).trans this.1, fun z => (atKey_put_other hne _ z).trans (this.2 z)⟩
theorem grown_two (w : World) (b : Nat) (o o' : Obj) : w.grownBy ((w.alloc o).alloc o') (some b) :=
  ⟨rfl, rfl, rfl, by simp; omega, fun i hi _ => (Below.heap_alloc _ _ _ (by simp; omega)).trans (Below.heap_alloc _ _ _ hi)⟩
theorem grownTr {w w1 w2 : World} {g : Option Nat} (h1 : w.grownBy w1 g) (h2 : w1.grownBy w2 g) : w.grownBy w2 g :=
  ⟨h2.os.trans h1.os, h2.tape.trans h1.tape, h2.output.trans h1.output, Nat.le_trans h1.size h2.size, fun k hk hr => (h2.block k (Nat.lt_of_lt_of_le hk h1.size) hr).trans (h1.block k hk hr)⟩
theorem wf_small {x : Nat} (h : x < 65536) : (Lit.int .i64 (x : Int)).wf = true := WalkArith.wf_i64 (by omega)

set_option maxHeartbeats 1000000 in
theorem offer_any (H : Type) (b : Nat) (T : W20 → Option Nat) (s : W20) (x : Nat) (hx : x < 65536) (w : World) (hT : IsTab H w b T) :
    Calls Tryd.prog 30 #[.agg #[.map (some b)], s.v, .int .i64 x] w fun e w' => (∃ v, e = .returned v) ∧ IsTab H w' b (offerT T s x) ∧ w.grownBy w' (some b) := by
  obtain ⟨D, hown, htell⟩ := hT
  have HK : Hid (keyOf Tryd.prog 47 s.v = some s.key) := key_of s
  have HLS : Hid (Lies ((w.alloc (.cells #[.map (some b)] 44)).alloc (.cells s.cells 47)) (w.heap.size + 1) s.cells 47) := by have := Lies.new (w.alloc (.cells #[.map (some b)] 44)) s.cells 47; rwa [World.size_alloc] at this
  have ht := htell s
  have HT : Hid (∀ s, Tell D s (T s)) := htell
  have HOW : Hid (((w.alloc (.cells #[.map (some b)] 44)).alloc (.cells s.cells 47)).ownsMap Tryd.prog 47 (plainElem Tryd.prog 3) b 1048576 D) := (hown.alloc _).alloc _
  clear htell hown
  cases hs : T s with
  | none =>
    rw [hs] at ht
    have HH : Hid (has D s.key = false) := ht
    go_enter Tryd.func30, Tryd.ntmps30
    go_wp2_with (first | (refine wpList_load_waits rfl _ rfl _ rfl s HLS.out ?_) | (at_lookup; refine wpList_lookup_own_ok_int _ rfl _ _ 42 rfl 47 3 .i64 waits_keyed Tryd.underlying42 Tryd.underlying3 (Tryd.zeroValue3 _) b 1048576 D rfl HOW.out _ _ rfl HK.out ?_; intro c hat hwc; rw [HH.out]) | (at_mapUpdate; refine wpList_mapUpdate_own _ rfl _ _ _ 42 rfl 47 3 waits_keyed Tryd.underlying42 _ b 1048576 D rfl HOW.out (by unfold maxLen; omega) _ _ _ rfl rfl HK.out _ [] (plainElem_int Tryd.underlying3 (wf_small hx)) ?_; intro w1 hown1 hgrow1))
    all_goals go_end0
    refine ⟨⟨_, rfl⟩, put_tab HOW.out.isMap hown1 HT.out (by simp [offerT, hs]) (fun t e => by simp [offerT, e]), ?_⟩
    exact grownTr (grown_two w b _ _) hgrow1
  | some y =>
    rw [hs] at ht
    have HH : Hid (has D s.key = true) := ht.1
    have HA : Hid (D.atKey s.key (.lit (.int .i64 0)) = .lit (.int .i64 (y : Int))) := ht.2 _
    clear ht
    by_cases hlt : x < y
    · go_enter Tryd.func30, Tryd.ntmps30
      go_wp2_with (first | (refine wpList_load_waits rfl _ rfl _ rfl s HLS.out ?_) | (at_lookup; refine wpList_lookup_own_ok_int _ rfl _ _ 42 rfl 47 3 .i64 waits_keyed Tryd.underlying42 Tryd.underlying3 (Tryd.zeroValue3 _) b 1048576 D rfl HOW.out _ _ rfl HK.out ?_; intro c hat hwc; rw [HH.out]; have hcy : c = (y : Int) := by { rw [HA.out] at hat; simpa using hat.symm }; clear hat hwc; subst hcy) | (at_mapUpdate; refine wpList_mapUpdate_own _ rfl _ _ _ 42 rfl 47 3 waits_keyed Tryd.underlying42 _ b 1048576 D rfl HOW.out (by unfold maxLen; omega) _ _ _ rfl rfl HK.out _ [] (plainElem_int Tryd.underlying3 (wf_small hx)) ?_; intro w1 hown1 hgrow1))
      all_goals go_end0
      refine ⟨⟨_, rfl⟩, put_tab HOW.out.isMap hown1 HT.out (by simp [offerT, hs, hlt]) (fun t e => by simp [offerT, e]), ?_⟩
      exact grownTr (grown_two w b _ _) hgrow1
    · have HOF : Hid (offerT T s x = T) := by
        unfold Hid; funext t; unfold offerT
        by_cases e : t = s
        · subst e; simp [hs, hlt]
        · simp [e]
      go_enter Tryd.func30, Tryd.ntmps30
      go_wp2_with (first | (refine wpList_load_waits rfl _ rfl _ rfl s HLS.out ?_) | (at_lookup; refine wpList_lookup_own_ok_int _ rfl _ _ 42 rfl 47 3 .i64 waits_keyed Tryd.underlying42 Tryd.underlying3 (Tryd.zeroValue3 _) b 1048576 D rfl HOW.out _ _ rfl HK.out ?_; intro c hat hwc; rw [HH.out]; have hcy : c = (y : Int) := by { rw [HA.out] at hat; simpa using hat.symm }; clear hat hwc; subst hcy))
      all_goals go_end0
      exact ⟨⟨_, rfl⟩, by rw [HOF.out]; exact ⟨D, HOW.out, HT.out⟩, grown_two w b _ _⟩
def W20.none : W20 := .ofFn fun _ => false
set_option maxHeartbeats 1000000 in
theorem tall_any (b : Nat) (w : World) :
    Calls Tryd.prog 29 #[.agg #[.map (some b)]] w fun e w' => e = .returned (.func (.func 39) #[] #[.pointer (some ⟨w.heap.size, 0, none⟩)]) ∧ w' = w.alloc (.cells #[.map (some b)] 44) := by
  go_enter Tryd.func29, Tryd.ntmps29
  go_wp2
  go_ret
  exact ⟨rfl, rfl⟩
end Go.Proofs.YtbdkpgjbcjmoiaaDoor
