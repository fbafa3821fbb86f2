/- Several texts in one. -/
import Derived.Test.YtmibnceadciidaaDoorBase
import Derived.Deep.QuietTactic
import Derived.BigQuiet
import Derived.Test.YtmibnceadciidaaDoorHeapI
import Derived.LaidEql
import Derived.Stop.Asserts
import Derived.RowKitTokens
import Derived.Test.YtmibnceadciidaaDoorSides
import Derived.Lib.SmallJoins
import Derived.Deep.Matrix
import Derived.Test.YtmibnceadciidaaDoorCStep
import Derived.Deep.RegionHeld3
import Derived.Test.YtmibnceadciidaaDoorPEnv
/- The walk of larderwicksame.Ints where both lists hold the same. -/
namespace Go.Proofs.YtmibnceadciidaaDoor
open Go.RowKit

set_option maxHeartbeats 400000 in
theorem ints_same (v v2 : Value) (l : List Int) (w : World) (hv : IsInts w v l) (hv2 : IsInts w v2 l) :
    Calls Tryd.prog 30 #[v, v2] w fun e w' => e = .returned (.bool true) ∧ ∃ n, w' = w.drewN n := by
  rcases hv with ⟨rfl, ao, cap, rfl, hcap⟩ | ⟨b, off, cap, rfl, hpos, hlc, hcap, hc⟩
  · rcases hv2 with ⟨_, ao2, cap2, rfl, hcap2⟩ | ⟨b2, off2, cap2, rfl, hpos2, hlc2, hcap2, hc2⟩
    · go_enter Tryd.func30, Tryd.ntmps30
      go_wp2
      go_loop [5] (fun i => i = .int .i64 0) (fun _ => 0)
      case atStart => rfl
      case round =>
        obtain rfl := hrel
        go_wp2
        go_ret
        exact ⟨rfl, 0, rfl⟩
    · simp at hpos2
  · rcases hv2 with ⟨h0, _⟩ | ⟨b2, off2, cap2, rfl, hpos2, hlc2, hcap2, hc2⟩
    · subst h0; simp at hpos
    · unfold maxLen at hcap hcap2
      have HC : Hid (∀ j, j < l.length → w.cell? ⟨b, off + j, none⟩ = some (.int .i64 (l[j]?.getD 0))) := hc
      have HC2 : Hid (∀ j, j < l.length → w.cell? ⟨b2, off2 + j, none⟩ = some (.int .i64 (l[j]?.getD 0))) := hc2
      clear hc hc2
      go_enter Tryd.func30, Tryd.ntmps30
      go_wp2
      go_loopw [5] (fun i wr => ∃ k q : Nat, k ≤ l.length ∧ i = .int .i64 k ∧ wr = w.drewN q) (fun i _ => l.length - (intOf i).toNat)
      case atStart => exact ⟨0, 0, by omega, rfl, rfl⟩
      case round =>
        obtain ⟨k, q, hk, rfl, rfl⟩ := hrel
        by_cases hlt : k < l.length
        · have hck := HC.out k hlt
          have hck2 := HC2.out k hlt
          generalize l[k]?.getD 0 = p at *
          have hpp : (p != p) = false := by simp
          go_wp2
          go_quiet (fail)
          go_wp2
          go_roundw
          case rel => exact ⟨k + 1, _, by omega, by go_num, rfl⟩
          case measure => simp [intOf]; omega
        · go_wp2
          go_ret
          exact ⟨rfl, q, rfl⟩

end Go.Proofs.YtmibnceadciidaaDoor

/- The walks of larderwicksame.Rows where both hold the same. -/
namespace Go.Proofs.YtmibnceadciidaaDoor
set_option maxRecDepth 100000
open Go.RowKit Go.Sort

set_option maxHeartbeats 1000000 in
theorem rows_same (v v2 : Value) (L : List (List Int)) (w : World) (hv : IsRows w v L) (hv2 : IsRows w v2 L) :
    Calls Tryd.prog 31 #[v, v2] w fun e w' => e = .returned (.bool true) ∧ ∃ n, w' = w.drewN n := by
  obtain ⟨ao, co, rfl⟩ := hv.form
  obtain ⟨a2, c2, rfl⟩ := hv2.form
  have HV : Hid (IsRows w (.slice ao L.length co) L) := hv
  have HV2 : Hid (IsRows w (.slice a2 L.length c2) L) := hv2
  clear hv hv2
  go_enter Tryd.func31, Tryd.ntmps31
  go_wp2
  go_loopw [5] (fun i wr => ∃ k q : Nat, k ≤ L.length ∧ i = .int .i64 k ∧ wr = w.drewN q) (fun i _ => L.length - (intOf i).toNat)
  case atStart => exact ⟨0, 0, Nat.zero_le _, rfl, rfl⟩
  case round =>
    obtain ⟨k, q, hk, rfl, rfl⟩ := hrel
    by_cases hlt : k < L.length
    · have hlt' : (k : Int) < (L.length : Int) := by omega
      obtain ⟨b, off, rfl, hlc, hbs, au, cu, hcu, hiu, hmm, hcum⟩ := HV.out.at hlt
      obtain ⟨b2, off2, rfl, hlc2, hbs2, au2, cu2, hcu2, hiu2, hmm2, hcum2⟩ := HV2.out.at hlt
      have HQ : Hid (∀ n, ∃ q', (w.drewN q).drewN n = w.drewN q') := fun n => ⟨q + n, by simp [World.drewN_drewN]⟩
      have hcq : (w.drewN q).cell? ⟨b, off + k, none⟩ = some (.slice au (rowAt L k).length cu) := hcu
      have hcq2 : (w.drewN q).cell? ⟨b2, off2 + k, none⟩ = some (.slice au2 (rowAt L k).length cu2) := hcu2
      have HS : Hid (∀ W : World, W.heap = (w.drewN q).heap → Calls Tryd.prog 30 #[.slice au (rowAt L k).length cu, .slice au2 (rowAt L k).length cu2] W fun e w' => e = .returned (.bool true) ∧ ∃ n, w' = W.drewN n) := fun W hW => ints_same _ _ (rowAt L k) W (hiu.heap hW) (hiu2.heap hW)
      clear hiu hiu2 hcu hcu2
      generalize w.drewN q = wq at *
      go_wp2
      go_quiet (first | (go_at_call 30; exact Calls.quiet_of (HS.out _ (by rfl))))
      go_wp2
      go_roundw
      case rel =>
        obtain ⟨q', hq'⟩ := HQ.out nq
        exact ⟨k + 1, q', by omega, by go_num, hq'⟩
      case measure => simp [intOf]; omega
    · have hlt' : ¬ (k : Int) < (L.length : Int) := by omega
      go_wp2
      go_ret
      exact ⟨rfl, q, rfl⟩
end Go.Proofs.YtmibnceadciidaaDoor

/- The walk of larderwicksame.Heaps where both hold the same. -/
namespace Go.Proofs.YtmibnceadciidaaDoor
set_option maxRecDepth 100000
open Go.RowKit Go.Sort

set_option maxHeartbeats 1000000 in
theorem heaps_same (v v2 : Value) (L : List (List Int)) (R : List Int) (w : World) (hv : IsHeap w v L R) (hv2 : IsHeap w v2 L R) :
    Calls Tryd.prog 17 #[v, v2] w fun e w' => e = .returned (.bool true) ∧ Below w.heap.size w w' := by
  obtain ⟨ao, co, ar, cr, rfl, h1, h2⟩ := hv.form
  obtain ⟨a2, c2, r2, d2, rfl, h3, h4⟩ := hv2.form
  have HBX : Hid (Boxed w (w.alloc (.cells #[.slice ao L.length co, .slice ar R.length cr] 45)) w.heap.size ao co ar cr L R) := boxed h1 h2 _
  have HBY : Hid (Boxed (w.alloc (.cells #[.slice ao L.length co, .slice ar R.length cr] 45)) ((w.alloc (.cells #[.slice ao L.length co, .slice ar R.length cr] 45)).alloc (.cells #[.slice a2 L.length c2, .slice r2 R.length d2] 45)) (w.alloc (.cells #[.slice ao L.length co, .slice ar R.length cr] 45)).heap.size a2 c2 r2 d2 L R) := boxed (h3.below HBX.out.below) (h4.below HBX.out.below) _
  have HB2 : Hid (Boxed w ((w.alloc (.cells #[.slice ao L.length co, .slice ar R.length cr] 45)).alloc (.cells #[.slice a2 L.length c2, .slice r2 R.length d2] 45)) w.heap.size ao co ar cr L R) := HBX.out.later ((Below.refl _ _).alloc (Nat.le_refl _) _)
  have HSZ : Hid ((w.alloc (.cells #[.slice ao L.length co, .slice ar R.length cr] 45)).heap.size = w.heap.size + 1) := by unfold Hid; simp
  have hd0 := HB2.out.outs
  have hd1 := HB2.out.roots
  have he0 : ((w.alloc (.cells #[.slice ao L.length co, .slice ar R.length cr] 45)).alloc (.cells #[.slice a2 L.length c2, .slice r2 R.length d2] 45)).cell? ⟨w.heap.size + 1, 0, none⟩ = some (.slice a2 L.length c2) := by rw [← HSZ.out]; exact HBY.out.outs
  have he1 : ((w.alloc (.cells #[.slice ao L.length co, .slice ar R.length cr] 45)).alloc (.cells #[.slice a2 L.length c2, .slice r2 R.length d2] 45)).cell? ⟨w.heap.size + 1, 1, none⟩ = some (.slice r2 R.length d2) := by rw [← HSZ.out]; exact HBY.out.roots
  have HR1 : Hid (IsInts ((w.alloc (.cells #[.slice ao L.length co, .slice ar R.length cr] 45)).alloc (.cells #[.slice a2 L.length c2, .slice r2 R.length d2] 45)) (.slice ar R.length cr) R) := HB2.out.ints
  have HR2 : Hid (IsInts ((w.alloc (.cells #[.slice ao L.length co, .slice ar R.length cr] 45)).alloc (.cells #[.slice a2 L.length c2, .slice r2 R.length d2] 45)) (.slice r2 R.length d2) R) := HBY.out.ints
  have HO1 : Hid (IsRows ((w.alloc (.cells #[.slice ao L.length co, .slice ar R.length cr] 45)).alloc (.cells #[.slice a2 L.length c2, .slice r2 R.length d2] 45)) (.slice ao L.length co) L) := HB2.out.rows
  have HO2 : Hid (IsRows ((w.alloc (.cells #[.slice ao L.length co, .slice ar R.length cr] 45)).alloc (.cells #[.slice a2 L.length c2, .slice r2 R.length d2] 45)) (.slice a2 L.length c2) L) := HBY.out.rows
  have HBE : Hid (Below w.heap.size w ((w.alloc (.cells #[.slice ao L.length co, .slice ar R.length cr] 45)).alloc (.cells #[.slice a2 L.length c2, .slice r2 R.length d2] 45))) := HB2.out.below
  clear hv hv2 h1 h2 h3 h4 HBX HBY HB2 HSZ
  go_enter Tryd.func17, Tryd.ntmps17
  go_wp2_with fail
  generalize (w.alloc (.cells #[.slice ao L.length co, .slice ar R.length cr] 45)).alloc (.cells #[.slice a2 L.length c2, .slice r2 R.length d2] 45) = w2 at *
  refine (ints_same _ _ R _ HR1.out HR2.out).mono ?_
  rintro e w3 ⟨rfl, q, rfl⟩
  have HP1 : Hid (IsRows (w2.drewN q) (.slice ao L.length co) L) := HO1.out.heap rfl
  have HP2 : Hid (IsRows (w2.drewN q) (.slice a2 L.length c2) L) := HO2.out.heap rfl
  go_wp2_with (go_at_call 31; fail)
  refine (rows_same _ _ L _ HP1.out HP2.out).mono ?_
  rintro e w4 ⟨rfl, q4, rfl⟩
  go_wp2
  go_ret
  exact ⟨rfl, below_drewN HBE.out _⟩
end Go.Proofs.YtmibnceadciidaaDoor

/- errors.As at the target of plain.Told: Go's own text of errors.As is walked; the entries of internal/reflectlite by closed facts. -/
namespace Go.Proofs.YtmibnceadciidaaDoor
open Go.RowKit Go.Extern.Stop Go.Stop Go.Extern

theorem as_valueOf (t : Addr) (w : World) : (ReflectliteValue.unpack (.iface 68 (.pointer (some t)))).run Tryd.prog w
    = .ok (.agg #[.pointer (some ⟨1, 68, none⟩), .pointer (some ⟨w.heap.size, 0, none⟩), .int .u64 150]) (w.alloc (.cells #[.pointer (some t)] 68)) := by kernel_rfl
theorem as_type (a : Addr) (w : World) : (ReflectliteValue.methodAny (ReflectliteValue.valueError "reflectlite.Value.Type" 0) (fun t _ _ _ => ReflectliteType.toType t) #[.agg #[.pointer (some ⟨1, 68, none⟩), .pointer (some a), .int .u64 150]]).run Tryd.prog w
    = .ok (.iface 82 (.agg #[.pointer (some ⟨1, 68, none⟩)])) w := by kernel_rfl
theorem as_methodKind (h : Value) (w : World) : (Go.method 224 82 (.agg #[h]) "Kind").run Tryd.prog w = .ok (58, h) w := by kernel_rfl
theorem as_kindP (w : World) : ((ReflectliteType.abiMethod fun t => (fun a : Nat => Value.int IntKind.u8 (a : Int)) <$> Rtype.kind t) #[.pointer (some ⟨1, 68, none⟩)]).run Tryd.prog w = .ok (.int .u8 22) w := by kernel_rfl
theorem as_kindE (w : World) : ((ReflectliteType.abiMethod fun t => (fun a : Nat => Value.int IntKind.u8 (a : Int)) <$> Rtype.kind t) #[.pointer (some ⟨1, 57, none⟩)]).run Tryd.prog w = .ok (.int .u8 2) w := by kernel_rfl
theorem as_rlm (z : Sem Value) (f : TypeId → Addr → Nat → Nat → Sem Value) (v : Value) :
    ReflectliteValue.method z f #[v] = (do match ← ReflectliteValue.parts v with | none => z | some (t, a, fl) => f t a fl (fl % 32)) := rfl
theorem as_partsP (a : Addr) (w : World) : (ReflectliteValue.parts (.agg #[.pointer (some ⟨1, 68, none⟩), .pointer (some a), .int .u64 150])).run Tryd.prog w = .ok (some (68, a, 150)) w := by kernel_rfl
theorem as_isNil (a p : Addr) (W : World) (ha : W.cell? a = some (.pointer (some p))) :
    (ReflectliteValue.method (ReflectliteValue.valueError "reflectlite.Value.IsNil" 0) ReflectliteValue.isNil #[.agg #[.pointer (some ⟨1, 68, none⟩), .pointer (some a), .int .u64 150]]).run Tryd.prog W = .ok (.bool false) W := by
  rw [as_rlm]
  simp only [Sem.run_bind, as_partsP, Result.andThen]
  simp [ReflectliteValue.isNil, loadVar, isAgg, underlying, Tryd.underlying68, ha, Result.andThen]
theorem as_methodElem (h : Value) (w : World) : (Go.method 224 82 (.agg #[h]) "Elem").run Tryd.prog w = .ok (68, .agg #[h]) w := by kernel_rfl
theorem as_methodImplements (h : Value) (w : World) : (Go.method 224 82 (.agg #[h]) "Implements").run Tryd.prog w = .ok (69, .agg #[h]) w := by kernel_rfl
theorem as_methodAssignableTo (h : Value) (w : World) : (Go.method 224 82 (.agg #[h]) "AssignableTo").run Tryd.prog w = .ok (66, .agg #[h]) w := by kernel_rfl
theorem as_elem (w : World) : (ReflectliteType.method ReflectliteType.elem #[.agg #[.pointer (some ⟨1, 68, none⟩)]]).run Tryd.prog w = .ok (.iface 82 (.agg #[.pointer (some ⟨1, 57, none⟩)])) w := by kernel_rfl
theorem as_implements (w : World) : (ReflectliteType.relation "Implements" ReflectliteType.implements_ #[.agg #[.pointer (some ⟨1, 57, none⟩)], .iface 82 (.agg #[.pointer (some ⟨1, 33, none⟩)])]).run Tryd.prog w = .ok (.bool true) w := by kernel_rfl
theorem as_typeOf (v : Value) (w : World) : (ReflectliteType.typeOf #[.iface 57 v]).run Tryd.prog w = .ok (.iface 82 (.agg #[.pointer (some ⟨1, 57, none⟩)])) w := by kernel_rfl
theorem as_assignable (w : World) : (ReflectliteType.relation "AssignableTo" ReflectliteType.assignableTo #[.agg #[.pointer (some ⟨1, 57, none⟩)], .iface 82 (.agg #[.pointer (some ⟨1, 57, none⟩)])]).run Tryd.prog w = .ok (.bool true) w := by kernel_rfl
theorem as_valueOfE (e : Int) (w : World) : (ReflectliteValue.unpack (.iface 57 (.int .i64 e))).run Tryd.prog w
    = .ok (.agg #[.pointer (some ⟨1, 57, none⟩), .pointer (some ⟨w.heap.size, 0, none⟩), .int .u64 130]) (w.alloc (.cells #[.int .i64 e] 57)) := by kernel_rfl
theorem as_elemOf (w : World) : (Rtype.elem? 68).run Tryd.prog w = .ok (some 57) w := by kernel_rfl
theorem as_mkE (p : Addr) (w : World) : (ReflectliteValue.mk 57 p ReflectliteValue.flagAddr).run Tryd.prog w = .ok (.agg #[.pointer (some ⟨1, 57, none⟩), .pointer (some p), .int .u64 386]) w := by kernel_rfl
theorem as_elemV (a p : Addr) (W : World) (ha : W.cell? a = some (.pointer (some p))) :
    (ReflectliteValue.method (ReflectliteValue.valueError "reflectlite.Value.Elem" 0) ReflectliteValue.elem #[.agg #[.pointer (some ⟨1, 68, none⟩), .pointer (some a), .int .u64 150]]).run Tryd.prog W
      = .ok (.agg #[.pointer (some ⟨1, 57, none⟩), .pointer (some p), .int .u64 386]) W := by
  rw [as_rlm]
  simp only [Sem.run_bind, as_partsP, Result.andThen]
  simp [ReflectliteValue.elem, loadVar, isAgg, underlying, Tryd.underlying68, ha, Result.andThen, as_elemOf, as_mkE]
theorem as_partsEa (a : Addr) (w : World) : (ReflectliteValue.parts (.agg #[.pointer (some ⟨1, 57, none⟩), .pointer (some a), .int .u64 386])).run Tryd.prog w = .ok (some (57, a, 386)) w := by kernel_rfl
theorem as_partsE (a : Addr) (w : World) : (ReflectliteValue.parts (.agg #[.pointer (some ⟨1, 57, none⟩), .pointer (some a), .int .u64 130])).run Tryd.prog w = .ok (some (57, a, 130)) w := by kernel_rfl
theorem as_direct (w : World) : (Rtype.directlyAssignable 57 57).run Tryd.prog w = .ok true w := by kernel_rfl
theorem as_set (ta b : Addr) (e : Int) (old : Value) (W : World) (hb : W.cell? b = some (.int .i64 e)) (ht : W.cell? ta = some old) (hf : W.frozen? ta = false) :
    (ReflectliteValue.set #[.agg #[.pointer (some ⟨1, 57, none⟩), .pointer (some ta), .int .u64 386], .agg #[.pointer (some ⟨1, 57, none⟩), .pointer (some b), .int .u64 130]]).run Tryd.prog W
      = .ok (.tuple #[]) (W.setCell ta (.int .i64 e)) := by
  show Sem.run Tryd.prog (ReflectliteValue.parts (.agg #[.pointer (some ⟨1, 57, none⟩), .pointer (some ta), .int .u64 386]) >>= fun r => ReflectliteValue.parts (.agg #[.pointer (some ⟨1, 57, none⟩), .pointer (some b), .int .u64 130]) >>= _) W = _
  simp only [Sem.run_bind, as_partsEa, as_partsE, Result.andThen]
  simp [ReflectliteValue.flagAddr, loadVar, isAgg, underlying, Tryd.underlying57, hb, Result.andThen, as_direct, storeVar, Value.cells, storeCells, Addr.add]
  rw [run_store Tryd.prog W ta _ _ (by rfl)]
  simp [ht, hf]

/-- The variable that errors.As reads. -/
def Handle (w : World) : Prop := w.cell? ⟨0, 0, none⟩ = some (.iface 82 (.agg #[.pointer (some ⟨1, 33, none⟩)]))

theorem Handle.below {w w' : World} (h : Handle w) (hb : Below w.heap.size w w') : Handle w' := by
  unfold Handle at h ⊢
  rw [hb.cell (World.block_lt_of_cell? w _ h)]
  exact h

set_option maxHeartbeats 4000000 in
theorem as_hit (e : Int) (t : Addr) (old : Value) (w : World) (hg : Handle w) (ht0 : w.cell? t = some old) (hf0 : w.frozen? t = false) :
    Calls Tryd.prog 36 #[.iface 57 (.int .i64 e), .iface 68 (.pointer (some t))] w fun ev w' => ev = .returned (.bool true) ∧ w' = ((((w.alloc (.cells #[.pointer (some t)] 68)).alloc (.cells #[.pointer (some ⟨1, 68, none⟩), .pointer (some ⟨w.heap.size, 0, none⟩), .int .u64 150] 72)).alloc (.cells #[.pointer (some ⟨1, 68, none⟩), .pointer (some ⟨w.heap.size, 0, none⟩), .int .u64 150] 72)).alloc (.cells #[.int .i64 e] 57)).setCell t (.int .i64 e) := by
  have h24 := @run_callFunc_extern Tryd.prog 37 _ (fun args => ReflectliteValue.unpack (args.getD 0 (.tuple #[]))) Tryd.func37 (by kernel_rfl) (by kernel_rfl) (by kernel_rfl) (by kernel_rfl)
  have h25 := @run_callFunc_extern Tryd.prog 38 _ (ReflectliteValue.methodAny (ReflectliteValue.valueError "reflectlite.Value.Type" 0) (fun t _ _ _ => ReflectliteType.toType t)) Tryd.func38 (by kernel_rfl) (by kernel_rfl) (by kernel_rfl) (by kernel_rfl)
  have h26 := @run_callFunc_extern Tryd.prog 39 _ (ReflectliteValue.method (ReflectliteValue.valueError "reflectlite.Value.IsNil" 0) ReflectliteValue.isNil) Tryd.func39 (by kernel_rfl) (by kernel_rfl) (by kernel_rfl) (by kernel_rfl)
  have hK := @run_callFunc_extern Tryd.prog 58 _ (ReflectliteType.abiMethod fun t => do pure (.int .u8 (← Rtype.kind t))) Tryd.func58 (by kernel_rfl) (by kernel_rfl) (by kernel_rfl) (by kernel_rfl)
  have hE := @run_callFunc_extern Tryd.prog 68 _ (ReflectliteType.method ReflectliteType.elem) Tryd.func68 (by kernel_rfl) (by kernel_rfl) (by kernel_rfl) (by kernel_rfl)
  have hI := @run_callFunc_extern Tryd.prog 69 _ (ReflectliteType.relation "Implements" ReflectliteType.implements_) Tryd.func69 (by kernel_rfl) (by kernel_rfl) (by kernel_rfl) (by kernel_rfl)
  have hT := @run_callFunc_extern Tryd.prog 41 _ ReflectliteType.typeOf Tryd.func41 (by kernel_rfl) (by kernel_rfl) (by kernel_rfl) (by kernel_rfl)
  have hAs := @run_callFunc_extern Tryd.prog 66 _ (ReflectliteType.relation "AssignableTo" ReflectliteType.assignableTo) Tryd.func66 (by kernel_rfl) (by kernel_rfl) (by kernel_rfl) (by kernel_rfl)
  have hEl := @run_callFunc_extern Tryd.prog 42 _ (ReflectliteValue.method (ReflectliteValue.valueError "reflectlite.Value.Elem" 0) ReflectliteValue.elem) Tryd.func42 (by kernel_rfl) (by kernel_rfl) (by kernel_rfl) (by kernel_rfl)
  have hSt := @run_callFunc_extern Tryd.prog 43 _ ReflectliteValue.set Tryd.func43 (by kernel_rfl) (by kernel_rfl) (by kernel_rfl) (by kernel_rfl)
  have tO := as_typeOf
  have mA := as_methodAssignableTo
  have aE := as_assignable
  have vE := as_valueOfE
  have f6 := as_valueOf
  have f7 := as_type
  have mK := as_methodKind
  have mE := as_methodElem
  have mI := as_methodImplements
  have kP := as_kindP
  have kE := as_kindE
  have eP := as_elem
  have iE := as_implements
  unfold Handle at hg
  have n8 := as_isNil ⟨w.heap.size, 0, none⟩ t ((w.alloc (.cells #[.pointer (some t)] 68)).alloc (.cells #[.pointer (some ⟨1, 68, none⟩), .pointer (some ⟨w.heap.size, 0, none⟩), .int .u64 150] 72)) (by simp)
  have hlt : 0 < w.heap.size := World.block_lt_of_cell? w _ hg
  have hg2 : ((w.alloc (.cells #[.pointer (some t)] 68)).alloc (.cells #[.pointer (some ⟨1, 68, none⟩), .pointer (some ⟨w.heap.size, 0, none⟩), .int .u64 150] 72)).cell? ⟨0, 0, none⟩ = some (.iface 82 (.agg #[.pointer (some ⟨1, 33, none⟩)])) := by
    rw [World.cell?_alloc_lt _ _ ⟨0, 0, none⟩ (Nat.lt_of_lt_of_le hlt (by simp)), World.cell?_alloc_lt _ _ ⟨0, 0, none⟩ hlt]; exact hg
  have htl : t.block < w.heap.size := World.block_lt_of_cell? w _ ht0
  have el := as_elemV ⟨w.heap.size, 0, none⟩ t (((w.alloc (.cells #[.pointer (some t)] 68)).alloc (.cells #[.pointer (some ⟨1, 68, none⟩), .pointer (some ⟨w.heap.size, 0, none⟩), .int .u64 150] 72)).alloc (.cells #[.pointer (some ⟨1, 68, none⟩), .pointer (some ⟨w.heap.size, 0, none⟩), .int .u64 150] 72)) (by rw [World.cell?_alloc_lt _ _ ⟨w.heap.size, 0, none⟩ (by simp; omega)]; simp)
  have st := as_set t ⟨w.heap.size + 1 + 1 + 1, 0, none⟩ e old ((((w.alloc (.cells #[.pointer (some t)] 68)).alloc (.cells #[.pointer (some ⟨1, 68, none⟩), .pointer (some ⟨w.heap.size, 0, none⟩), .int .u64 150] 72)).alloc (.cells #[.pointer (some ⟨1, 68, none⟩), .pointer (some ⟨w.heap.size, 0, none⟩), .int .u64 150] 72)).alloc (.cells #[.int .i64 e] 57))
    (by rw [World.cell?_alloc_at _ _ _ _ (by simp)]; rfl)
    (by rw [World.cell?_alloc_lt _ _ t (by simp; omega), World.cell?_alloc_lt _ _ t (by simp; omega), World.cell?_alloc_lt _ _ t (by simp; omega), World.cell?_alloc_lt _ _ t htl]; exact ht0)
    (by rw [World.frozen?_alloc_old _ _ t (by simp; omega), World.frozen?_alloc_old _ _ t (by simp; omega), World.frozen?_alloc_old _ _ t (by simp; omega), World.frozen?_alloc_old _ _ t (Nat.ne_of_lt htl)]; exact hf0)
  go_enter Tryd.func36, Tryd.ntmps36
  go_wp2
  refine wp_loop_rounds 1 ?_
  rw [rounds_succ]
  go_wp2
  go_ret
  exact ⟨rfl, rfl⟩
end Go.Proofs.YtmibnceadciidaaDoor

/- The walks of plain.Told and larderwicksame.Error at an error of package api, or none. -/
namespace Go.Proofs.YtmibnceadciidaaDoor
open Go.RowKit Go.Extern.Stop Go.Stop Go.Extern

set_option maxHeartbeats 400000 in
theorem told_nil (w : World) : Calls Tryd.prog 28 #[.nilIface] w fun e w' => e = .returned (.int .i64 0) ∧ w' = w := by
  go_enter Tryd.func28, Tryd.ntmps28
  go_wp2
  go_ret
  exact ⟨rfl, rfl⟩

set_option maxHeartbeats 1000000 in
theorem told_err (n : Int) (w : World) (hg : Handle w) : Calls Tryd.prog 28 #[.iface 57 (.int .i64 n)] w fun e w' => e = .returned (.int .i64 n) ∧ Below w.heap.size w w' := by
  have hb1 : Below w.heap.size w (w.alloc (.cells #[.int .i64 0] 57)) := (Below.refl _ _).alloc (Nat.le_refl _) _
  have HG : Hid (Handle (w.alloc (.cells #[.int .i64 0] 57))) := hg.below hb1
  have HT : Hid ((w.alloc (.cells #[.int .i64 0] 57)).cell? ⟨w.heap.size, 0, none⟩ = some (.int .i64 0)) := by unfold Hid; simp
  have HF : Hid ((w.alloc (.cells #[.int .i64 0] 57)).frozen? ⟨w.heap.size, 0, none⟩ = false) := by unfold Hid; simp
  clear hg
  go_enter Tryd.func28, Tryd.ntmps28
  go_wp2_with (go_at_call 36; go_must (refine (as_hit n ⟨w.heap.size, 0, none⟩ (.int .i64 0) _ HG.out HT.out HF.out).mono ?_; rintro e w' ⟨rfl, rfl⟩))
  go_ret
  refine ⟨rfl, ?_⟩
  have hs : w.heap.size ≤ (w.alloc (.cells #[.int .i64 0] 57)).heap.size := by simp
  first
  | exact ((((hb1.alloc (by simp) _).alloc (by simp; omega) _).alloc (by simp; omega) _).alloc (by simp; omega) _).setCell (Nat.le_refl _) _
  | exact ((((((Below.refl _ _).alloc (Nat.le_refl _) _).alloc (by simp) _).alloc (by simp; omega) _).alloc (by simp; omega) _).alloc (by simp; omega) _)

theorem told_any (n : Nat) (w : World) (hg : Handle w) : Calls Tryd.prog 28 #[errV n] w fun e w' => e = .returned (.int .i64 n) ∧ Below w.heap.size w w' := by
  unfold errV
  split
  · rename_i h
    subst h
    refine (told_nil w).mono ?_
    rintro e w' ⟨rfl, rfl⟩
    exact ⟨rfl, Below.refl _ _⟩
  · exact told_err n w hg

set_option maxHeartbeats 400000 in
theorem error_same (n : Nat) (w : World) (hg : Handle w) : Calls Tryd.prog 12 #[errV n, .int .i64 n] w fun e w' => e = .returned (.bool true) ∧ Below w.heap.size w w' := by
  have HG : Hid (Handle w) := hg
  clear hg
  generalize hv : errV n = v
  have HV : Hid (errV n = v) := hv
  clear hv
  have hnn : ((n : Int) == (n : Int)) = true := by simp
  go_enter Tryd.func12, Tryd.ntmps12
  go_wp2_with (go_at_call 28; go_must (rw [← HV.out]; refine (told_any n _ HG.out).mono ?_; rintro e w1 ⟨rfl, hb⟩))
  go_ret
  exact ⟨rfl, hb⟩
end Go.Proofs.YtmibnceadciidaaDoor

/- A heap that is handed in, and rows of numbers: from the reading to plain words. -/
namespace Go.Proofs.YtmibnceadciidaaDoor
set_option maxRecDepth 100000
open Go.ChangeShapes Go.WideShapes Go.ChangeAt Go.RowKit Go.Sort Go.Deep

theorem plain_addr {w : World} {a : Addr} {u : Value} (h : w.cell? (a.add 0) = some u) : ∃ b off, a = ⟨b, off, none⟩ := by
  obtain ⟨b, off, sp⟩ := a
  have hsp : sp = none := by
    unfold World.cell? at h
    split at h
    · split at h
      · cases h
      · rename_i hq
        simpa [Addr.add] using hq
    · cases h
  subst hsp
  exact ⟨b, off, rfl⟩
/-- A row of numbers by its cells. -/
theorem isInts_of {w : World} {ao : Option Addr} {n cap : Nat} {zs : List Int} (hz : zs.length = cap) (hn : n ≤ cap) (hcap : cap ≤ maxLen) (h0 : ao = none → cap = 0) (hc : ∀ a, ao = some a → ∀ c, c < cap → w.cell? (a.add c) = some (.int .i64 (zs.getD c 0))) : IsInts w (.slice ao n cap) (zs.take n) := by
  have hl : (zs.take n).length = n := by simp; omega
  by_cases h : n = 0
  · subst h
    exact .inl ⟨by simp, _, _, rfl, hcap⟩
  · cases ao with
    | none => have := h0 rfl; omega
    | some a =>
      have hc := hc a rfl
      obtain ⟨b, off, rfl⟩ := plain_addr (hc 0 (by omega))
      refine .inr ⟨b, off, cap, by rw [hl], by omega, by omega, hcap, fun j hj => ?_⟩
      have hj' : j < n := by omega
      have h2 := hc j (by omega)
      rw [add_plain] at h2
      rw [List.getElem?_take_of_lt hj', ← List.getD_eq_getElem?_getD]
      exact h2
theorem came_arg {w : World} {ao : Option Addr} {n cap : Nat} {zs : List Int} (hz : zs.length = cap) (hn : n ≤ cap) (h0 : ao = none → cap = 0) (hc : ∀ a, ao = some a → ∀ c, c < cap → w.cell? (a.add c) = some (.int .i64 (zs.getD c 0))) : Came w (.slice ao n cap) (zs.take n) := by
  have hl : (zs.take n).length = n := by simp; omega
  cases ao with
  | none =>
    have h1 := h0 rfl
    have h2 : n = 0 := by omega
    subst h1; subst h2
    exact .inl ⟨rfl, by simp⟩
  | some a =>
    refine .inr ⟨a, cap, by rw [hl], fun j u hj => ?_⟩
    have hjl : j < n := by have := (List.getElem?_eq_some_iff.1 hj).1; simp at this; omega
    rw [List.getElem?_map, List.getElem?_take_of_lt hjl, List.getElem?_eq_getElem (by omega : j < zs.length)] at hj
    have := hc a rfl j (by omega)
    rw [List.getD_eq_getElem?_getD, List.getElem?_eq_getElem (by omega : j < zs.length)] at this
    rw [this]
    simpa using hj
theorem trod_ints {H : Type} {enc : TypeId × Value → H} {W : World} {n : Nat} {v : Value} {y : DataW H × List MemPlace} (h : DataW.trod enc Tryd.prog W 0 (fun _ => true) true n 25 [v] = some y) : ∃ l, IsInts W v l ∧ Came W v l := by
  rcases open_ints Tryd.underlying25 Tryd.underlying3 (by kernel_rfl) h with ⟨h0, _⟩ | ⟨a, len', cap', zs, h1, _, hlc, hcap, hzl, _, hcell, hw⟩
  · have hv : v = .slice none 0 0 := by simpa using h0
    exact ⟨[], .inl ⟨rfl, none, 0, hv, by simp⟩, .inl ⟨hv, rfl⟩⟩
  · have hv : v = .slice (some a) len' cap' := by simpa using h1
    have hzl' : zs.length = cap' := by simpa using hzl
    subst hv
    have hc : ∀ a', some a = some a' → ∀ c, c < cap' → W.cell? (a'.add c) = some (.int .i64 (zs.getD c 0)) := fun a' e c hc => by cases e; exact hcell c (by omega)
    exact ⟨zs.take len', isInts_of hzl' hlc hcap (fun e => by cases e) hc, came_arg hzl' hlc (fun e => by cases e) hc⟩
theorem trod_rows {H : Type} {enc : TypeId × Value → H} {W : World} {n : Nat} {v : Value} {y : DataW H × List MemPlace} (h : DataW.trod enc Tryd.prog W 0 (fun _ => true) true n 22 [v] = some y) : ∃ L, IsRows W v L := by
  rcases open_int_rows Tryd.underlying22 Tryd.underlying25 Tryd.underlying3 (by kernel_rfl) (by kernel_rfl) h with ⟨h0, _⟩ | ⟨a, len, cap, A, L, C, Z, h1, _, hlc, hcap, _, hr⟩
  · have hv : v = .slice none 0 0 := by simpa using h0
    exact ⟨[], none, 0, hv, by simp, fun k hk => by simp at hk⟩
  · have hv : v = .slice (some a) len cap := by simpa using h1
    subst hv
    have hl : ((List.range len).map fun r => (Z r).take (L r)).length = len := by simp
    refine ⟨(List.range len).map fun r => (Z r).take (L r), some a, cap, by rw [hl], hcap, fun k hk => ?_⟩
    rw [hl] at hk ⊢
    obtain ⟨e1, r1, r2, r3, _, r5, r6⟩ := hr k (by omega)
    obtain ⟨b, off, rfl⟩ := plain_addr (hr 0 (by omega)).1
    have hcl := e1
    rw [add_plain] at hcl
    refine ⟨b, off, rfl, hlc, World.block_lt_of_cell? W _ hcl, _, hcl, ?_⟩
    have e : rowAt ((List.range len).map fun r => (Z r).take (L r)) k = (Z k).take (L k) := by
      unfold rowAt
      rw [List.getElem?_map, List.getElem?_range hk]; rfl
    rw [e]
    exact isInts_of r3 r1 r2 r5 fun a' ha' => (r6 a' ha').2
/-- The roots as they came in. -/
def CameH (w : World) (v : Value) (R : List Int) : Prop := ∃ vo vr, v = .agg #[vo, vr] ∧ Came w vr R
theorem arg_heap {H : Type} {enc : TypeId × Value → H} {W : World} {base : Nat} {v : Value} {d : DataW H} {ps : List MemPlace}
    (hok : Value.okWide Tryd.prog W .any base 45 v) (h : DataW.Trod enc Tryd.prog W 0 (fun _ => true) true 45 v d ps) : ∃ L R, IsHeap W v L R ∧ CameH W v R := by
  obtain ⟨vo, vr, y0, y1, n, rfl, _, _, t0, t1⟩ := Go.Joins.open_agg2 Tryd.underlying45 (by kernel_rfl) (by kernel_rfl) hok h
  obtain ⟨L, hL⟩ := trod_rows t0
  obtain ⟨R, hR, hC⟩ := trod_ints t1
  exact ⟨L, R, ⟨vo, vr, rfl, hL, hR⟩, ⟨vo, vr, rfl, hC⟩⟩
theorem arg_rows {H : Type} {enc : TypeId × Value → H} {W : World} {base : Nat} {v : Value} {d : DataW H} {ps : List MemPlace}
    (hok : Value.okWide Tryd.prog W .any base 22 v) (h : DataW.Trod enc Tryd.prog W 0 (fun _ => true) true 22 v d ps) : ∃ L, IsRows W v L := by
  obtain ⟨a0, len, cap, rfl⟩ := okWide_slice Tryd.underlying22 hok
  obtain ⟨fuel, hf⟩ := h
  exact trod_rows (v := .slice a0 len cap) (by simpa [Value.cells] using hf)
end Go.Proofs.YtmibnceadciidaaDoor

/- Steps that are done in a heap that counts: lists, and the cells that hold them. -/
namespace Go.Proofs.YtmibnceadciidaaDoor
set_option maxRecDepth 100000
open Go.RowKit Go.Sort

theorem doK_j {c : KS} {kind i j j' : Int} (h : kind = 0 ∨ kind = 1 ∨ kind = 2) : c.doK kind i j = c.doK kind i j' := by
  unfold KS.doK
  rcases h with h | h | h <;> subst h <;> simp
theorem step_skip {c : KS} {l : List Int} (h : l.length ≠ 3) : stepK c l = c := by
  unfold stepK
  rw [if_neg (fun e => h e.1)]
theorem step_do {c : KS} {l : List Int} (h : l.length = 3) {k : Int} (hk : at3 l 0 = k) (h0 : 0 ≤ k) (h4 : k ≤ 4) : stepK c l = (c.doK k (at3 l 1) (at3 l 2)).1 := by
  unfold stepK
  rw [if_pos ⟨h, by omega, by omega⟩, hk]
theorem step_other {c : KS} {l : List Int} (h : ¬ (0 ≤ at3 l 0 ∧ at3 l 0 ≤ 4)) : stepK c l = c := by
  unfold stepK
  rw [if_neg (fun e => h e.2)]
/-- Three cells. -/
theorem three_at {w : World} {au : Option Addr} {n cu : Nat} {l : List Int} (h : IsInts w (.slice au n cu) l) (hl : l.length = 3) : ∃ b off, au = some ⟨b, off, none⟩ ∧ w.cell? ⟨b, off, none⟩ = some (.int .i64 (at3 l 0)) ∧ w.cell? ⟨b, off + 1, none⟩ = some (.int .i64 (at3 l 1)) ∧ w.cell? ⟨b, off + 2, none⟩ = some (.int .i64 (at3 l 2)) := by
  obtain ⟨b, off, e, _, _, hc⟩ := h.open_at (k := 0) (by omega)
  exact ⟨b, off, e, hc 0 (by omega), hc 1 (by omega), hc 2 (by omega)⟩
end Go.Proofs.YtmibnceadciidaaDoor

/- What is kept within a region that draws and lays memory: plain lemmas on worlds. -/
namespace Go.Proofs.YtmibnceadciidaaDoor
open Go.RowKit Go.Sort

theorem kept_drew {w0 W : World} {B : Nat} (h : Hid (Below B w0 W)) : Hid (Below B w0 W.drew) := h.out.drew
theorem kept_start (w0 : World) : Hid (Below w0.heap.size w0 w0) := Below.refl _ _
theorem kept_cell {w0 W : World} {b j : Nat} {u : Value} (h0 : w0.cell? ⟨b, j, none⟩ = some u) (h : Hid (Below w0.heap.size w0 W)) : W.cell? ⟨b, j, none⟩ = some u :=
  (h.out.cell (p := ⟨b, j, none⟩) (World.block_lt_of_cell? w0 _ h0)).trans h0
end Go.Proofs.YtmibnceadciidaaDoor

/- Do beside a heap that counts, in whatever later world. -/
namespace Go.Proofs.YtmibnceadciidaaDoor
set_option maxRecDepth 100000
open Go.RowKit Go.Sort

theorem kept_alloc {w0 W : World} (h : Hid (Below w0.heap.size w0 W)) (o : Go.Obj) : Hid (Below w0.heap.size w0 (W.alloc o)) := h.out.alloc h.out.size o
theorem kept_set {w0 W : World} {g j : Nat} {u : Value} (h : Hid (Below w0.heap.size w0 W)) (hg : w0.heap.size ≤ g) : Hid (Below w0.heap.size w0 (W.setCell ⟨g, j, none⟩ u)) := h.out.setCell hg _
theorem kept_set3 {w0 W : World} {g : Nat} {u v x : Value} (h : Hid (Below w0.heap.size w0 W)) (hg : w0.heap.size ≤ g) : Hid (Below w0.heap.size w0 (((W.setCell ⟨g, 0, none⟩ u).setCell ⟨g, 1, none⟩ v).setCell ⟨g, 2, none⟩ x)) := ((h.out.setCell hg _).setCell hg _).setCell hg _
theorem OwnK.later' {S : Nat → Prop} {w0 W : World} {B : Nat} {vo vr vh : Value} {c : KS} (h : OwnK S w0 B vo vr vh c) (hW : Hid (Below w0.heap.size w0 W)) : OwnK S W B vo vr vh c := h.later hW.out
theorem lt_since {S : Nat → Prop} {w0 wr W : World} {a g : Nat} {vo vr vh : Value} {c d : KS} (h : PEnv S w0 wr a g vo vr vh c d) (hW : Hid (Below wr.heap.size wr W)) : ∀ k, S k → k < W.heap.size := (h.later hW.out).lt
/-- What Do answers, opened. -/
theorem do_since {S : Nat → Prop} {wr W : World} {vo vr vh : Value} {d : KS} {kind i j : Int} (hk : Calls Tryd.prog 6 #[.agg #[vo, vr, vh], .int .i64 kind, .int .i64 i, .int .i64 j] W (DoIs S W 0 d kind i j)) (hW : Hid (Below wr.heap.size wr W)) :
    Calls Tryd.prog 6 #[.agg #[vo, vr, vh], .int .i64 kind, .int .i64 i, .int .i64 j] W fun e w' => ∃ a0 c0 a1 c1 a2 c2, e = .returned (.tuple #[.agg #[.slice a0 (d.doK kind i j).1.outs.length c0, .slice a1 (d.doK kind i j).1.roots.length c1, .slice a2 (d.doK kind i j).1.here.length c2], .int .i64 (((d.doK kind i j).2.1 : Nat) : Int), .int .i64 (((d.doK kind i j).2.2 : Nat) : Int)]) ∧ Hid (OwnK S w' 0 (.slice a0 (d.doK kind i j).1.outs.length c0) (.slice a1 (d.doK kind i j).1.roots.length c1) (.slice a2 (d.doK kind i j).1.here.length c2) (d.doK kind i j).1) ∧ Hid (Below wr.heap.size wr w') ∧ Hid (Below W.heap.size W w') := by
  refine hk.mono ?_
  rintro e w' ⟨v0, v1, v2, rfl, h1, h2⟩
  obtain ⟨a0, c0, a1, c1, a2, c2, rfl, rfl, rfl, _, _, _⟩ := h1.isK.forms
  exact ⟨_, _, _, _, _, _, rfl, h1, hW.out.trans (h2.mono hW.out.size), h2⟩
end Go.Proofs.YtmibnceadciidaaDoor
