/- QuietLast inside a fence: a region that draws its order, of which all operations but the last one leave one value and a world of the class, and the last one waits for all of them. No word of any program is in this text. -/
import Derived.Test.YtnjfmlojbaigjabQuietLast
import Derived.Sort.QuietLawsIn
namespace Go.Proofs.Ytnjfmlojbaigjab

section
variable {F : Fence} {m : Nat} {P : Program} {ops : Array Oper} {md : Region.Mode} {C : World → Prop}

theorem wpAnyIn_done' {Q : Exit → Act → World → Prop} {listed : Array Bool} {a : Act} {w : World} (hr : Region.ready md ops listed = []) (h : Q .normal a w) : ∀ f, wpAnyIn F m P md ops Q f listed a w
  | 0 => ⟨hr, h⟩
  | _ + 1 => ⟨fun _ => h, by rw [hr]; simp⟩
theorem wpAnyIn_of_quiet_last {n : Nat} {Qn : Act → Prop} {Q : Exit → Act → World → Prop} (hro : F.round = none) (hb : backB md ops = true) (hn : ops.size = n + 1) (hs : Region.sinkB md ops n = true) (hc : Region.chainB md ops n = true)
    (hQ : ∀ a w, C w → Qn a → wpOpIn F m P ops Q n (fun a' w' => Q .normal a' w') a w) : ∀ (f : Nat) (listed : Array Bool) (a : Act) (w : World), HeadInv md ops n listed → C w →
    wpAnyQIn F m P md ops C Qn f (listed.setIfInBounds n true) a → wpAnyIn F m P md ops Q (f + 1) listed a w := by
  intro f
  induction f with
  | zero =>
    intro listed a w inv hC h
    have hall : ∀ i, i < n → listed.getD i true = true := all_done hb hn inv fun i hi => by
      by_cases e : i = n
      · exact e
      · have := ready_mono hi e
        rw [h.1] at this
        cases this
    refine ⟨fun h0 => (by have := last_comes hb hn inv hall; rw [h0] at this; cases this), fun i hi => ?_⟩
    have hin : i = n := by
      by_cases e : i = n
      · exact e
      · have := ready_mono hi e
        rw [h.1] at this
        cases this
    subst hin
    exact wpOpIn_mono (fun a' w' h' => wpAnyIn_done' (none_left hn inv hall) h' 0) (hQ a w hC h.2)
  | succ f ih =>
    intro listed a w inv hC h
    refine ⟨fun h0 => ?_, fun i hi => ?_⟩
    · have hall := all_done hb hn inv fun i hi => (by rw [h0] at hi; cases hi)
      have := last_comes hb hn inv hall
      rw [h0] at this
      cases this
    · by_cases e : i = n
      · subst e
        have hall : ∀ j, j < i → listed.getD j true = true := fun j hj => by
          cases hl : listed.getD j true with
          | true => rfl
          | false => exact absurd hi (tail_waits hs hc (by omega) inv _ j rfl hj hl i (Nat.le_refl _))
        exact wpOpIn_mono (fun a' w' h' => wpAnyIn_done' (none_left hn inv hall) h' _) (hQ a w hC (h.1 (none_left hn inv hall)))
      · have hlt : i < n := by
          obtain ⟨_, o, ho, _⟩ := mem_ready.1 hi
          have := (Array.getElem?_eq_some_iff.1 ho).1
          omega
        refine wpOpIn_of_qOpIn hro hC (fun a' w' hC' h' => ih (listed.setIfInBounds i true) a' w' (inv.set hi hlt) hC' ?_) (h.2 i (ready_mono hi e))
        rw [Array.setIfInBounds_comm _ _ e]
        exact h'
theorem wpAnyQIn_text {Q : Act → Prop} (hs : Region.noSelect ops = true) : ∀ (l : List Oper) (k : Nat) (listed : Array Bool) (a : Act), (∀ j, j < l.length → l[j]? = ops[k + j]?) →
    Region.lexFrom md ops l.length k listed = true → wpQuietIn F m P ops C Q l a → wpAnyQIn F m P md ops C Q l.length listed a := by
  intro l
  induction l with
  | nil => intro k listed a _ hB h; exact ⟨by simpa [Region.lexFrom] using hB, h⟩
  | cons o l ih =>
    intro k listed a hl hB h
    have h0 : ops[k]? = some o := by have := hl 0 (by simp); simpa using this.symm
    rw [List.length_cons, Region.lexFrom, Bool.and_eq_true, Bool.and_eq_true] at hB
    have hq : qOpIn F m P ops C k (wpQuietIn F m P ops C Q l) a := by unfold qOpIn; rw [h0]; exact h
    obtain ⟨v, hy, hK⟩ := yieldsQuiet_of_qOpIn h0 hq
    refine wpAnyQIn_first h0 (Region.noSelect_spec hs) l.length listed a (Region.free_spec h0 hB.1.2) (by simpa using hB.1.1) hy ?_
    refine ih (k + 1) _ _ (fun j hj => ?_) hB.2 hK
    have := hl (j + 1) (by simp; omega)
    rw [show k + 1 + j = k + (j + 1) by omega, ← this]; rfl
/-- The law. n: the last one's number. -/
theorem wpIn_region_quiet_last_in {id n : Nat} {Q : Exit → Act → World → Prop} {a : Act} {w : World} {l : List Oper} (hro : F.round = none) (hm : P.follows .mixedOrders = true) (hB : lastB l n = true) (hC : C { w with drawn := w.drawn + 1 })
    (h : wpQuietIn F m P l.toArray C (fun a' => ∀ w', C w' → wpListIn F m P l.toArray Q (l.drop n) a' w') (l.take n) a) : (Code.region id l.toArray true).wpIn F m P Q a w := by
  unfold lastB at hB
  simp only [Bool.and_eq_true, decide_eq_true_eq] at hB
  obtain ⟨⟨⟨⟨⟨hl, hsel⟩, hb⟩, hs⟩, hc⟩, hlex⟩ := hB
  have hsz : l.toArray.size = n + 1 := by simpa using hl
  have htl : (l.take n).length = n := by rw [List.length_take]; omega
  have hn : n < l.length := by omega
  have hon : l.toArray[n]? = some l[n] := by simp [hn]
  have hdr : l.drop n = [l[n]] := by rw [List.drop_eq_getElem_cons hn, List.drop_eq_nil_of_le (by omega)]
  have inv0 : HeadInv .any l.toArray n (Array.replicate l.toArray.size false) :=
    ⟨by simp, fun j oj _ hl => (by rw [getD_replicate_false] at hl; cases hl), fun t _ ht => getD_in (by simpa using ht) (getD_replicate_false _ _)⟩
  refine wpIn_region_any hm ?_
  rw [hsz]
  rw [hsz] at inv0
  refine wpAnyIn_of_quiet_last (C := C) (Qn := fun a' => ∀ w', C w' → wpListIn F m P l.toArray Q (l.drop n) a' w') hro hb hsz hs hc (fun a' w' hC' hq => ?_) n _ a _ inv0 hC ?_
  · have h1 := hq w' hC'
    rw [hdr] at h1
    unfold wpOpIn
    rw [hon]
    exact h1
  · have := wpAnyQIn_text (md := .any) (Q := fun a' => ∀ w', C w' → wpListIn F m P l.toArray Q (l.drop n) a' w') hsel (l.take n) 0 ((Array.replicate (n + 1) false).setIfInBounds n true) a (fun j hj => by
      rw [htl] at hj
      simp [hj]) (by rw [htl]; exact hlex) h
    rwa [htl] at this
/-- One operation: one value in every world of the class, the world as it was. -/
theorem quietIn_run {o : Oper} {a : Act} {K : Act → Prop} (v : Value) (h : ∀ w, C w → (execOp a.eval o).run P w = .ok (.value v) w) (hk : K (a.put o.dst v)) : o.quietIn F m P a C K :=
  ⟨v, fun w hw => by unfold Oper.quietAtIn; rw [h w hw]; exact ⟨rfl, rfl⟩, hk⟩
/-- A call: one value, and a world of the class. -/
theorem quietIn_enter {o : Oper} {a : Act} {K : Act → Prop} (v : Value) (f : FuncId) (args : Array Value) (hd : F.depth.isSome = true → 1 ≤ m) (h : ∀ w, C w → (execOp a.eval o).run P w = .ok (.enter f args) w)
    (hc : ∀ w, C w → CallsIn F (m - 1) P f args w fun e w'' => e = .returned v ∧ C w'') (hk : K (a.put o.dst v)) : o.quietIn F m P a C K :=
  ⟨v, fun w hw => by unfold Oper.quietAtIn; rw [h w hw]; exact ⟨rfl, hd, hc w hw⟩, hk⟩
end
end Go.Proofs.Ytnjfmlojbaigjab
