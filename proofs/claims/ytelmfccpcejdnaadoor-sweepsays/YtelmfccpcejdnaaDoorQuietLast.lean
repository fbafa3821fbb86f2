/- A region that draws its order, of which all operations but the last one only read, and the last one waits for all of them: walked once, in the order of the text; the last one comes in whatever world of the class. No word of any program is in this text. -/
import Derived.Test.YtelmfccpcejdnaaDoorBase
import Derived.StillTail
import Derived.BigQuiet
namespace Go.Proofs.YtelmfccpcejdnaaDoor

section
variable {P : Program} {ops : Array Oper} {md : Region.Mode} {C : World → Prop}

/-- Each waits for earlier ones alone. -/
def backB (md : Region.Mode) (ops : Array Oper) : Bool := (List.range ops.size).all fun i => match ops[i]? with
  | some o => o.after.all fun e => !Region.binds md e || decide (e.on < i)
  | none => true
theorem backB_spec (h : backB md ops = true) {i : Nat} {o : Oper} (ho : ops[i]? = some o) : ∀ e ∈ o.after, Region.binds md e = true → e.on < i := by
  intro e he hb
  have h1 := List.all_eq_true.1 h i (List.mem_range.2 (Array.getElem?_eq_some_iff.1 ho).1)
  rw [ho] at h1
  have h2 := Array.all_eq_true_iff_forall_mem.1 h1 e he
  rw [hb] at h2
  simpa using h2
/-- All ahead of n are done where nothing but n is left to come up. -/
theorem all_done {n : Nat} {listed : Array Bool} (hb : backB md ops = true) (hn : ops.size = n + 1) (inv : HeadInv md ops n listed) (h : ∀ i, i ∈ Region.ready md ops listed → i = n) : ∀ i, i < n → listed.getD i true = true := by
  intro i
  induction i using Nat.strongRecOn with
  | _ i ih =>
    intro hi
    cases hl : listed.getD i true with
    | true => rfl
    | false =>
      exfalso
      have hlt : i < ops.size := by omega
      have ho : ops[i]? = some ops[i] := Array.getElem?_eq_getElem hlt
      have hr : i ∈ Region.ready md ops listed := mem_ready.2 ⟨hl, _, ho, fun e he hbd => by
        have h1 := backB_spec hb ho e he hbd
        have h2 := ih e.on h1 (by omega)
        have hs : e.on < listed.size := by rw [inv.size]; omega
        simpa [hs] using h2⟩
      have := h i hr
      omega
theorem last_comes {n : Nat} {listed : Array Bool} (hb : backB md ops = true) (hn : ops.size = n + 1) (inv : HeadInv md ops n listed) (h : ∀ i, i < n → listed.getD i true = true) : n ∈ Region.ready md ops listed := by
  have hlt : n < ops.size := by omega
  have ho : ops[n]? = some ops[n] := Array.getElem?_eq_getElem hlt
  refine mem_ready.2 ⟨inv.tail n (Nat.le_refl _) hlt, _, ho, fun e he hbd => ?_⟩
  have h1 := backB_spec hb ho e he hbd
  have h2 := h e.on h1
  have hs : e.on < listed.size := by rw [inv.size]; omega
  simpa [hs] using h2
theorem none_left {n : Nat} {listed : Array Bool} (hn : ops.size = n + 1) (inv : HeadInv md ops n listed) (h : ∀ i, i < n → listed.getD i true = true) : Region.ready md ops (listed.setIfInBounds n true) = [] := by
  refine List.eq_nil_iff_forall_not_mem.2 fun j hj => ?_
  obtain ⟨hu, o, ho, _⟩ := mem_ready.1 hj
  have hlt : j < ops.size := (Array.getElem?_eq_some_iff.1 ho).1
  by_cases e : j = n
  · subst e
    have hs : j < listed.size := by rw [inv.size]; exact hlt
    rw [Array.getD_eq_getD_getElem?, Array.getElem?_setIfInBounds_self_of_lt hs] at hu
    simp at hu
  · rw [getD_set_ne true (Ne.symm e), h j (by omega)] at hu
    cases hu
theorem wpAny_done {Q : Exit → Act → World → Prop} {listed : Array Bool} {a : Act} {w : World} (hr : Region.ready md ops listed = []) (h : Q .normal a w) : ∀ f, wpAny P md ops Q f listed a w
  | 0 => ⟨hr, h⟩
  | _ + 1 => ⟨fun _ => h, by rw [hr]; simp⟩
theorem wpAny_of_quiet_last {n : Nat} {Qn : Act → Prop} {Q : Exit → Act → World → Prop} (hb : backB md ops = true) (hn : ops.size = n + 1) (hs : Region.sinkB md ops n = true) (hc : Region.chainB md ops n = true)
    (hQ : ∀ a w, C w → Qn a → wpOp P ops Q n (fun a' w' => Q .normal a' w') a w) : ∀ (f : Nat) (listed : Array Bool) (a : Act) (w : World), HeadInv md ops n listed → C w →
    wpAnyQ P md ops C Qn f (listed.setIfInBounds n true) a → wpAny P md ops Q (f + 1) listed a w := by
  intro f
  induction f with
  | zero =>
    intro listed a w inv hC h
    have hall : ∀ i, i < n → listed.getD i true = true := all_done hb hn inv fun i hi => by
      by_cases e : i = n
      · exact e
      · have := ready_mono hi e
        rw [h.1] at this
        cases this
    refine ⟨fun h0 => (by have := last_comes hb hn inv hall; rw [h0] at this; cases this), fun i hi => ?_⟩
    have hin : i = n := by
      by_cases e : i = n
      · exact e
      · have := ready_mono hi e
        rw [h.1] at this
        cases this
    subst hin
    exact wpOp_mono (fun a' w' h' => wpAny_done (none_left hn inv hall) h' 0) (hQ a w hC h.2)
  | succ f ih =>
    intro listed a w inv hC h
    refine ⟨fun h0 => ?_, fun i hi => ?_⟩
    · have hall := all_done hb hn inv fun i hi => (by rw [h0] at hi; cases hi)
      have := last_comes hb hn inv hall
      rw [h0] at this
      cases this
    · by_cases e : i = n
      · subst e
        have hall : ∀ j, j < i → listed.getD j true = true := fun j hj => by
          cases hl : listed.getD j true with
          | true => rfl
          | false => exact absurd hi (tail_waits hs hc (by omega) inv _ j rfl hj hl i (Nat.le_refl _))
        exact wpOp_mono (fun a' w' h' => wpAny_done (none_left hn inv hall) h' _) (hQ a w hC (h.1 (none_left hn inv hall)))
      · have hlt : i < n := by
          obtain ⟨_, o, ho, _⟩ := mem_ready.1 hi
          have := (Array.getElem?_eq_some_iff.1 ho).1
          omega
        refine wpOp_of_qOp hC (fun a' w' hC' h' => ih (listed.setIfInBounds i true) a' w' (inv.set hi hlt) hC' ?_) (h.2 i (ready_mono hi e))
        rw [Array.setIfInBounds_comm _ _ e]
        exact h'
theorem wpAnyQ_text {Q : Act → Prop} (hs : Region.noSelect ops = true) : ∀ (l : List Oper) (k : Nat) (listed : Array Bool) (a : Act), (∀ j, j < l.length → l[j]? = ops[k + j]?) →
    Region.lexFrom md ops l.length k listed = true → wpQuiet P ops C Q l a → wpAnyQ P md ops C Q l.length listed a := by
  intro l
  induction l with
  | nil => intro k listed a _ hB h; exact ⟨by simpa [Region.lexFrom] using hB, h⟩
  | cons o l ih =>
    intro k listed a hl hB h
    have h0 : ops[k]? = some o := by have := hl 0 (by simp); simpa using this.symm
    rw [List.length_cons, Region.lexFrom, Bool.and_eq_true, Bool.and_eq_true] at hB
    have hq : qOp P ops C k (wpQuiet P ops C Q l) a := by unfold qOp; rw [h0]; exact h
    obtain ⟨v, hy, hK⟩ := yieldsIn_of_qOp h0 hq
    refine wpAnyQ_first h0 (Region.noSelect_spec hs) l.length listed a (Region.free_spec h0 hB.1.2) (by simpa using hB.1.1) hy ?_
    refine ih (k + 1) _ _ (fun j hj => ?_) hB.2 hK
    have := hl (j + 1) (by simp; omega)
    rw [show k + 1 + j = k + (j + 1) by omega, ← this]; rfl
def lastB (l : List Oper) (n : Nat) : Bool := decide (l.length = n + 1) && Region.noSelect l.toArray && backB .any l.toArray && Region.sinkB .any l.toArray n && Region.chainB .any l.toArray n && Region.lexFrom .any l.toArray n 0 ((Array.replicate (n + 1) false).setIfInBounds n true)
/-- The law. n: the last one's number. -/
theorem wp_region_quiet_last_in {id n : Nat} {Q : Exit → Act → World → Prop} {a : Act} {w : World} {l : List Oper} (hm : P.follows .mixedOrders = true) (hB : lastB l n = true) (hC : C { w with drawn := w.drawn + 1 })
    (h : wpQuiet P l.toArray C (fun a' => ∀ w', C w' → wpList P l.toArray Q (l.drop n) a' w') (l.take n) a) : (Code.region id l.toArray true).wp P Q a w := by
  unfold lastB at hB
  simp only [Bool.and_eq_true, decide_eq_true_eq] at hB
  obtain ⟨⟨⟨⟨⟨hl, hsel⟩, hb⟩, hs⟩, hc⟩, hlex⟩ := hB
  have hsz : l.toArray.size = n + 1 := by simpa using hl
  have htl : (l.take n).length = n := by rw [List.length_take]; omega
  have hn : n < l.length := by omega
  have hon : l.toArray[n]? = some l[n] := by simp [hn]
  have hdr : l.drop n = [l[n]] := by rw [List.drop_eq_getElem_cons hn, List.drop_eq_nil_of_le (by omega)]
  have inv0 : HeadInv .any l.toArray n (Array.replicate l.toArray.size false) :=
    ⟨by simp, fun j oj _ hl => (by rw [getD_replicate_false] at hl; cases hl), fun t _ ht => getD_in (by simpa using ht) (getD_replicate_false _ _)⟩
  refine wp_region_any hm ?_
  rw [hsz]
  rw [hsz] at inv0
  refine wpAny_of_quiet_last (C := C) (Qn := fun a' => ∀ w', C w' → wpList P l.toArray Q (l.drop n) a' w') hb hsz hs hc (fun a' w' hC' hq => ?_) n _ a _ inv0 hC ?_
  · have h1 := hq w' hC'
    rw [hdr] at h1
    unfold wpOp
    rw [hon]
    exact h1
  · have := wpAnyQ_text (md := .any) (Q := fun a' => ∀ w', C w' → wpList P l.toArray Q (l.drop n) a' w') hsel (l.take n) 0 ((Array.replicate (n + 1) false).setIfInBounds n true) a (fun j hj => by
      rw [htl] at hj
      simp [hj]) (by rw [htl]; exact hlex) h
    rwa [htl] at this
/-- At the class 'some draws later'. -/
theorem wp_region_quiet_last {id : Nat} (n : Nat) {Q : Exit → Act → World → Prop} {a : Act} {w : World} {l : List Oper} (hm : P.follows .mixedOrders = true) (hB : lastB l n = true)
    (h : wpQuiet P l.toArray (fun w' => ∃ m, w' = w.drewN m) (fun a' => ∀ w', (∃ m, w' = w.drewN m) → wpList P l.toArray Q (l.drop n) a' w') (l.take n) a) : (Code.region id l.toArray true).wp P Q a w :=
  wp_region_quiet_last_in (C := fun w' => ∃ m, w' = w.drewN m) hm hB ⟨1, rfl⟩ h
end
end Go.Proofs.YtelmfccpcejdnaaDoor
