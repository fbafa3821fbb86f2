/- Lists alone, for chapter 18: pointers that are turned on the way down, and back on the way up. -/
import Derived.Test.YtelmfccpcejdnaaDeepG
import Derived.Test.YtelmfccpcejdnaaHeapK
namespace Go.Proofs.Ytelmfccpcejdnaa

/-- The pointers of a node. -/
def outsOf (L : List (List Int)) (a : Nat) : List Int := L[a]?.getD []
theorem outsOf_at {L : List (List Int)} {a : Nat} (h : a < L.length) : L[a]? = some (outsOf L a) := by unfold outsOf; rw [List.getElem?_eq_getElem h]; rfl
theorem outsOf_lt {L : List (List Int)} {a k : Nat} (h : k < (outsOf L a).length) : a < L.length := by
  refine Decidable.byContradiction fun hn => ?_
  unfold outsOf at h
  rw [List.getElem?_eq_none (by omega)] at h
  simp at h
/-- The node above, or none. -/
def topI : List Nat → Int
  | [] => -1
  | a :: _ => (a : Int)
def put2 (X : List (List Int)) (a k : Nat) (v : Int) : List (List Int) := X.set a ((outsOf X a).set k v)
theorem put2_length (X : List (List Int)) (a k : Nat) (v : Int) : (put2 X a k v).length = X.length := by simp [put2]
theorem put2_other {X : List (List Int)} {a b k : Nat} {v : Int} (h : a ≠ b) : outsOf (put2 X a k v) b = outsOf X b := by
  unfold put2 outsOf
  rw [List.getElem?_set_ne h]
theorem put2_same {X : List (List Int)} {a k : Nat} {v : Int} (h : a < X.length) : outsOf (put2 X a k v) a = (outsOf X a).set k v := by
  unfold put2
  rw [outsOf, List.getElem?_set_self h]; rfl
theorem put2_rowlen (X : List (List Int)) (a b k : Nat) (v : Int) : (outsOf (put2 X a k v) b).length = (outsOf X b).length := by
  by_cases h : a = b
  · subst h
    by_cases hl : a < X.length
    · rw [put2_same hl, List.length_set]
    · unfold put2; rw [List.set_eq_of_length_le (by omega)]
  · rw [put2_other h]
theorem put2_back {X : List (List Int)} {a k : Nat} {v x : Int} (h : (outsOf X a)[k]? = some x) : put2 (put2 X a k v) a k x = X := by
  have ha : a < X.length := outsOf_lt (List.getElem?_eq_some_iff.1 h).1
  rw [put2, put2_same ha, put2, List.set_set, List.set_set]
  have e : (outsOf X a).set k x = outsOf X a := by
    refine List.ext_getElem? fun i => ?_
    by_cases hi : k = i
    · subst hi; rw [List.getElem?_set_self (List.getElem?_eq_some_iff.1 h).1, h]
    · rw [List.getElem?_set_ne hi]
  rw [e]
  refine List.ext_getElem? fun i => ?_
  by_cases hi : a = i
  · subst hi; rw [List.getElem?_set_self ha, outsOf_at ha]
  · rw [List.getElem?_set_ne hi]

/-- The pointers while one is below: each of those above holds the one above it. -/
def turnR (L : List (List Int)) (p : Nat → Nat) : List Nat → List (List Int)
  | [] => L
  | a :: S => put2 (turnR L p S) a (p a) (topI S)
/-- Each of those above pointed to the one below. -/
def Way (L : List (List Int)) (p : Nat → Nat) : Nat → List Nat → Prop
  | _, [] => True
  | x, a :: S => (outsOf L a)[p a]? = some (x : Int) ∧ Way L p a S
/-- What those above have still to point to. -/
def todoR (L : List (List Int)) (p : Nat → Nat) : List Nat → List Int
  | [] => []
  | a :: S => (outsOf L a).drop (p a + 1) ++ todoR L p S
theorem turnR_length (L : List (List Int)) (p : Nat → Nat) : ∀ S, (turnR L p S).length = L.length
  | [] => rfl
  | a :: S => by rw [turnR, put2_length, turnR_length L p S]
theorem turnR_out {L : List (List Int)} {p : Nat → Nat} : ∀ {S : List Nat} {a : Nat}, a ∉ S → outsOf (turnR L p S) a = outsOf L a
  | [], _, _ => rfl
  | b :: S, a, h => by
    rw [turnR, put2_other (fun e => h (by simp [e]))]
    exact turnR_out fun h2 => h (by simp [h2])
theorem turnR_rowlen (L : List (List Int)) (p : Nat → Nat) (a : Nat) : ∀ S, (outsOf (turnR L p S) a).length = (outsOf L a).length
  | [] => rfl
  | b :: S => by rw [turnR, put2_rowlen, turnR_rowlen L p a S]
theorem turnR_top {L : List (List Int)} {p : Nat → Nat} {S : List Nat} {a : Nat} (h : p a < (outsOf L a).length) : (outsOf (turnR L p (a :: S)) a)[p a]? = some (topI S) := by
  have ha := outsOf_lt h
  rw [turnR, put2_same (by rw [turnR_length]; exact ha), List.getElem?_set_self (by rw [turnR_rowlen]; exact h)]
theorem turnR_back {L : List (List Int)} {p : Nat → Nat} {S : List Nat} {a : Nat} {x : Int} (ha : a ∉ S) (h : (outsOf L a)[p a]? = some x) : put2 (turnR L p (a :: S)) a (p a) x = turnR L p S := by
  rw [turnR]
  exact put2_back (by rw [turnR_out ha]; exact h)
theorem turnR_congr {L : List (List Int)} {p q : Nat → Nat} : ∀ {S : List Nat}, (∀ a, a ∈ S → p a = q a) → turnR L p S = turnR L q S
  | [], _ => rfl
  | a :: S, h => by rw [turnR, turnR, turnR_congr (S := S) fun b hb => h b (by simp [hb]), h a (by simp)]
theorem todoR_congr {L : List (List Int)} {p q : Nat → Nat} : ∀ {S : List Nat}, (∀ a, a ∈ S → p a = q a) → todoR L p S = todoR L q S
  | [], _ => rfl
  | a :: S, h => by rw [todoR, todoR, todoR_congr (S := S) fun b hb => h b (by simp [hb]), h a (by simp)]
theorem way_congr {L : List (List Int)} {p q : Nat → Nat} : ∀ {S : List Nat} {x : Nat}, (∀ a, a ∈ S → p a = q a) → Way L p x S → Way L q x S
  | [], _, _, _ => trivial
  | a :: S, x, h, hw => by
    rw [Way] at hw ⊢
    rw [← h a (by simp)]
    exact ⟨hw.1, way_congr (fun b hb => h b (by simp [hb])) hw.2⟩

def pAt (P : List Nat) (a : Nat) : Nat := P[a]?.getD 0
theorem pAt_set {P : List Nat} {a b v : Nat} (h : a < P.length) : pAt (P.set a v) b = if a = b then v else pAt P b := by
  unfold pAt
  split
  · rename_i e; subst e; rw [List.getElem?_set_self h]; rfl
  · rename_i e; rw [List.getElem?_set_ne e]
theorem pAt_zeros (n a : Nat) : pAt (List.replicate n 0) a = 0 := by
  unfold pAt
  rw [List.getElem?_replicate]
  split <;> rfl
/-- On the way: at a node, those above it, the nearest first; C is what is marked at the end. -/
structure Mid (L : List (List Int)) (C A : List Int) (P : List Nat) (x : Nat) (S : List Nat) : Prop where
  len : P.length = L.length
  node : x < L.length
  nodup : (x :: S).Nodup
  inA : ∀ a, a ∈ x :: S → (a : Int) ∈ A
  zero : ∀ a : Nat, (a : Int) ∉ A → pAt P a = 0
  way : Way L (pAt P) x S
  rest : Deep (gOf L) A ((outsOf L x).drop (pAt P x) ++ todoR L (pAt P) S) C
theorem gOf_outs (L : List (List Int)) (a : Nat) : gOf L (a : Int) = outsOf L a := gOf_at a
theorem mid_start {L : List (List Int)} {C A : List Int} {x : Nat} (hx : x < L.length) (hA : (x : Int) ∉ A) (h : Deep (gOf L) A [(x : Int)] C) : Mid L C (A ++ [(x : Int)]) (List.replicate L.length 0) x [] := by
  refine ⟨by simp, hx, by simp, fun a ha => ?_, fun a _ => pAt_zeros _ _, trivial, ?_⟩
  · have : a = x := by simpa using ha
    subst this; simp
  · have := (Deep.push hA).1 h
    rw [gOf_outs] at this
    rw [pAt_zeros, todoR]
    exact this
section
variable {L : List (List Int)} {C A : List Int} {P : List Nat} {x : Nat} {S : List Nat}
theorem Mid.notin (h : Mid L C A P x S) : x ∉ S := (List.nodup_cons.1 h.nodup).1
theorem drop_cons {l : List Int} {k : Nat} {y : Int} (h : l[k]? = some y) : l.drop k = y :: l.drop (k+1) := by
  obtain ⟨hk, rfl⟩ := List.getElem?_eq_some_iff.1 h
  rw [List.drop_eq_getElem_cons hk]
/-- The one below is marked already. -/
theorem Mid.seen (h : Mid L C A P x S) {y : Int} (hy : (outsOf L x)[pAt P x]? = some y) (hA : y ∈ A) : Mid L C A (P.set x (pAt P x + 1)) x S ∧ turnR L (pAt (P.set x (pAt P x + 1))) S = turnR L (pAt P) S := by
  have hl : x < P.length := by rw [h.len]; exact h.node
  have hc : ∀ a, a ∈ S → pAt P a = pAt (P.set x (pAt P x + 1)) a := fun a ha => by
    rw [pAt_set hl, if_neg fun e : x = a => h.notin (e ▸ ha)]
  refine ⟨⟨by rw [List.length_set]; exact h.len, h.node, h.nodup, h.inA, fun a ha => ?_, way_congr hc h.way, ?_⟩, (turnR_congr hc).symm⟩
  · rw [pAt_set hl, if_neg fun e : x = a => ha (e ▸ h.inA x (by simp))]
    exact h.zero a ha
  · rw [← todoR_congr hc, pAt_set hl, if_pos rfl]
    have hr := h.rest
    rw [drop_cons hy, List.cons_append] at hr
    exact (Deep.pop hA).1 hr
/-- It is marked, and one goes down. -/
theorem Mid.down (h : Mid L C A P x S) {y : Nat} (hy : (outsOf L x)[pAt P x]? = some (y : Int)) (hA : (y : Int) ∉ A) (hL : y < L.length) : Mid L C (A ++ [(y : Int)]) P y (x :: S) := by
  refine ⟨h.len, hL, List.nodup_cons.2 ⟨fun hm => hA (h.inA y hm), h.nodup⟩, fun a ha => ?_, fun a ha => h.zero a fun hm => ha (by simp [hm]), ⟨hy, h.way⟩, ?_⟩
  · rcases List.mem_cons.1 ha with rfl | ha
    · simp
    · exact List.mem_append_left _ (h.inA a ha)
  · have hr := h.rest
    rw [drop_cons hy, List.cons_append] at hr
    have := (Deep.push hA).1 hr
    rw [gOf_outs] at this
    rw [h.zero y hA, todoR]
    exact this
/-- One goes up. -/
theorem Mid.up {a : Nat} (h : Mid L C A P x (a :: S)) (hx : ¬ pAt P x < (outsOf L x).length) : Mid L C A (P.set a (pAt P a + 1)) a S ∧ turnR L (pAt (P.set a (pAt P a + 1))) S = turnR L (pAt P) S ∧ put2 (turnR L (pAt P) (a :: S)) a (pAt P a) (x : Int) = turnR L (pAt P) S ∧ a < L.length ∧ pAt P a < (outsOf L a).length := by
  have hw := h.way
  rw [Way] at hw
  have hk := (List.getElem?_eq_some_iff.1 hw.1).1
  have ha := outsOf_lt hk
  have hn := List.nodup_cons.1 h.nodup
  have hn2 := List.nodup_cons.1 hn.2
  have hl : a < P.length := by rw [h.len]; exact ha
  have hc : ∀ b, b ∈ S → pAt P b = pAt (P.set a (pAt P a + 1)) b := fun b hb => by
    rw [pAt_set hl, if_neg fun e : a = b => hn2.1 (e ▸ hb)]
  refine ⟨⟨by rw [List.length_set]; exact h.len, ha, hn.2, fun b hb => h.inA b (by simp [List.mem_cons.1 hb]), fun b hb => ?_, way_congr hc hw.2, ?_⟩, (turnR_congr hc).symm, turnR_back hn2.1 hw.1, ha, hk⟩
  · rw [pAt_set hl, if_neg fun e : a = b => hb (e ▸ h.inA a (by simp))]
    exact h.zero b hb
  · rw [← todoR_congr hc, pAt_set hl, if_pos rfl]
    have hr := h.rest
    rw [List.drop_eq_nil_of_le (by omega), List.nil_append, todoR] at hr
    exact hr
theorem Mid.end (h : Mid L C A P x []) (hx : ¬ pAt P x < (outsOf L x).length) : C = A := by
  have hr := h.rest
  rw [List.drop_eq_nil_of_le (by omega), todoR, List.append_nil] at hr
  exact (hr.det .nil)
end
/-- Nodes come in one row from 0 on. -/
theorem unm_less {n : Nat} {A : List Int} {x : Int} (h0 : 0 ≤ x ∧ x < n) (hA : x ∉ A) : unmarked (upTo n) (A ++ [x]) + 1 ≤ unmarked (upTo n) A := unmarked_less (upTo_nodup n) (upTo_mem.2 h0) hA
theorem deep_fine {L : List (List Int)} {R A l : List Int} (hf : FineH L R) (hl : ∀ x, x ∈ l → 0 ≤ x ∧ x < L.length) : ∃ B, Deep (gOf L) A l B :=
  deep_total (upTo_nodup L.length) (fun _ _ _ hy => upTo_mem.2 (hf.step hy)) _ A l (Nat.le_refl _) fun x hx => upTo_mem.2 (hl x hx)
end Go.Proofs.Ytelmfccpcejdnaa
