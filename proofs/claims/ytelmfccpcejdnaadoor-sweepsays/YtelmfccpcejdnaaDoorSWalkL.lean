/- On the way down and up: what holds of the world: plain lemmas. -/
import Derived.Test.YtelmfccpcejdnaaDoorOrdM
import Derived.Test.YtelmfccpcejdnaaDoorTRow
import Derived.Test.YtelmfccpcejdnaaDoorSCome
namespace Go.Proofs.YtelmfccpcejdnaaDoor
set_option maxRecDepth 100000
open Go.RowKit Go.Sort

/-- Of the blocks below B those from lo to bo alone may be turned. -/
structure Wr (lo bo B : Nat) (w w' : World) : Prop where
  os : w'.os = w.os
  tape : w'.tape = w.tape
  output : w'.output = w.output
  size : w.heap.size ≤ w'.heap.size
  block : ∀ k, k < B → k < lo ∨ bo < k → w'.heap[k]? = w.heap[k]?
def intsP (P : List Nat) : List Int := P.map fun k : Nat => (k : Int)
theorem intsP_length (P : List Nat) : (intsP P).length = P.length := by simp [intsP]
theorem intsP_get {P : List Nat} {a : Nat} (h : a < P.length) : (intsP P)[a]?.getD 0 = (pAt P a : Int) := by
  unfold intsP pAt
  rw [List.getElem?_map, List.getElem?_eq_getElem h]; rfl
theorem intsP_set (P : List Nat) (a k : Nat) : (intsP P).set a (k : Int) = intsP (P.set a k) := by unfold intsP; rw [List.map_set]
section
variable {lo bo B : Nat} {w w1 w2 : World}
theorem Wr.refl (lo bo B : Nat) (w : World) : Wr lo bo B w w := ⟨rfl, rfl, rfl, Nat.le_refl _, fun _ _ _ => rfl⟩
theorem Wr.trans (h : Wr lo bo B w w1) (k : Wr lo bo B w1 w2) : Wr lo bo B w w2 :=
  ⟨k.os.trans h.os, k.tape.trans h.tape, k.output.trans h.output, Nat.le_trans h.size k.size, fun i h1 h2 => (k.block i h1 h2).trans (h.block i h1 h2)⟩
theorem Wr.below (h : Wr lo bo B w w1) (hl : lo ≤ B) : Below lo w w1 := ⟨h.os, h.tape, h.output, h.size, fun i hi => h.block i (by omega) (.inl hi)⟩
theorem Wr.cell (h : Wr lo bo B w w1) {p : Addr} (hp : p.block < B) (hn : bo < p.block) : w1.cell? p = w.cell? p := World.cell?_of_block (h.block _ hp (.inr hn))
theorem Wr.marks {A : List Int} {vo vo' : Value} (h : Marks bo vo vo' w w1) (ho : Ord w B bo A vo) (hl : lo ≤ bo) : Wr lo bo B w w1 := by
  have hb := h.but ho
  exact ⟨h.os, h.tape, h.output, h.size, fun k h1 h2 => hb.block k h1 (by omega)⟩
theorem Wr.later (h : Below w.heap.size w w1) (hB : B ≤ w.heap.size) : Wr lo bo B w w1 := ⟨h.os, h.tape, h.output, h.size, fun k h1 _ => h.block k (by omega)⟩
theorem Wr.set (w : World) {b k : Nat} (u : Value) (hb : (lo ≤ b ∧ b ≤ bo) ∨ B ≤ b) : Wr lo bo B w (w.setCell ⟨b, k, none⟩ u) :=
  ⟨rfl, rfl, rfl, by simp [World.setCell], fun i h1 h2 => heap_setCell_other w ⟨b, k, none⟩ i u (fun e => by have e : i = b := e; omega)⟩
/-- Behind a store into a block below the box, or into one that is not the row's. -/
theorem Ord.set {A : List Int} {vo : Value} (h : Ord w B bo A vo) {b k : Nat} (u : Value) (h1 : b ≠ bo) (h2 : vo.ownBlock ≠ some b) : Ord (w.setCell ⟨b, k, none⟩ u) B bo A vo :=
  h.other (row := some b) ⟨rfl, rfl, rfl, by simp [World.setCell], fun i _ hi => heap_setCell_other w ⟨b, k, none⟩ i u (fun e => hi (by rw [show i = b from e]))⟩ (fun e => h1 (Option.some.inj e)) (.inr h2)
theorem OwnI.set_other {base : Nat} {v : Value} {l : List Int} (h : OwnI w base v l) {b k : Nat} (u : Value) (h2 : v.ownBlock ≠ some b) : OwnI (w.setCell ⟨b, k, none⟩ u) base v l :=
  OwnI.kept h (row := some b) ⟨rfl, rfl, rfl, by simp [World.setCell], fun i _ hi => heap_setCell_other w ⟨b, k, none⟩ i u (fun e => hi (by rw [show i = b from e]))⟩ (.inr h2)
theorem TRows.set_other {hi : Nat} {v : Value} {X : List (List Int)} (h : TRows w lo hi v X) {b k : Nat} (u : Value) (h2 : hi ≤ b) : TRows (w.setCell ⟨b, k, none⟩ u) lo hi v X :=
  h.kept fun i _ h3 _ => heap_setCell_other w ⟨b, k, none⟩ i u (fun e => by have e : i = b := e; omega)
end
/-- How it stands: at x, those above S; A is marked. -/
structure St (lo bo B pb : Nat) (v : Value) (L : List (List Int)) (C A : List Int) (P : List Nat) (x : Nat) (S : List Nat) (vo : Value) (w0 w : World) : Prop where
  mid : Mid L C A P x S
  inn : Inn L A
  ord : Ord w B bo A vo
  rows : TRows w lo bo v (turnR L (pAt P) S)
  past : OwnI w B (.slice (some ⟨pb, 0, none⟩) L.length L.length) (intsP P)
  apart : vo.ownBlock ≠ some pb
  wr : Wr lo bo B w0 w
  lob : lo ≤ bo
  Bpb : B ≤ pb
  pbs : pb < w.heap.size
section
variable {lo bo B pb : Nat} {v : Value} {L : List (List Int)} {C A : List Int} {P : List Nat} {x : Nat} {S : List Nat} {vo : Value} {w0 w : World}
theorem St.cell (h : St lo bo B pb v L C A P x S vo w0 w) {a : Nat} (ha : a < L.length) : w.cell? ⟨pb, a, none⟩ = some (.int .i64 (pAt P a : Nat)) ∧ w.frozen? ⟨pb, a, none⟩ = false := by
  have hl : (intsP P).length = L.length := by rw [intsP_length]; exact h.mid.len
  refine ⟨?_, h.past.softN hl a⟩
  rw [h.past.cellN hl ha, intsP_get (by rw [h.mid.len]; exact ha)]
theorem St.soft (h : St lo bo B pb v L C A P x S vo w0 w) : pb ≠ bo := by have := h.ord.lt; have := h.Bpb; omega
theorem St.drewN (h : St lo bo B pb v L C A P x S vo w0 w) (n : Nat) : St lo bo B pb v L C A P x S vo w0 (w.drewN n) :=
  ⟨h.mid, h.inn, h.ord.drewN n, h.rows.kept fun _ _ _ _ => rfl, h.past, h.apart, h.wr.trans ⟨rfl, rfl, rfl, Nat.le_refl _, fun _ _ _ => rfl⟩, h.lob, h.Bpb, h.pbs⟩
/-- The row of a node. -/
theorem turned_row {p : Nat → Nat} (h : TRows w lo bo v (turnR L p S)) {g c : Nat} (hv : v = .slice (some ⟨g, 0, none⟩) L.length c) {a : Nat} (ha : a < L.length) : ∃ au cu, L.length ≤ c ∧ c ≤ 9223372036854775807 ∧ w.cell? ⟨g, a, none⟩ = some (.slice au (outsOf L a).length cu) ∧ cu ≤ 9223372036854775807 ∧ (outsOf L a).length ≤ cu ∧
    ∀ k, k < (outsOf L a).length → ∃ b, au = some ⟨b, 0, none⟩ ∧ w.cell? ⟨b, k, none⟩ = some (.int .i64 ((outsOf (turnR L p S) a)[k]?.getD 0)) ∧ w.frozen? ⟨b, k, none⟩ = false ∧ lo ≤ b ∧ b < bo ∧ b < w.heap.size ∧
      ∀ y : Int, TRows (w.setCell ⟨b, k, none⟩ (.int .i64 y)) lo bo v (put2 (turnR L p S) a k y) := by
  subst hv
  obtain ⟨g', c', au, cu, e, h1, h2, h3, h4, h5, h6⟩ := h.row (j := a) (by rw [turnR_length]; exact ha)
  rw [turnR_length] at e h1
  simp only [Value.slice.injEq, Option.some.injEq, Addr.mk.injEq, and_true, true_and] at e
  obtain ⟨rfl, rfl⟩ := e
  rw [turnR_rowlen] at h3 h5 h6
  exact ⟨au, cu, h1, h2, h3, h4, h5, h6⟩
theorem TRows.drewN {hi : Nat} {X : List (List Int)} (h : TRows w lo hi v X) (n : Nat) : TRows (w.drewN n) lo hi v X := h.kept fun _ _ _ _ => rfl
theorem Marks.drewN {vo' : Value} {w1 : World} (h : Marks bo vo vo' w w1) (n : Nat) : Marks bo vo vo' w (w1.drewN n) := ⟨h.os, h.tape, h.output, h.size, h.block, h.fresh⟩
theorem St.past_marked (h : St lo bo B pb v L C A P x S vo w0 w) {vo' : Value} {w1 : World} (hm : Marks bo vo vo' w w1) : OwnI w1 B (.slice (some ⟨pb, 0, none⟩) L.length L.length) (intsP P) := by
  have hlt := h.ord.lt
  have hBp := h.Bpb
  have hps := h.pbs
  refine ⟨h.past.1, ?_⟩
  rcases h.past.2 with h0 | ⟨g, cap, cur, hv, hB, hg, rest⟩
  · exact .inl h0
  · have hgp : pb = g := by
      simp only [Value.slice.injEq, Option.some.injEq, Addr.mk.injEq, and_true] at hv
      exact hv.1
    exact .inr ⟨g, cap, cur, hv, hB, by rw [hm.block g (by omega) (by omega) (by rw [← hgp]; exact h.apart)]; exact hg, rest⟩
theorem St.cell_marked (h : St lo bo B pb v L C A P x S vo w0 w) {vo' : Value} {w1 : World} (hm : Marks bo vo vo' w w1) {a : Nat} (ha : a < L.length) : w1.cell? ⟨pb, a, none⟩ = some (.int .i64 (pAt P a : Nat)) := by
  have hl : (intsP P).length = L.length := by rw [intsP_length]; exact h.mid.len
  rw [(h.past_marked hm).cellN hl ha, intsP_get (by rw [h.mid.len]; exact ha)]
/-- A number of past written over. -/
theorem St.putP (h : St lo bo B pb v L C A P x S vo w0 w) (a k : Nat) : OwnI (w.setCell ⟨pb, a, none⟩ (.int .i64 (k : Nat))) B (.slice (some ⟨pb, 0, none⟩) L.length L.length) (intsP (P.set a k)) := by
  have hl : (intsP P).length = L.length := by rw [intsP_length]; exact h.mid.len
  have hp := h.past
  rw [← intsP_set]
  unfold OwnI at hp ⊢
  rw [List.length_set, List.map_set]
  rw [hl] at hp ⊢
  exact (World.ownsRow.stored hp a (.int .i64 (k : Nat))).1
/-- The one below is marked already. -/
theorem St.seen (h : St lo bo B pb v L C A P x S vo w0 w) {y : Int} (hy : (outsOf L x)[pAt P x]? = some y) (hA : y ∈ A) :
    St lo bo B pb v L C A (P.set x (pAt P x + 1)) x S vo w0 (w.setCell ⟨pb, x, none⟩ (.int .i64 ((pAt P x + 1 : Nat) : Int))) := by
  obtain ⟨m1, m2⟩ := h.mid.seen hy hA
  have hlt := h.ord.lt
  have hBp := h.Bpb
  refine ⟨m1, h.inn, h.ord.set _ h.soft h.apart, ?_, h.putP x _, h.apart, h.wr.trans (Wr.set w _ (.inr hBp)), h.lob, hBp, by simp [World.setCell]; exact h.pbs⟩
  rw [m2]
  exact h.rows.set_other _ (by omega)
/-- It is marked, and one goes down: the pointer is turned. -/
theorem St.down (h : St lo bo B pb v L C A P x S vo w0 w) {y b : Nat} {vo' : Value} {w1 : World} (hy : (outsOf L x)[pAt P x]? = some (y : Int)) (hA : (y : Int) ∉ A) (hL : y < L.length) (ho : Ord w1 B bo (A ++ [(y : Int)]) vo') (hm : Marks bo vo vo' w w1)
    (hb : lo ≤ b ∧ b < bo) (ht : TRows (w1.setCell ⟨b, pAt P x, none⟩ (.int .i64 (topI S))) lo bo v (put2 (turnR L (pAt P) S) x (pAt P x) (topI S))) :
    St lo bo B pb v L C (A ++ [(y : Int)]) P y (x :: S) vo' w0 (w1.setCell ⟨b, pAt P x, none⟩ (.int .i64 (topI S))) := by
  have hlt := h.ord.lt
  have hBp := h.Bpb
  have hps := h.pbs
  have hsz := hm.size
  have hle := h.ord.le
  have hpast1 := h.past_marked hm
  have hap : vo'.ownBlock ≠ some pb := hm.fresh pb hps h.apart
  refine ⟨h.mid.down hy hA hL, h.inn.add ⟨by omega, by omega⟩ hA, ho.set _ (by omega) (fun e => by have := World.ownsRow.lt ho.own b e; omega), ht, hpast1.set_other _ (fun e => by
    simp only [Value.ownBlock, Option.some.injEq] at e; omega), hap, (h.wr.trans (Wr.marks hm h.ord h.lob)).trans (Wr.set w1 _ (.inl ⟨hb.1, by omega⟩)), h.lob, hBp, by simp [World.setCell]; omega⟩
/-- The rows lie where they lay when something is marked. -/
theorem St.marked (h : St lo bo B pb v L C A P x S vo w0 w) {vo' : Value} {w1 : World} (hm : Marks bo vo vo' w w1) : TRows w1 lo bo v (turnR L (pAt P) S) :=
  h.rows.below ((hm.but h.ord).below (Nat.le_of_lt h.ord.lt))
/-- One goes up: the pointer is turned back. -/
theorem St.up {a b : Nat} (h : St lo bo B pb v L C A P x (a :: S) vo w0 w) (hx : ¬ pAt P x < (outsOf L x).length) (hb : lo ≤ b ∧ b < bo)
    (ht : TRows (w.setCell ⟨b, pAt P a, none⟩ (.int .i64 (x : Nat))) lo bo v (put2 (turnR L (pAt P) (a :: S)) a (pAt P a) (x : Int))) :
    St lo bo B pb v L C A (P.set a (pAt P a + 1)) a S vo w0 ((w.setCell ⟨b, pAt P a, none⟩ (.int .i64 (x : Nat))).setCell ⟨pb, a, none⟩ (.int .i64 ((pAt P a + 1 : Nat) : Int))) := by
  obtain ⟨m1, m2, m3, _, _⟩ := h.mid.up hx
  have hlt := h.ord.lt
  have hBp := h.Bpb
  have hob : vo.ownBlock ≠ some b := fun e => by have := World.ownsRow.lt h.ord.own b e; omega
  rw [m3] at ht
  have hq : St lo bo B pb v L C A P x (a :: S) vo w0 w := h
  have hpast1 : OwnI (w.setCell ⟨b, pAt P a, none⟩ (.int .i64 (x : Nat))) B (.slice (some ⟨pb, 0, none⟩) L.length L.length) (intsP P) := h.past.set_other _ (fun e => by
    simp only [Value.ownBlock, Option.some.injEq] at e; omega)
  refine ⟨m1, h.inn, (h.ord.set _ (by omega) hob).set _ h.soft h.apart, ?_, ?_, h.apart, (h.wr.trans (Wr.set w _ (.inl ⟨hb.1, by omega⟩))).trans (Wr.set _ _ (.inr hBp)), h.lob, hBp, by simp [World.setCell]; exact h.pbs⟩
  · rw [m2]
    exact ht.set_other _ (by omega)
  · have hl : (intsP P).length = L.length := by rw [intsP_length]; exact h.mid.len
    rw [← intsP_set]
    unfold OwnI at hpast1 ⊢
    rw [List.length_set, List.map_set]
    rw [hl] at hpast1 ⊢
    exact (World.ownsRow.stored hpast1 a (.int .i64 ((pAt P a + 1 : Nat) : Int))).1
theorem st_start {vo1 : Value} {w1 w2 : World} (hx : x < L.length) (hA : (x : Int) ∉ A) (hd : Deep (gOf L) A [(x : Int)] C) (hI : Inn L A) (ho : Ord w B bo A vo) (ho1 : Ord w1 B bo (A ++ [(x : Int)]) vo1) (hm : Marks bo vo vo1 w w1) (ht : TRows w lo bo v L) (hlo : lo ≤ bo)
    (hb : Below w1.heap.size w1 w2) (hp : OwnI w2 B (.slice (some ⟨w1.heap.size, 0, none⟩) L.length L.length) (intsP (List.replicate L.length 0))) (hs : w1.heap.size < w2.heap.size) : St lo bo B w1.heap.size v L C (A ++ [(x : Int)]) (List.replicate L.length 0) x [] vo1 w w2 :=
  ⟨mid_start hx hA hd, hI.add ⟨by omega, by omega⟩ hA, ho1.later hb, (ht.below ((hm.but ho).below (Nat.le_of_lt ho.lt))).later hb, hp, fun e => by have := (World.ownsRow.lt ho1.own _ e).2; omega, (Wr.marks hm ho hlo).trans (Wr.later hb ho1.le), hlo, ho1.le, hs⟩
end
end Go.Proofs.YtelmfccpcejdnaaDoor
