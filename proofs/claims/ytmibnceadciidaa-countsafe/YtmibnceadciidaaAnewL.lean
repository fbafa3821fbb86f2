/- Lists alone, for chapters 18 and 19: a heap of some nodes, numbered anew. -/
import Derived.Test.YtmibnceadciidaaGraphL
namespace Go.Proofs.Ytmibnceadciidaa

/-- What a node points to; nothing, if it is none. -/
def gOf (outs : List (List Int)) (x : Int) : List Int := if 0 ≤ x then outs[x.toNat]?.getD [] else []
/-- The number of a node among some. -/
def plc (nodes : List Int) (x : Int) : Int := (nodes.idxOf x : Nat)
def anewO (outs : List (List Int)) (nodes : List Int) : List (List Int) := nodes.map fun k => (gOf outs k).map (plc nodes)
def upTo (m : Nat) : List Int := (List.range m).map fun i : Nat => (i : Int)
theorem upTo_length (m : Nat) : (upTo m).length = m := by simp [upTo]
theorem upTo_mem {m : Nat} {x : Int} : x ∈ upTo m ↔ 0 ≤ x ∧ x < m := by
  unfold upTo
  rw [List.mem_map]
  constructor
  · rintro ⟨i, hi, rfl⟩
    rw [List.mem_range] at hi
    omega
  · rintro ⟨h1, h2⟩
    exact ⟨x.toNat, by rw [List.mem_range]; omega, by omega⟩
theorem upTo_get {m i : Nat} (h : i < m) : (upTo m)[i]? = some (i : Int) := by
  unfold upTo
  rw [List.getElem?_map, List.getElem?_range h]; rfl
theorem upTo_nodup (m : Nat) : (upTo m).Nodup := by
  unfold upTo List.Nodup
  rw [List.pairwise_map]
  refine List.Pairwise.imp ?_ List.pairwise_lt_range
  intro a b hab e
  omega
theorem plc_lt {nodes : List Int} {x : Int} (h : x ∈ nodes) : 0 ≤ plc nodes x ∧ plc nodes x < nodes.length := by
  unfold plc
  have := List.idxOf_lt_length_iff.2 h
  omega
theorem plc_back {nodes : List Int} {x : Int} (h : x ∈ nodes) : nodes[(plc nodes x).toNat]? = some x := by
  unfold plc
  have := List.idxOf_lt_length_iff.2 h
  rw [Int.toNat_natCast, List.getElem?_eq_getElem this]
  simp
theorem plc_inj {nodes : List Int} {x y : Int} (hx : x ∈ nodes) (hy : y ∈ nodes) (h : plc nodes x = plc nodes y) : x = y := by
  have a := plc_back hx
  have b := plc_back hy
  rw [h, b] at a
  injection a with a
  exact a.symm
theorem plc_get {nodes : List Int} (hn : nodes.Nodup) {i : Nat} (hi : i < nodes.length) : plc nodes nodes[i] = (i : Int) := by
  unfold plc
  rw [hn.idxOf_getElem]
theorem plc_upTo {m : Nat} {x : Int} (h : x ∈ upTo m) : plc (upTo m) x = x := by
  have hx := upTo_mem.1 h
  have hb := plc_back h
  have hl := plc_lt h
  rw [upTo_length] at hl
  rw [upTo_get (by omega)] at hb
  have hb := Option.some.inj hb
  omega
theorem plc_self {nodes : List Int} (hn : nodes.Nodup) : nodes.map (plc nodes) = upTo nodes.length := by
  refine List.ext_getElem (by rw [List.length_map, upTo_length]) fun i h1 h2 => ?_
  rw [List.length_map] at h1
  rw [List.getElem_map, plc_get hn h1]
  have := upTo_get h1
  rw [List.getElem?_eq_getElem h2] at this
  injection this with this
  exact this.symm
/-- Nodes that point to each other alone. -/
structure Shut (outs : List (List Int)) (roots nodes : List Int) : Prop where
  nodup : nodes.Nodup
  root : ∀ x, x ∈ roots → x ∈ nodes
  outs : ∀ x, x ∈ nodes → ∀ y, y ∈ gOf outs x → y ∈ nodes
theorem anew_length (outs : List (List Int)) (nodes : List Int) : (anewO outs nodes).length = nodes.length := by simp [anewO]
theorem anew_g {outs : List (List Int)} {nodes : List Int} {x : Int} (hx : x ∈ nodes) : gOf (anewO outs nodes) (plc nodes x) = (gOf outs x).map (plc nodes) := by
  have h1 := plc_lt hx
  have h2 := plc_back hx
  rw [gOf, if_pos h1.1]
  unfold anewO
  rw [List.getElem?_map, h2]; rfl
theorem anew_out {outs : List (List Int)} {nodes : List Int} {x : Int} (hx : ¬ (0 ≤ x ∧ x < nodes.length)) : gOf (anewO outs nodes) x = [] := by
  unfold gOf
  split
  · rename_i h
    rw [List.getElem?_eq_none (by rw [anew_length]; omega)]; rfl
  · rfl
/-- What is come to in the one heap is come to, by its number, in the other. -/
theorem anew_come {outs : List (List Int)} {roots nodes : List Int} (h : Shut outs roots nodes) {x : Int} (hx : Come (gOf outs) roots x) : x ∈ nodes ∧ Come (gOf (anewO outs nodes)) (roots.map (plc nodes)) (plc nodes x) := by
  induction hx with
  | root h1 => exact ⟨h.root _ h1, .root (List.mem_map.2 ⟨_, h1, rfl⟩)⟩
  | step _ h2 ih =>
    refine ⟨h.outs _ ih.1 _ h2, .step ih.2 ?_⟩
    rw [anew_g ih.1]
    exact List.mem_map.2 ⟨_, h2, rfl⟩
/-- All of the new heap is come to, if the nodes are just those that were. -/
theorem anew_all {outs : List (List Int)} {roots nodes : List Int} (h : Shut outs roots nodes) (hc : ∀ x, x ∈ nodes → Come (gOf outs) roots x) {k : Int} : Come (gOf (anewO outs nodes)) (roots.map (plc nodes)) k ↔ k ∈ upTo nodes.length := by
  constructor
  · intro hk
    refine Come.least (C := fun k => k ∈ upTo nodes.length) (fun x hx => ?_) (fun x y hx hy => ?_) hk
    · obtain ⟨r, hr, rfl⟩ := List.mem_map.1 hx
      exact upTo_mem.2 (plc_lt (h.root r hr))
    · have hx := upTo_mem.1 hx
      have hi : x.toNat < nodes.length := by omega
      have hp := plc_get h.nodup hi
      rw [show ((x.toNat : Nat) : Int) = x by omega] at hp
      rw [← hp, anew_g (List.getElem_mem hi)] at hy
      obtain ⟨z, hz, rfl⟩ := List.mem_map.1 hy
      exact upTo_mem.2 (plc_lt (h.outs _ (List.getElem_mem hi) z hz))
  · intro hk
    have hk := upTo_mem.1 hk
    have hi : k.toNat < nodes.length := by omega
    have := (anew_come h (hc _ (List.getElem_mem hi))).2
    rw [plc_get h.nodup hi, show ((k.toNat : Nat) : Int) = k by omega] at this
    exact this
theorem anew_shut {outs : List (List Int)} {roots nodes : List Int} (h : Shut outs roots nodes) : Shut (anewO outs nodes) (roots.map (plc nodes)) (upTo nodes.length) := by
  refine ⟨upTo_nodup _, fun x hx => ?_, fun x hx y hy => ?_⟩
  · obtain ⟨r, hr, rfl⟩ := List.mem_map.1 hx
    exact upTo_mem.2 (plc_lt (h.root r hr))
  · have hx := upTo_mem.1 hx
    have hi : x.toNat < nodes.length := by omega
    have hp := plc_get h.nodup hi
    rw [show ((x.toNat : Nat) : Int) = x by omega] at hp
    rw [← hp, anew_g (List.getElem_mem hi)] at hy
    obtain ⟨z, hz, rfl⟩ := List.mem_map.1 hy
    exact upTo_mem.2 (plc_lt (h.outs _ (List.getElem_mem hi) z hz))
/-- Numbered anew by the numbers that they have, a heap is as it is. -/
theorem anew_same {outs : List (List Int)} {roots : List Int} (h : Shut outs roots (upTo outs.length)) : anewO outs (upTo outs.length) = outs ∧ roots.map (plc (upTo outs.length)) = roots := by
  constructor
  · refine List.ext_getElem (by rw [anew_length, upTo_length]) fun i h1 h2 => ?_
    have hi2 : i < (upTo outs.length).length := by rw [upTo_length]; exact h2
    have hget : (anewO outs (upTo outs.length))[i] = (gOf outs ((upTo outs.length)[i])).map (plc (upTo outs.length)) := List.getElem_map ..
    rw [hget]
    have hg : (upTo outs.length)[i]'(by rw [upTo_length]; exact h2) = (i : Int) := by
      have := upTo_get h2
      rw [List.getElem?_eq_getElem (by rw [upTo_length]; exact h2)] at this
      injection this
    rw [hg]
    have hgo : gOf outs (i : Int) = outs[i] := by
      rw [gOf, if_pos (by omega), Int.toNat_natCast, List.getElem?_eq_getElem h2]; rfl
    rw [hgo]
    have : ∀ y, y ∈ outs[i] → plc (upTo outs.length) y = y := fun y hy => plc_upTo (h.outs (i : Int) (upTo_mem.2 (by omega)) y (by rw [hgo]; exact hy))
    rw [List.map_congr_left this]
    exact List.map_id' _
  · rw [List.map_congr_left fun y hy => plc_upTo (h.root y hy)]
    exact List.map_id' _

/-- Breadth first: what was found when the first k have been looked at. -/
def bfsA (g : Int → List Int) (R : List Int) : Nat → List Int
  | 0 => addNew [] R
  | k + 1 => if k < (bfsA g R k).length then addNew (bfsA g R k) (g ((bfsA g R k)[k]?.getD 0)) else bfsA g R k
/-- All that is found, breadth first. -/
def IsFrom (g : Int → List Int) (R A : List Int) : Prop := ∃ k, (∀ j, j < k → j < (bfsA g R j).length) ∧ k = (bfsA g R k).length ∧ A = bfsA g R k
theorem bfs_found {g : Int → List Int} {R : List Int} : ∀ k, (∀ j, j < k → j < (bfsA g R j).length) → Found g R (bfsA g R k) k
  | 0, _ => found_start g R
  | k + 1, h => by
    have hk := h k (by omega)
    have ih := bfs_found k fun j hj => h j (by omega)
    rw [bfsA, if_pos hk]
    exact found_step ih hk
theorem IsFrom.det {g : Int → List Int} {R A B : List Int} (h1 : IsFrom g R A) (h2 : IsFrom g R B) : A = B := by
  obtain ⟨k, a1, a2, a3⟩ := h1
  obtain ⟨m, b1, b2, b3⟩ := h2
  have : k = m := by
    rcases Nat.lt_trichotomy k m with h | h | h
    · have := b1 k h; omega
    · exact h
    · have := a1 m h; omega
  subst this
  rw [a3, b3]
theorem IsFrom.mem {g : Int → List Int} {R A : List Int} (h : IsFrom g R A) : A.Nodup ∧ ∀ x, x ∈ A ↔ Come g R x := by
  obtain ⟨k, a1, a2, rfl⟩ := h
  have hf := bfs_found k a1
  exact ⟨hf.nodup, found_all hf (by omega)⟩
theorem addNew_map {f : Int → Int} : ∀ {l A : List Int}, (∀ x y, (x ∈ A ∨ x ∈ l) → (y ∈ A ∨ y ∈ l) → f x = f y → x = y) → addNew (A.map f) (l.map f) = (addNew A l).map f
  | [], A, _ => rfl
  | x :: r, A, h => by
    rw [List.map_cons, addNew, addNew]
    have hc : (A.map f).contains (f x) = A.contains x := by
      rw [Bool.eq_iff_iff, List.contains_iff_mem, List.contains_iff_mem]
      constructor
      · intro hm
        obtain ⟨y, hy, e⟩ := List.mem_map.1 hm
        rw [← h y x (.inl hy) (.inr (by simp)) e]; exact hy
      · exact fun hm => List.mem_map.2 ⟨x, hm, rfl⟩
    rw [hc]
    cases A.contains x
    · rw [if_neg (by simp), if_neg (by simp), show A.map f ++ [f x] = (A ++ [x]).map f by simp]
      refine addNew_map fun y z hy hz => h y z ?_ ?_
      · rcases hy with hy | hy
        · rcases List.mem_append.1 hy with hy | hy
          · exact .inl hy
          · exact .inr (by simp at hy; simp [hy])
        · exact .inr (by simp [hy])
      · rcases hz with hz | hz
        · rcases List.mem_append.1 hz with hz | hz
          · exact .inl hz
          · exact .inr (by simp at hz; simp [hz])
        · exact .inr (by simp [hz])
    · rw [if_pos rfl, if_pos rfl]
      refine addNew_map fun y z hy hz => h y z ?_ ?_
      · rcases hy with hy | hy
        · exact .inl hy
        · exact .inr (by simp [hy])
      · rcases hz with hz | hz
        · exact .inl hz
        · exact .inr (by simp [hz])
theorem bfs_map {outs : List (List Int)} {roots nodes : List Int} (h : Shut outs roots nodes) : ∀ k, (∀ x, x ∈ bfsA (gOf outs) roots k → x ∈ nodes) ∧ bfsA (gOf (anewO outs nodes)) (roots.map (plc nodes)) k = (bfsA (gOf outs) roots k).map (plc nodes)
  | 0 => by
    refine ⟨fun x hx => ?_, ?_⟩
    · rcases addNew_mem.1 hx with hx | hx
      · simp at hx
      · exact h.root x hx
    · rw [bfsA, bfsA]
      exact addNew_map (A := []) fun x y hx hy e => by
        have hx : x ∈ roots := by simpa using hx
        have hy : y ∈ roots := by simpa using hy
        exact plc_inj (h.root x hx) (h.root y hy) e
  | k + 1 => by
    obtain ⟨ih1, ih2⟩ := bfs_map h k
    rw [bfsA, bfsA, ih2, List.length_map]
    by_cases hk : k < (bfsA (gOf outs) roots k).length
    · rw [if_pos hk, if_pos hk]
      have hm : (bfsA (gOf outs) roots k)[k] ∈ nodes := ih1 _ (List.getElem_mem hk)
      have e1 : (bfsA (gOf outs) roots k)[k]?.getD 0 = (bfsA (gOf outs) roots k)[k] := by rw [List.getElem?_eq_getElem hk]; rfl
      have e2 : ((bfsA (gOf outs) roots k).map (plc nodes))[k]?.getD 0 = plc nodes (bfsA (gOf outs) roots k)[k] := by rw [List.getElem?_map, List.getElem?_eq_getElem hk]; rfl
      rw [e1, e2, anew_g hm]
      have hin : ∀ x, (x ∈ bfsA (gOf outs) roots k ∨ x ∈ gOf outs (bfsA (gOf outs) roots k)[k]) → x ∈ nodes := fun x hx => by
        rcases hx with hx | hx
        · exact ih1 x hx
        · exact h.outs _ hm x hx
      refine ⟨fun x hx => hin x (addNew_mem.1 hx), ?_⟩
      exact addNew_map fun x y hx hy e => plc_inj (hin x hx) (hin y hy) e
    · rw [if_neg hk, if_neg hk]
      exact ⟨ih1, rfl⟩
/-- Cheney: the copy's copy has the same numbers. -/
theorem copy_twice {outs : List (List Int)} {roots A : List Int} (hF : IsFrom (gOf outs) roots A) (hS : Shut outs roots A) : IsFrom (gOf (anewO outs A)) (roots.map (plc A)) (upTo A.length) := by
  obtain ⟨k, a1, a2, a3⟩ := hF
  have hb := bfs_map hS
  refine ⟨k, fun j hj => ?_, ?_, ?_⟩
  · rw [(hb j).2, List.length_map]; exact a1 j hj
  · rw [(hb k).2, List.length_map]; exact a2
  · rw [(hb k).2, ← a3, plc_self hS.nodup]
theorem from_shut {outs : List (List Int)} {roots A : List Int} (hF : IsFrom (gOf outs) roots A) : Shut outs roots A := by
  obtain ⟨h1, h2⟩ := hF.mem
  exact ⟨h1, fun x hx => (h2 x).2 (.root hx), fun x hx y hy => (h2 y).2 (.step ((h2 x).1 hx) hy)⟩
end Go.Proofs.Ytmibnceadciidaa
