/- Lists alone, for chapter 13: tables of who waits, step by step; what they tell at the end is the least that telling costs. -/
import Derived.Test.YtnjfmlojbaigjabAcks
import Derived.Test.YtnjfmlojbaigjabWaits
namespace Go.Proofs.Ytnjfmlojbaigjab
namespace Wt
set_option maxRecDepth 100000

/-- How many of the first k wait. -/
def W20.to (s : W20) : Nat → Nat
  | 0 => 0
  | k + 1 => W20.to s k + (s.at k).toNat
theorem W20.to_le (s : W20) : ∀ k, s.to k ≤ k
  | 0 => by simp [W20.to]
  | k + 1 => by
    have := W20.to_le s k
    have h (x : Bool) : x.toNat ≤ 1 := by cases x <;> decide
    have := h (s.at k)
    rw [W20.to]; omega
/-- Those from j on, of the first k. -/
def blk (j k : Nat) : W20 := .ofFn fun i => decide (j ≤ i ∧ i < k)
theorem blk_at {j k i : Nat} (hi : i < 20) : (blk j k).at i = decide (j ≤ i ∧ i < k) := W20.ofFn_at _ hi
theorem blk_none (j : Nat) : blk j j = W20.none := W20.ext_at fun i hi => by
  rw [blk_at hi]
  unfold W20.none
  rw [W20.ofFn_at _ hi]
  exact decide_eq_false (by omega)
theorem blk_set {j k : Nat} (hj : j ≤ k) (hk : k < 20) : (blk j k).set k true = blk j (k+1) := W20.ext_at fun i hi => by
  rw [W20.at_set _ hk, blk_at hi, blk_at hi]
  by_cases e : i = k
  · rw [if_pos e]; exact (decide_eq_true (by omega)).symm
  · rw [if_neg e, decide_eq_decide]; omega
theorem blk_to {j k : Nat} (hj : j ≤ k) : ∀ m, m ≤ 20 → (blk j k).to m = min m k - min m j
  | 0, _ => by simp [W20.to]
  | m + 1, hm => by
    rw [W20.to, blk_to hj m (by omega), blk_at (by omega)]
    by_cases h : j ≤ m ∧ m < k
    · rw [decide_eq_true h, Bool.toNat_true]; omega
    · rw [decide_eq_false h, Bool.toNat_false]; omega
theorem blk_many {j k : Nat} (hj : j ≤ k) (hk : k ≤ 20) : (blk j k).to 20 = k - j := by rw [blk_to hj 20 (Nat.le_refl _)]; omega
def gapCost (s : W20) (g : Fin 1001) : Fin 32768 := ⟨s.to 20 * g.val, by
  have h1 := s.to_le 20
  have h2 := g.isLt
  have := Nat.mul_le_mul h1 (show g.val ≤ 1000 by omega)
  omega⟩
/-- Where one comes from a state when message at came: nobody waits, or all do. -/
def waitsL (n at_ : Nat) (pr : Fin 32768) (g : Fin 1001) (s : W20) : List Ent :=
  (W20.none, pr) :: (if at_ + 1 = n then [] else [(s.set at_ true, gapCost (s.set at_ true) g)])
theorem waits_few (n at_ : Nat) (pr : Fin 32768) (g : Fin 1001) (s : W20) : (waitsL n at_ pr g s).length < 3 := by
  unfold waitsL
  split <;> simp
/-- T tells of each state the least that it can be there at, if it can. -/
def TabW (p : Int) (ts : List Int) (k : Nat) (T : W20 → Option Nat) : Prop :=
  (∀ st x, T st = some x → ∃ j, Wait p ts k j x ∧ blk j k = st) ∧ ∀ j x, Wait p ts k j x → ∃ y, T (blk j k) = some y ∧ (y : Int) ≤ x
theorem tabW_start (p : Int) (ts : List Int) : TabW p ts 0 (oneT W20.none) := by
  refine ⟨fun st x e => ?_, fun j x h => ?_⟩
  · unfold oneT at e
    split at e
    · rename_i h
      subst h
      obtain rfl := Option.some.inj e
      exact ⟨0, .start, blk_none 0⟩
    · cases e
  · generalize hk : 0 = k at h
    cases h with
    | start => exact ⟨0, by rw [blk_none]; rfl, Int.le_refl _⟩
    | tell _ _ => cases hk
    | go _ _ => cases hk
theorem tabW_lt {p : Int} {ts : List Int} (hf : FineA ts p) {k : Nat} {T : W20 → Option Nat} (h : TabW p ts k T) : ∀ st x, T st = some x → x < 32768 := fun st x e => by
  obtain ⟨j, hw, _⟩ := h.1 st x e
  have hk := hw.le
  have := wait_bound hf.rise (by have := hf.price; omega) hf.many hf.times hw
  have hm := hf.many
  split at this
  · rename_i hlt
    have h2 := hf.times (ts[k]?.getD 0) (by rw [List.getElem?_eq_getElem hlt]; exact List.getElem_mem hlt)
    omega
  · omega
theorem tabW_succ {p : Int} {ts : List Int} (hf : FineA ts p) {k : Nat} (hk : k < ts.length) {pr : Fin 32768} (hpr : ((pr.val : Nat) : Int) = p) {g : Fin 1001} (hg : k + 1 < ts.length → ((g.val : Nat) : Int) = ts[k+1]?.getD 0 - ts[k]?.getD 0)
    {T T' : W20 → Option Nat} (h : TabW p ts k T) (ho : Onto (waitsL ts.length k pr g) T T') : TabW p ts (k+1) T' := by
  have hm := hf.many
  refine ⟨fun t z e => ?_, fun j' x' h' => ?_⟩
  · obtain ⟨st, y, f, hT, hf', rfl, rfl⟩ := ho.from_ t z e
    obtain ⟨j, hw, rfl⟩ := h.1 st y hT
    have hle := hw.le
    unfold waitsL at hf'
    rcases List.mem_cons.1 hf' with rfl | hf'
    · refine ⟨k + 1, ?_, blk_none _⟩
      have := Wait.tell hw hk
      simp only []
      rw [Int.natCast_add, hpr]; exact this
    · by_cases hlast : k + 1 = ts.length
      · rw [if_pos hlast] at hf'; cases hf'
      · rw [if_neg hlast, List.mem_singleton] at hf'
        subst hf'
        refine ⟨j, ?_, (blk_set hle.1 (by omega)).symm⟩
        have := Wait.go hw (by omega)
        simp only [gapCost]
        rw [blk_set hle.1 (by omega), blk_many (by omega) (by omega), Int.natCast_add, Int.natCast_mul, hg (by omega)]
        exact this
  · generalize hk1 : k + 1 = k1 at h'
    cases h' with
    | start => cases hk1
    | @tell k2 j2 x hw _ =>
      have hk2 : k2 = k := by omega
      subst hk2
      obtain ⟨y, hy, hle⟩ := h.2 _ _ hw
      obtain ⟨z, hz, hz2⟩ := ho.all (blk j2 k2) y (W20.none, pr) hy List.mem_cons_self
      refine ⟨z, by rw [blk_none]; exact hz, ?_⟩
      simp only [] at hz2; omega
    | @go k2 j2 x hw hlt =>
      have hk2 : k2 = k := by omega
      subst hk2
      have hle0 := hw.le
      obtain ⟨y, hy, hle⟩ := h.2 _ _ hw
      obtain ⟨z, hz, hz2⟩ := ho.all (blk j' k2) y (blk j' (k2+1), gapCost (blk j' (k2+1)) g) hy (by
        show _ ∈ waitsL _ _ _ _ _
        unfold waitsL
        rw [if_neg (by omega), blk_set hle0.1 (by omega)]; simp)
      refine ⟨z, hz, ?_⟩
      simp only [gapCost] at hz2
      rw [blk_many (by omega) (by omega)] at hz2
      have hg2 := hg hlt
      have : (z : Int) ≤ ((y + (k2 + 1 - j') * g.val : Nat) : Int) := by omega
      rw [Int.natCast_add, Int.natCast_mul, hg2] at this
      omega
theorem wait_ex {p : Int} {ts : List Int} : ∀ k, k ≤ ts.length → ∃ x, Wait p ts k k x
  | 0, _ => ⟨0, .start⟩
  | k + 1, h => by
    obtain ⟨x, hx⟩ := wait_ex (p := p) (ts := ts) k (by omega)
    exact ⟨_, .tell hx (by omega)⟩
theorem tabW_some {p : Int} {ts : List Int} {k : Nat} (hk : k ≤ ts.length) {T : W20 → Option Nat} (h : TabW p ts k T) : ∃ st x, T st = some x := by
  obtain ⟨x, hx⟩ := wait_ex (p := p) k hk
  obtain ⟨y, hy, _⟩ := h.2 _ _ hx
  exact ⟨_, y, hy⟩
theorem tabW_least {p : Int} {ts : List Int} (hf : FineA ts p) {T : W20 → Option Nat} (h : TabW p ts ts.length T) {x : Nat} (hx : LeastT T x) : LeastTell p ts x := by
  obtain ⟨st, hst⟩ := hx.got
  obtain ⟨j, hw, _⟩ := h.1 st x hst
  obtain rfl := hw.atEnd rfl
  refine wait_least hf.rise hw fun y hy => ?_
  obtain ⟨z, hz, hle⟩ := h.2 _ _ hy
  have := hx.all _ z hz
  omega
end Wt
end Go.Proofs.Ytnjfmlojbaigjab
