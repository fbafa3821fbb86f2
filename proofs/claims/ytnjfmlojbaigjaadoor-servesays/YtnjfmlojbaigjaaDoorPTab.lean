/- Lists alone, for chapter 14: tables of where three servers may be, step by step; what they tell at the end is the least that all could go. -/
import Derived.Test.YtnjfmlojbaigjaaDoorServers
import Derived.Test.YtnjfmlojbaigjaaDoorPLst
namespace Go.Proofs.YtnjfmlojbaigjaaDoor
namespace Pl
set_option maxRecDepth 100000

def fin13 (z : Int) : Fin 13 := if h : z.toNat < 13 then ⟨z.toNat, h⟩ else 0
theorem fin13_val {z : Int} (h : 0 ≤ z ∧ z ≤ 12) : (((fin13 z).val : Nat) : Int) = z := by
  unfold fin13
  rw [dif_pos (by omega)]
  show ((z.toNat : Nat) : Int) = z
  omega
/-- The first three of a list, as places. -/
def toP (u : List Int) : P3 := ⟨fin13 (u[0]?.getD 0), fin13 (u[1]?.getD 0), fin13 (u[2]?.getD 0)⟩
theorem toP_at (u : List Int) {k : Nat} (hk : k < 3) : (toP u).at k = fin13 (u[k]?.getD 0) := by
  have : k = 0 ∨ k = 1 ∨ k = 2 := by omega
  rcases this with rfl | rfl | rfl <;> rfl
theorem toP_set {u : List Int} {k : Nat} (hk : k < u.length) (h3 : u.length ≤ 3) (r : Int) : toP (u.set k r) = (toP u).set k (fin13 r) := by
  have : k = 0 ∨ k = 1 ∨ k = 2 := by omega
  rcases this with rfl | rfl | rfl
  all_goals
    unfold toP P3.set
    simp only [set_get r hk]
    rfl
def dist (a b : Fin 13) : Fin 1024 := ⟨(a.val - b.val) + (b.val - a.val), by have := a.isLt; have := b.isLt; omega⟩
theorem dist_val (a b : Fin 13) : (((dist a b).val : Nat) : Int) = zabs ((a.val : Int) - (b.val : Int)) := by unfold dist zabs; simp only []; omega
theorem dist_most (a b : Fin 13) : (dist a b).val ≤ 12 := by unfold dist; have := a.isLt; have := b.isLt; simp only []; omega
/-- Where servers may be behind an ask: one of the first k goes there. -/
def sentTo (r : Fin 13) (s : P3) : Nat → List Ent
  | 0 => []
  | k + 1 => sentTo r s k ++ [(s.set k r, dist (s.at k) r)]
theorem sent_len (r : Fin 13) (s : P3) : ∀ k, (sentTo r s k).length = k
  | 0 => rfl
  | k + 1 => by rw [sentTo, List.length_append, sent_len r s k]; rfl
theorem sent_mem {r : Fin 13} {s : P3} {f : Ent} : ∀ {k : Nat}, f ∈ sentTo r s k ↔ ∃ w, w < k ∧ f = (s.set w r, dist (s.at w) r)
  | 0 => by simp [sentTo]
  | k + 1 => by
    rw [sentTo, List.mem_append, sent_mem (k := k), List.mem_singleton]
    constructor
    · rintro (⟨w, hw, e⟩ | e)
      · exact ⟨w, by omega, e⟩
      · exact ⟨k, by omega, e⟩
    · rintro ⟨w, hw, e⟩
      by_cases h : w = k
      · subst h; exact .inr e
      · exact .inl ⟨w, by omega, e⟩
/-- T tells of each state the least that it can be come to at. -/
def PTab (s asks : List Int) (n : Nat) (T : P3 → Option Nat) : Prop :=
  (∀ st x, T st = some x → ∃ u, Sent s asks n u x ∧ toP u = st) ∧ ∀ u x, Sent s asks n u x → ∃ y, T (toP u) = some y ∧ (y : Int) ≤ x
theorem ptab_start (s asks : List Int) : PTab s asks 0 (oneT (toP s)) := by
  refine ⟨fun st x e => ?_, fun u x h => ?_⟩
  · unfold oneT at e
    split at e
    · rename_i h
      obtain rfl := Option.some.inj e
      exact ⟨s, .start, h.symm⟩
    · cases e
  · generalize hk : 0 = k at h
    cases h with
    | start => exact ⟨0, by unfold oneT; rw [if_pos rfl], Int.le_refl _⟩
    | go _ _ _ => cases hk
theorem sent_line {s asks : List Int} (hs : onLine s) (ha : onLine asks) {n : Nat} {u : List Int} {c : Int} (h : Sent s asks n u c) : onLine u := (h.goes.facts hs ha).2.1
theorem sent_most {s asks : List Int} (hs : onLine s) (ha : onLine asks) {n : Nat} {u : List Int} {c : Int} (h : Sent s asks n u c) : c ≤ 12 * n := by
  induction h with
  | start => omega
  | @go n u c w h hn hw ih =>
    have h1 := sent_line hs ha h _ (get_mem hw)
    have h2 := ask_in ha hn
    unfold zabs; omega
theorem ptab_lt {s asks : List Int} (hs : onLine s) (ha : onLine asks) (h20 : asks.length ≤ 20) {n : Nat} (hn : n ≤ asks.length) {T : P3 → Option Nat} (h : PTab s asks n T) : ∀ st x, T st = some x → x < 1000 := fun st x e => by
  obtain ⟨u, hu, _⟩ := h.1 st x e
  have := sent_most hs ha hu
  omega
theorem sent_ex {s asks : List Int} (h0 : 0 < s.length) : ∀ n, n ≤ asks.length → ∃ u c, Sent s asks n u c
  | 0, _ => ⟨s, 0, .start⟩
  | n + 1, hn => by
    obtain ⟨u, c, h⟩ := sent_ex (asks := asks) h0 n (by omega)
    exact ⟨_, _, .go h (by omega) (w := 0) (by rw [h.length]; exact h0)⟩
theorem ptab_some {s asks : List Int} (h0 : 0 < s.length) {n : Nat} (hn : n ≤ asks.length) {T : P3 → Option Nat} (h : PTab s asks n T) : ∃ st x, T st = some x := by
  obtain ⟨u, c, hu⟩ := sent_ex (s := s) (asks := asks) h0 n hn
  obtain ⟨y, hy, _⟩ := h.2 _ _ hu
  exact ⟨_, y, hy⟩
theorem ptab_succ {s asks : List Int} (h3 : s.length ≤ 3) (hs : onLine s) (ha : onLine asks) {n : Nat} (hn : n < asks.length) {r : Fin 13} (hr : ((r.val : Nat) : Int) = asks[n]?.getD 0) {T T' : P3 → Option Nat} (h : PTab s asks n T) (ho : Onto (fun st => sentTo r st s.length) T T') : PTab s asks (n+1) T' := by
  have hr2 := ask_in ha hn
  have hrf : fin13 (asks[n]?.getD 0) = r := Fin.ext (by have := fin13_val hr2; omega)
  have one : ∀ u : List Int, u.length = s.length → onLine u → ∀ w, w < s.length → (toP u).set w r = toP (u.set w (asks[n]?.getD 0)) ∧ (((dist ((toP u).at w) r).val : Nat) : Int) = zabs (u[w]?.getD 0 - asks[n]?.getD 0) := fun u hu hl w hw => by
    refine ⟨by rw [toP_set (by omega) (by omega), hrf], ?_⟩
    rw [dist_val, toP_at u (by omega), hr, fin13_val (hl _ (get_mem (by omega)))]
  refine ⟨fun t z e => ?_, fun u' x' h' => ?_⟩
  · obtain ⟨st, y, f, hT, hf, rfl, rfl⟩ := ho.from_ t z e
    obtain ⟨u, hu, rfl⟩ := h.1 st y hT
    obtain ⟨w, hw, rfl⟩ := sent_mem.1 hf
    obtain ⟨e1, e2⟩ := one u hu.length (sent_line hs ha hu) w hw
    refine ⟨_, ?_, e1.symm⟩
    have := Sent.go hu hn (w := w) (by rw [hu.length]; exact hw)
    rw [Int.natCast_add, e2]
    exact this
  · generalize hk1 : n + 1 = k1 at h'
    cases h' with
    | start => cases hk1
    | @go n2 u x w hu hn2 hw =>
      obtain rfl : n2 = n := by omega
      have hw2 : w < s.length := by rw [← hu.length]; exact hw
      obtain ⟨e1, e2⟩ := one u hu.length (sent_line hs ha hu) w hw2
      obtain ⟨y, hy, hle⟩ := h.2 _ _ hu
      obtain ⟨z, hz, hz2⟩ := ho.all (toP u) y ((toP u).set w r, dist ((toP u).at w) r) hy (sent_mem.2 ⟨w, hw2, rfl⟩)
      refine ⟨z, by rw [← e1]; exact hz, ?_⟩
      simp only [] at hz2
      rw [← e2]
      omega
theorem ptab_least {s asks : List Int} {T : P3 → Option Nat} (h : PTab s asks asks.length T) {x : Nat} (hx : LeastT T x) : LeastGo s asks x := by
  obtain ⟨st, hst⟩ := hx.got
  obtain ⟨u, hu, _⟩ := h.1 st x hst
  refine ⟨⟨u, hu.goes⟩, fun y e he => ?_⟩
  obtain ⟨u2, hu2, _⟩ := goes_sent he
  obtain ⟨z, hz, hle⟩ := h.2 _ _ hu2
  have := hx.all _ z hz
  omega
end Pl
end Go.Proofs.YtnjfmlojbaigjaaDoor
