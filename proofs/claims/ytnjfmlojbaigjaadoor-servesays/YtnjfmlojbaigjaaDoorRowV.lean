/- Rows of numbers, or none, and what is offered to them; where servers are, as a number by 13. Lists and numbers alone. -/
import Derived.Test.YtnjfmlojbaigjaaDoorServers
namespace Go.Proofs.YtnjfmlojbaigjaaDoor
set_option maxRecDepth 100000

/-- A cost, or none. -/
def vN : Option Nat → Int
  | none => -1
  | some x => x
def minO : Option Nat → Nat → Option Nat
  | none, y => some y
  | some z, y => if y < z then some y else some z
/-- A row of R numbers that tells T. -/
def rowR (R : Nat) (T : Nat → Option Nat) : List Int := (List.range R).map fun m => vN (T m)
def updO (T : Nat → Option Nat) (k : Nat) (o : Option Nat) : Nat → Option Nat := fun m => if m = k then o else T m
theorem rowR_length (R : Nat) (T : Nat → Option Nat) : (rowR R T).length = R := by unfold rowR; rw [List.length_map, List.length_range]
theorem rowR_get {R : Nat} (T : Nat → Option Nat) {m : Nat} (h : m < R) : (rowR R T)[m]?.getD 0 = vN (T m) := by
  unfold rowR
  rw [List.getElem?_map, List.getElem?_range h]; rfl
theorem rowR_set (R : Nat) (T : Nat → Option Nat) (k : Nat) (o : Option Nat) : (rowR R T).set k (vN o) = rowR R (updO T k o) := by
  refine List.ext_getElem? fun i => ?_
  rw [List.getElem?_set]
  unfold rowR
  rw [List.getElem?_map, List.getElem?_map, List.length_map, List.length_range]
  by_cases hi : i < R
  · rw [List.getElem?_range hi]
    by_cases e : k = i
    · subst e; rw [if_pos rfl, if_pos hi]; simp [updO]
    · rw [if_neg e]; simp [updO, Ne.symm e]
  · rw [List.getElem?_eq_none (by rw [List.length_range]; omega)]
    by_cases e : k = i
    · subst e; rw [if_pos rfl, if_neg hi]; rfl
    · rw [if_neg e]; rfl
theorem rowR_zero (R : Nat) : List.replicate R 0 = rowR R (fun _ => some 0) := by
  unfold rowR
  refine List.ext_getElem? fun i => ?_
  rw [List.getElem?_map, List.getElem?_replicate]
  by_cases hi : i < R
  · rw [List.getElem?_range hi, if_pos hi]; rfl
  · rw [List.getElem?_eq_none (by rw [List.length_range]; omega), if_neg hi]; rfl
theorem rowR_congr {R : Nat} {T T' : Nat → Option Nat} (h : ∀ m, m < R → T m = T' m) : rowR R T = rowR R T' := by
  unfold rowR
  exact List.map_congr_left fun m hm => by rw [h m (List.mem_range.1 hm)]
/-- The first k are none. -/
def noneTo (k : Nat) : Nat → Option Nat := fun m => if m < k then none else some 0
theorem noneTo_zero : (fun _ => some 0) = noneTo 0 := by funext m; unfold noneTo; rw [if_neg (Nat.not_lt_zero _)]
theorem noneTo_succ (k : Nat) : updO (noneTo k) k none = noneTo (k+1) := by
  funext m
  unfold updO noneTo
  by_cases e : m = k
  · rw [if_pos e, if_pos (by omega)]
  · rw [if_neg e]
    by_cases h : m < k
    · rw [if_pos h, if_pos (by omega)]
    · rw [if_neg h, if_neg (by omega)]
theorem noneTo_all {R m : Nat} (h : m < R) : noneTo R m = none := by unfold noneTo; rw [if_pos h]
/-- The least of the first k. -/
def lowN (T : Nat → Option Nat) : Nat → Option Nat
  | 0 => none
  | k + 1 => match T k with
    | none => lowN T k
    | some x => minO (lowN T k) x
theorem lowN_none {T : Nat → Option Nat} {k : Nat} (h : T k = none) : lowN T (k+1) = lowN T k := by rw [lowN, h]
theorem lowN_some {T : Nat → Option Nat} {k x : Nat} (h : T k = some x) : lowN T (k+1) = minO (lowN T k) x := by rw [lowN, h]
theorem minO_is (o : Option Nat) (y : Nat) : ∃ z, minO o y = some z ∧ z ≤ y ∧ (∀ x, o = some x → z ≤ x) ∧ (z = y ∨ o = some z) := by
  cases o with
  | none => exact ⟨y, rfl, Nat.le_refl _, fun _ h => (by cases h), .inl rfl⟩
  | some x =>
    unfold minO
    by_cases h : y < x
    · exact ⟨y, by simp [h], Nat.le_refl _, fun _ e => (by cases e; omega), .inl rfl⟩
    · exact ⟨x, by simp [h], by omega, fun _ e => (by cases e; exact Nat.le_refl _), .inr rfl⟩
theorem lowN_facts (T : Nat → Option Nat) : ∀ k, (∀ z, lowN T k = some z → ∃ m, m < k ∧ T m = some z) ∧ ∀ m x, m < k → T m = some x → ∃ z, lowN T k = some z ∧ z ≤ x
  | 0 => ⟨fun _ h => (by cases h), fun _ _ h => absurd h (Nat.not_lt_zero _)⟩
  | k + 1 => by
    obtain ⟨h1, h2⟩ := lowN_facts T k
    cases hT : T k with
    | none =>
      rw [lowN_none hT]
      refine ⟨fun z e => ?_, fun m x hm e => ?_⟩
      · obtain ⟨m, hm, r⟩ := h1 z e; exact ⟨m, by omega, r⟩
      · have : m ≠ k := fun e2 => by subst e2; rw [hT] at e; cases e
        exact h2 m x (by omega) e
    | some y =>
      rw [lowN_some hT]
      obtain ⟨z0, hz0, hle, hall, hor⟩ := minO_is (lowN T k) y
      refine ⟨fun z e => ?_, fun m x hm e => ?_⟩
      · obtain rfl : z0 = z := Option.some.inj (hz0.symm.trans e)
        rcases hor with rfl | hor
        · exact ⟨k, by omega, hT⟩
        · obtain ⟨m, hm, r⟩ := h1 _ hor
          exact ⟨m, by omega, r⟩
      · refine ⟨z0, hz0, ?_⟩
        by_cases e2 : m = k
        · subst e2; rw [hT] at e; cases e; exact hle
        · obtain ⟨z, hz, hzx⟩ := h2 m x (by omega) e
          have := hall z hz; omega
/-- What was offered. -/
def offN (T : Nat → Option Nat) (j x : Nat) : Nat → Option Nat := updO T j (minO (T j) x)
def MadeN (os : List (Nat × Nat)) (T : Nat → Option Nat) (R : Nat) : Prop := (∀ t z, t < R → T t = some z → (t, z) ∈ os) ∧ ∀ t z, (t, z) ∈ os → ∃ y, T t = some y ∧ y ≤ z
theorem madeN_none (R : Nat) : MadeN [] (noneTo R) R := ⟨fun t z ht h => (by rw [noneTo_all ht] at h; cases h), fun _ _ h => (by cases h)⟩
theorem madeN_off {os : List (Nat × Nat)} {T : Nat → Option Nat} {R : Nat} (h : MadeN os T R) (s : Nat) (x : Nat) : MadeN (os ++ [(s, x)]) (offN T s x) R := by
  obtain ⟨z0, hz0, hle, hall, hor⟩ := minO_is (T s) x
  refine ⟨fun t z hR e => ?_, fun t z e => ?_⟩
  · unfold offN updO at e
    by_cases ht : t = s
    · subst ht
      rw [if_pos rfl] at e
      obtain rfl : z0 = z := Option.some.inj (hz0.symm.trans e)
      rcases hor with rfl | hor
      · simp
      · exact List.mem_append.2 (.inl (h.1 t _ hR hor))
    · rw [if_neg ht] at e
      exact List.mem_append.2 (.inl (h.1 t z hR e))
  · unfold offN updO
    by_cases ht : t = s
    · subst ht
      rw [if_pos rfl]
      refine ⟨z0, hz0, ?_⟩
      rcases List.mem_append.1 e with e | e
      · obtain ⟨y, hy, hyz⟩ := h.2 t z e
        have := hall y hy; omega
      · simp at e
        omega
    · rw [if_neg ht]
      rcases List.mem_append.1 e with e | e
      · exact h.2 t z e
      · simp at e
        exact absurd e.1 ht

/-- Where servers are, as a number by 13. -/
def encF (u : List Int) : Nat := u.foldl (fun a v => a * 13 + v.toNat) 0
/-- The place of the k-th one from the end. -/
def digN (m k : Nat) : Nat := m / 13 ^ k % 13
/-- The number where the k-th one from the end goes to r. -/
def goN13 (m k r : Nat) : Nat := m - digN m k * 13 ^ k + r * 13 ^ k
theorem enc_lt {u : List Int} (h1 : 1 ≤ u.length) (h3 : u.length ≤ 3) (hl : onLine u) : encF u < 13 ^ u.length := by
  match u, h1, h3 with
  | [a], _, _ => have := hl a (by simp); simp [encF]; omega
  | [a, b], _, _ => have := hl a (by simp); have := hl b (by simp); simp [encF]; omega
  | [a, b, c], _, _ => have := hl a (by simp); have := hl b (by simp); have := hl c (by simp); simp [encF]; omega
theorem enc_dig {u : List Int} (h1 : 1 ≤ u.length) (h3 : u.length ≤ 3) (hl : onLine u) {k : Nat} (hk : k < u.length) : ((digN (encF u) k : Nat) : Int) = u[u.length - 1 - k]?.getD 0 := by
  match u, h1, h3 with
  | [a], _, _ =>
    obtain rfl : k = 0 := by simp at hk; omega
    have := hl a (by simp); simp [encF, digN]; omega
  | [a, b], _, _ =>
    have := hl a (by simp); have := hl b (by simp)
    have : k = 0 ∨ k = 1 := by simp at hk; omega
    rcases this with rfl | rfl <;> simp [encF, digN] <;> omega
  | [a, b, c], _, _ =>
    have := hl a (by simp); have := hl b (by simp); have := hl c (by simp)
    have : k = 0 ∨ k = 1 ∨ k = 2 := by simp at hk; omega
    rcases this with rfl | rfl | rfl <;> simp [encF, digN] <;> omega
theorem enc_set {u : List Int} (h1 : 1 ≤ u.length) (h3 : u.length ≤ 3) (hl : onLine u) {k : Nat} (hk : k < u.length) {r : Nat} : goN13 (encF u) k r = encF (u.set (u.length - 1 - k) (r : Int)) := by
  match u, h1, h3 with
  | [a], _, _ =>
    obtain rfl : k = 0 := by simp at hk; omega
    have := hl a (by simp); simp [encF, goN13, digN]; omega
  | [a, b], _, _ =>
    have := hl a (by simp); have := hl b (by simp)
    have : k = 0 ∨ k = 1 := by simp at hk; omega
    rcases this with rfl | rfl <;> simp [encF, goN13, digN] <;> omega
  | [a, b, c], _, _ =>
    have := hl a (by simp); have := hl b (by simp); have := hl c (by simp)
    have : k = 0 ∨ k = 1 ∨ k = 2 := by simp at hk; omega
    rcases this with rfl | rfl | rfl <;> simp [encF, goN13, digN] <;> omega
/-- What is offered from number m on, up to the k-th one. -/
def offDig (r m x : Nat) : Nat → List (Nat × Nat)
  | 0 => []
  | k + 1 => offDig r m x k ++ [(goN13 m k r, x + (zabs ((digN m k : Nat) - (r : Nat))).toNat)]
theorem offDig_mem {r m x t z : Nat} : ∀ {n : Nat}, (t, z) ∈ offDig r m x n ↔ ∃ k, k < n ∧ t = goN13 m k r ∧ z = x + (zabs ((digN m k : Nat) - (r : Nat))).toNat
  | 0 => by simp [offDig]
  | n + 1 => by
    rw [offDig, List.mem_append, offDig_mem (n := n), List.mem_singleton, Prod.mk.injEq]
    constructor
    · rintro (⟨k, hk, e⟩ | e)
      · exact ⟨k, by omega, e⟩
      · exact ⟨n, by omega, e⟩
    · rintro ⟨k, hk, e⟩
      by_cases h : k = n
      · subst h; exact .inr e
      · exact .inl ⟨k, by omega, e⟩
/-- .. from all numbers below M. -/
def offAll (N : Nat → Option Nat) (r n : Nat) : Nat → List (Nat × Nat)
  | 0 => []
  | m + 1 => offAll N r n m ++ (match N m with | none => [] | some x => offDig r m x n)
theorem offAll_mem {N : Nat → Option Nat} {r n t z : Nat} : ∀ {M : Nat}, (t, z) ∈ offAll N r n M ↔ ∃ m x, m < M ∧ N m = some x ∧ (t, z) ∈ offDig r m x n
  | 0 => by simp [offAll]
  | M + 1 => by
    unfold offAll
    rw [List.mem_append, offAll_mem (M := M)]
    constructor
    · rintro (⟨m, x, hm, e⟩ | e)
      · exact ⟨m, x, by omega, e⟩
      · cases hN : N M with
        | none => rw [hN] at e; cases e
        | some x => rw [hN] at e; exact ⟨M, x, by omega, hN, e⟩
    · rintro ⟨m, x, hm, hN, e⟩
      by_cases h : m = M
      · subst h; right; rw [hN]; exact e
      · exact .inl ⟨m, x, by omega, hN, e⟩
theorem offAll_none {N : Nat → Option Nat} {r n m : Nat} (h : N m = none) : offAll N r n (m+1) = offAll N r n m := by rw [offAll, h]; simp
theorem offAll_some {N : Nat → Option Nat} {r n m x : Nat} (h : N m = some x) : offAll N r n (m+1) = offAll N r n m ++ offDig r m x n := by rw [offAll, h]
/-- T tells of each number the least that it can be come to at. -/
def NTab (s asks : List Int) (i : Nat) (T : Nat → Option Nat) : Prop :=
  (∀ m x, m < 13 ^ s.length → T m = some x → ∃ u, Sent s asks i u x ∧ encF u = m) ∧ ∀ u x, Sent s asks i u x → ∃ y, T (encF u) = some y ∧ (y : Int) ≤ x
theorem ntab_start (s asks : List Int) {T : Nat → Option Nat} (h0 : T (encF s) = some 0) (h : ∀ m, m < 13 ^ s.length → m ≠ encF s → T m = none) : NTab s asks 0 T := by
  refine ⟨fun m x hm e => ?_, fun u x e => ?_⟩
  · by_cases hu : m = encF s
    · subst hu
      rw [h0] at e
      obtain rfl := Option.some.inj e
      exact ⟨s, .start, rfl⟩
    · rw [h m hm hu] at e; cases e
  · generalize hk : 0 = k at e
    cases e with
    | start => exact ⟨0, h0, Int.le_refl _⟩
    | go _ _ _ => cases hk
theorem ntab_succ {s asks : List Int} (h1 : 1 ≤ s.length) (h3 : s.length ≤ 3) (hs : onLine s) (ha : onLine asks) {i : Nat} (hi : i < asks.length) {r : Nat} (hr : (r : Int) = asks[i]?.getD 0) {N T : Nat → Option Nat} (h : NTab s asks i N) (hm : MadeN (offAll N r s.length (13 ^ s.length)) T (13 ^ s.length)) : NTab s asks (i+1) T := by
  have hr12 := ask_in ha hi
  have hline : ∀ {u : List Int} {c : Int}, Sent s asks i u c → onLine u := fun hu => (hu.goes.facts hs ha).2.1
  refine ⟨fun m z hmR e => ?_, fun u' x' hu' => ?_⟩
  · obtain ⟨m0, x, hm0, hN, hd⟩ := offAll_mem.1 (hm.1 m z hmR e)
    obtain ⟨k, hk, rfl, rfl⟩ := offDig_mem.1 hd
    obtain ⟨u, hu, rfl⟩ := h.1 m0 x hm0 hN
    have hl := hu.length
    have hd2 := enc_dig (u := u) (by omega) (by omega) (hline hu) (k := k) (by omega)
    have hs2 := enc_set (u := u) (by omega) (by omega) (hline hu) (k := k) (by omega) (r := r)
    have hgo := Sent.go hu hi (w := u.length - 1 - k) (by omega)
    rw [← hr, ← hd2] at hgo
    refine ⟨_, ?_, hs2.symm⟩
    have hz : ((x + (zabs ((digN (encF u) k : Nat) - (r : Nat))).toNat : Nat) : Int) = x + zabs ((digN (encF u) k : Nat) - (r : Nat)) := by
      have : 0 ≤ zabs ((digN (encF u) k : Nat) - (r : Nat) : Int) := by unfold zabs; omega
      omega
    rw [hz]
    exact hgo
  · generalize hk1 : i + 1 = k1 at hu'
    cases hu' with
    | start => cases hk1
    | @go i2 u x w hu hi2 hw =>
      obtain rfl : i2 = i := by omega
      have hl := hu.length
      obtain ⟨y, hy, hle⟩ := h.2 u x hu
      have hk : u.length - 1 - (u.length - 1 - w) = w := by omega
      have hd2 := enc_dig (u := u) (by omega) (by omega) (hline hu) (k := u.length - 1 - w) (by omega)
      have hs2 := enc_set (u := u) (by omega) (by omega) (hline hu) (k := u.length - 1 - w) (by omega) (r := r)
      rw [hk] at hd2 hs2
      have hlt := enc_lt (u := u) (by omega) (by omega) (hline hu)
      rw [hl] at hlt
      obtain ⟨z, hz, hzle⟩ := hm.2 (goN13 (encF u) (u.length - 1 - w) r) (y + (zabs ((digN (encF u) (u.length - 1 - w) : Nat) - (r : Nat))).toNat) (offAll_mem.2 ⟨encF u, y, hlt, hy, offDig_mem.2 ⟨u.length - 1 - w, by omega, rfl, rfl⟩⟩)
      rw [hs2, hr] at hz
      refine ⟨z, hz, ?_⟩
      rw [hd2, hr] at hzle
      have : 0 ≤ zabs (u[w]?.getD 0 - asks[i2]?.getD 0) := by unfold zabs; omega
      omega
theorem nsent_ex {s asks : List Int} (h0 : 0 < s.length) : ∀ n, n ≤ asks.length → ∃ u c, Sent s asks n u c
  | 0, _ => ⟨s, 0, .start⟩
  | n + 1, hn => by
    obtain ⟨u, c, h⟩ := nsent_ex (asks := asks) h0 n (by omega)
    exact ⟨_, _, .go h (by omega) (w := 0) (by rw [h.length]; exact h0)⟩
theorem nsent_most {s asks : List Int} (hs : onLine s) (ha : onLine asks) {n : Nat} {u : List Int} {c : Int} (h : Sent s asks n u c) : c ≤ 12 * n := by
  induction h with
  | start => omega
  | @go n u c w h hn hw ih =>
    have h1 := (h.goes.facts hs ha).2.1 _ (get_mem hw)
    have h2 := ask_in ha hn
    unfold zabs; omega
theorem ntab_lt {s asks : List Int} (hs : onLine s) (ha : onLine asks) (h20 : asks.length ≤ 20) {n : Nat} (hn : n ≤ asks.length) {T : Nat → Option Nat} (h : NTab s asks n T) : ∀ m x, m < 13 ^ s.length → T m = some x → x ≤ 240 := fun m x hm e => by
  obtain ⟨u, hu, _⟩ := h.1 m x hm e
  have := nsent_most hs ha hu
  omega
theorem ntab_least {s asks : List Int} (h1 : 1 ≤ s.length) (h3 : s.length ≤ 3) (hs : onLine s) (ha : onLine asks) {T : Nat → Option Nat} (h : NTab s asks asks.length T) : ∃ x, lowN T (13 ^ s.length) = some x ∧ LeastGo s asks x := by
  obtain ⟨u, c, hu⟩ := nsent_ex (s := s) (asks := asks) (by omega) _ (Nat.le_refl _)
  have lt : ∀ {u : List Int} {c : Int}, Sent s asks asks.length u c → encF u < 13 ^ s.length := fun {u c} hu => by
    have hl := hu.length
    have := enc_lt (u := u) (by omega) (by omega) (hu.goes.facts hs ha).2.1
    rwa [hl] at this
  obtain ⟨y, hy, _⟩ := h.2 u c hu
  obtain ⟨x, hx, _⟩ := (lowN_facts T (13 ^ s.length)).2 _ y (lt hu) hy
  refine ⟨x, hx, ?_, fun y e he => ?_⟩
  · obtain ⟨m, hm, hT⟩ := (lowN_facts T _).1 x hx
    obtain ⟨u, hu, _⟩ := h.1 m x hm hT
    exact ⟨u, hu.goes⟩
  · obtain ⟨u2, hu2, _⟩ := goes_sent he
    obtain ⟨z, hz, hle⟩ := h.2 _ _ hu2
    obtain ⟨x2, hx2, hle2⟩ := (lowN_facts T (13 ^ s.length)).2 _ z (lt hu2) hz
    rw [hx] at hx2
    cases hx2
    omega
theorem go13_facts {n m k r : Nat} (h1 : 1 ≤ n) (h3 : n ≤ 3) (hk : k < n) (hm : m < 13 ^ n) (hr : r ≤ 12) : goN13 m k r < 13 ^ n ∧ digN m k ≤ 12 ∧ ((goN13 m k r : Nat) : Int) = (m : Int) + ((r : Int) - ((digN m k : Nat) : Int)) * ((13 ^ k : Nat) : Int) ∧ -2028 ≤ ((r : Int) - ((digN m k : Nat) : Int)) * ((13 ^ k : Nat) : Int) ∧ ((r : Int) - ((digN m k : Nat) : Int)) * ((13 ^ k : Nat) : Int) ≤ 2028 := by
  have : (n = 1 ∧ k = 0) ∨ (n = 2 ∧ k = 0) ∨ (n = 2 ∧ k = 1) ∨ (n = 3 ∧ k = 0) ∨ (n = 3 ∧ k = 1) ∨ (n = 3 ∧ k = 2) := by omega
  rcases this with ⟨rfl, rfl⟩ | ⟨rfl, rfl⟩ | ⟨rfl, rfl⟩ | ⟨rfl, rfl⟩ | ⟨rfl, rfl⟩ | ⟨rfl, rfl⟩ <;> simp only [goN13, digN, Nat.reducePow] at * <;> omega
theorem pow13 {k : Nat} (hk : k ≤ 3) : 1 ≤ 13 ^ k ∧ 13 ^ k ≤ 2197 ∧ (k ≤ 2 → 13 ^ k ≤ 169) ∧ 13 ^ (k+1) = 13 ^ k * 13 := by
  have : k = 0 ∨ k = 1 ∨ k = 2 ∨ k = 3 := by omega
  rcases this with rfl | rfl | rfl | rfl <;> simp
theorem enc_take {s : List Int} (h3 : s.length ≤ 3) (hl : onLine s) {k : Nat} (hk : k < s.length) : encF (s.take (k+1)) = encF (s.take k) * 13 + (s[k]?.getD 0).toNat ∧ encF (s.take k) ≤ 168 := by
  match s, h3 with
  | [], _ => simp at hk
  | [a], _ =>
    obtain rfl : k = 0 := by simp at hk; omega
    have := hl a (by simp); simp [encF]
  | [a, b], _ =>
    have := hl a (by simp); have := hl b (by simp)
    have : k = 0 ∨ k = 1 := by simp at hk; omega
    rcases this with rfl | rfl <;> simp [encF] <;> omega
  | [a, b, c], _ =>
    have := hl a (by simp); have := hl b (by simp); have := hl c (by simp)
    have : k = 0 ∨ k = 1 ∨ k = 2 := by simp at hk; omega
    rcases this with rfl | rfl | rfl <;> simp [encF] <;> omega
end Go.Proofs.YtnjfmlojbaigjaaDoor
