/- Lists alone, for chapter 14: to go from both sides is no more than so many times the least as there are servers; nobody goes less far than the least. -/
import Derived.Test.YtnjfmlojbaigjaaServeL
namespace Go.Proofs.Ytnjfmlojbaigjaa

def onLine (x : List Int) : Prop := ∀ p, p ∈ x → 0 ≤ p ∧ p ≤ 12
theorem phi_downs {k : Nat} (hk : 1 ≤ k ∧ k ≤ 3) {r : Int} {z y : List Int} (hr : r ∈ y) (hr0 : 0 ≤ r) : ∀ (d : Nat) (a : Int), (∀ b, b ∈ z → a ≤ b) → a ≤ 12 → a = r + d → phi k (r :: z) y + d ≤ phi k (a :: z) y
  | 0, a, _, _, h => by
    have : a = r := by omega
    subst this
    omega
  | d + 1, a, hz, ha, h => by
    have h1 := phi_down hk hz hr hr0 (by omega) ha
    have h2 := phi_downs hk hr hr0 d (a - 1) (fun b hb => by have := hz b hb; omega) (by omega) (by omega)
    omega
theorem phi_ups {k : Nat} (hk : 1 ≤ k ∧ k ≤ 3) {r : Int} {z y : List Int} (hlen : z.length + 1 = k) (hy : y.length = k) (hr : r ∈ y) (hr0 : r ≤ 12) : ∀ (d : Nat) (a : Int), (∀ b, b ∈ z → b ≤ a) → 0 ≤ a → r = a + d → phi k (r :: z) y + d ≤ phi k (a :: z) y
  | 0, a, _, _, h => by
    have : a = r := by omega
    subst this
    omega
  | d + 1, a, hz, ha, h => by
    have h1 := phi_up hk (by rw [List.length_cons]; exact hlen) hy hz hr hr0 (by omega) ha
    have h2 := phi_ups hk hlen hy hr hr0 d (a + 1) (fun b hb => by have := hz b hb; omega) (by omega) (by omega)
    omega
theorem phi_boths {k : Nat} (hk : 1 ≤ k ∧ k ≤ 3) {r : Int} {z y : List Int} (hlen : z.length + 2 = k) (hr : r ∈ y) : ∀ (d : Nat) (a b : Int), (∀ c, c ∈ z → c ≤ a ∨ b ≤ c) → 0 ≤ a → b ≤ 12 → a + d ≤ r → r ≤ b - d → phi k ((a + d) :: (b - d) :: z) y + 2 * d ≤ phi k (a :: b :: z) y
  | 0, a, b, _, _, _, _, _ => by
    rw [show a + ((0 : Nat) : Int) = a by omega, show b - ((0 : Nat) : Int) = b by omega]
    omega
  | d + 1, a, b, hz, ha, hb, h1, h2 => by
    have s := phi_both hk (by rw [List.length_cons, List.length_cons]; omega) hz hr ha hb (by omega) (by omega)
    have t := phi_boths hk hlen hr d (a + 1) (b - 1) (fun c hc => by have := hz c hc; omega) (by omega) (by omega) (by omega) (by omega)
    rw [show a + 1 + (d : Int) = a + ((d + 1 : Nat) : Int) by omega, show b - 1 - (d : Int) = b - ((d + 1 : Nat) : Int) by omega] at t
    omega

/-- One ask, from both sides. -/
inductive DStep (x : List Int) (r : Int) : List Int → Int → Prop
  | there {x'} : r ∈ x → x'.Perm x → DStep x r x' 0
  | low {a x'} : a ∈ x → (∀ z, z ∈ x → a ≤ z) → r < a → x'.Perm (r :: x.erase a) → DStep x r x' (a - r)
  | high {a x'} : a ∈ x → (∀ z, z ∈ x → z ≤ a) → a < r → x'.Perm (r :: x.erase a) → DStep x r x' (r - a)
  | both {a b d x'} : a ∈ x → b ∈ x → a < r → r < b → (∀ z, z ∈ x → z ≤ a ∨ b ≤ z) → d = min (r - a) (b - r) → x'.Perm ((a + d) :: (b - d) :: (x.erase a).erase b) → DStep x r x' (2 * d)
theorem perm_front {x : List Int} {a : Int} (h : a ∈ x) : x.Perm (a :: x.erase a) := List.perm_cons_erase h
theorem perm_two {x : List Int} {a b : Int} (ha : a ∈ x) (hb : b ∈ x) (hne : a ≠ b) : x.Perm (a :: b :: (x.erase a).erase b) :=
  (List.perm_cons_erase ha).trans ((List.perm_cons_erase ((List.mem_erase_of_ne (Ne.symm hne)).2 hb)).cons a)
theorem DStep.facts {x x' : List Int} {r c : Int} (h : DStep x r x' c) (hx : onLine x) (hr : 0 ≤ r ∧ r ≤ 12) : x'.length = x.length ∧ onLine x' ∧ 0 ≤ c ∧ r ∈ x' := by
  cases h with
  | there h hp => exact ⟨hp.length_eq, fun p hq => hx p (hp.mem_iff.1 hq), Int.le_refl _, hp.mem_iff.2 h⟩
  | @low a _ ha hall hra hp =>
    refine ⟨by rw [hp.length_eq, ← (perm_front ha).length_eq.symm]; simp, fun p hq => ?_, by omega, hp.mem_iff.2 (by simp)⟩
    rcases List.mem_cons.1 (hp.mem_iff.1 hq) with rfl | hq
    · exact hr
    · exact hx p (List.mem_of_mem_erase hq)
  | @high a _ ha hall hra hp =>
    refine ⟨by rw [hp.length_eq, ← (perm_front ha).length_eq.symm]; simp, fun p hq => ?_, by omega, hp.mem_iff.2 (by simp)⟩
    rcases List.mem_cons.1 (hp.mem_iff.1 hq) with rfl | hq
    · exact hr
    · exact hx p (List.mem_of_mem_erase hq)
  | @both a b d _ ha hb har hrb hall hd hp =>
    have h0 := hx a ha
    have h1 := hx b hb
    refine ⟨by rw [hp.length_eq, ← (perm_two ha hb (by omega)).length_eq.symm]; simp, fun p hq => ?_, by omega, hp.mem_iff.2 ?_⟩
    · rcases List.mem_cons.1 (hp.mem_iff.1 hq) with rfl | hq
      · omega
      · rcases List.mem_cons.1 hq with rfl | hq
        · omega
        · exact hx p (List.mem_of_mem_erase (List.mem_of_mem_erase hq))
    · rcases (by omega : r = a + d ∨ r = b - d) with e | e <;> rw [e] <;> simp
theorem phi_double {k : Nat} (hk : 1 ≤ k ∧ k ≤ 3) {x x' y : List Int} {r c : Int} (hx : onLine x) (hlx : x.length = k) (hly : y.length = k) (hr : r ∈ y) (hr2 : 0 ≤ r ∧ r ≤ 12) (h : DStep x r x' c) : phi k x' y + c ≤ phi k x y := by
  cases h with
  | there _ hp => rw [phi_perm hp]; omega
  | @low a _ ha hall hra hp =>
    have hp1 := perm_front ha
    rw [phi_perm hp, phi_perm hp1]
    have h0 := hx a ha
    have := phi_downs hk (z := x.erase a) hr hr2.1 (a - r).toNat a (fun b hb => hall b (List.mem_of_mem_erase hb)) h0.2 (by omega)
    omega
  | @high a _ ha hall hra hp =>
    have hp1 := perm_front ha
    rw [phi_perm hp, phi_perm hp1]
    have h0 := hx a ha
    have hl := hp1.length_eq
    rw [List.length_cons] at hl
    have := phi_ups hk (z := x.erase a) (by omega) hly hr hr2.2 (r - a).toNat a (fun b hb => hall b (List.mem_of_mem_erase hb)) h0.1 (by omega)
    omega
  | @both a b d _ ha hb har hrb hall hd hp =>
    have hp1 := perm_two ha hb (by omega)
    rw [phi_perm hp, phi_perm hp1]
    have h0 := hx a ha
    have h1 := hx b hb
    have hl := hp1.length_eq
    rw [List.length_cons, List.length_cons] at hl
    obtain ⟨n, rfl⟩ : ∃ n : Nat, d = n := ⟨d.toNat, by omega⟩
    have := phi_boths hk (z := (x.erase a).erase b) (by omega) hr n a b (fun c hc => hall c (List.mem_of_mem_erase (List.mem_of_mem_erase hc))) h0.1 h1.2 (by omega) (by omega)
    omega

/-- Somebody is sent, ask by ask. -/
inductive Goes (s asks : List Int) : Nat → List Int → Int → Prop
  | start : Goes s asks 0 s 0
  | go {n y c q y'} : Goes s asks n y c → n < asks.length → q ∈ y → y'.Perm ((asks[n]?.getD 0) :: y.erase q) → Goes s asks (n+1) y' (c + zabs (q - (asks[n]?.getD 0)))
theorem ask_in {asks : List Int} (h : onLine asks) {n : Nat} (hn : n < asks.length) : 0 ≤ asks[n]?.getD 0 ∧ asks[n]?.getD 0 ≤ 12 := h _ (by rw [List.getElem?_eq_getElem hn]; exact List.getElem_mem hn)
theorem Goes.facts {s asks : List Int} (hs : onLine s) (ha : onLine asks) {n : Nat} {y : List Int} {c : Int} (h : Goes s asks n y c) : y.length = s.length ∧ onLine y ∧ 0 ≤ c := by
  induction h with
  | start => exact ⟨rfl, hs, Int.le_refl _⟩
  | @go n y c q y' _ hn hq hp ih =>
    refine ⟨by rw [hp.length_eq, ← ih.1, (perm_front hq).length_eq]; simp, fun p hm => ?_, by have := ih.2.2; unfold zabs; omega⟩
    rcases List.mem_cons.1 (hp.mem_iff.1 hm) with rfl | hm
    · exact ask_in ha hn
    · exact ih.2.1 p (List.mem_of_mem_erase hm)
/-- From both sides, ask by ask. -/
inductive Both (s asks : List Int) : Nat → List Int → Int → Prop
  | start {x} : x.Perm s → Both s asks 0 x 0
  | go {n x c x' d} : Both s asks n x c → n < asks.length → DStep x (asks[n]?.getD 0) x' d → Both s asks (n+1) x' (c + d)
theorem Both.facts {s asks : List Int} (hs : onLine s) (ha : onLine asks) {n : Nat} {x : List Int} {c : Int} (h : Both s asks n x c) : x.length = s.length ∧ onLine x ∧ 0 ≤ c := by
  induction h with
  | start hp => exact ⟨hp.length_eq, fun p hm => hs p (hp.mem_iff.1 hm), Int.le_refl _⟩
  | go _ hn hd ih =>
    have f := hd.facts ih.2.1 (ask_in ha hn)
    exact ⟨f.1.trans ih.1, f.2.1, by have := ih.2.2; have := f.2.2.1; omega⟩
/-- Chrobak, Karloff, Payne, Vishwanathan. -/
theorem serve_double {s asks : List Int} (hk : 1 ≤ s.length ∧ s.length ≤ 3) (hs : onLine s) (ha : onLine asks) : ∀ n, ∀ {x y : List Int} {c e : Int}, Both s asks n x c → Goes s asks n y e → c + phi s.length x y ≤ s.length * e + phi s.length s s
  | 0, x, y, c, e, hb, hg => by
    cases hg
    cases hb with
    | start hp => rw [phi_perm hp]; simp
  | n + 1, x', y', c', e', hb, hg => by
    cases hb with
    | @go _ x c _ d hb hn hd =>
      cases hg with
      | @go _ y e q _ hg _ hq hp =>
        have ih := serve_double hk hs ha n hb hg
        have fb := hb.facts hs ha
        have fg := hg.facts hs ha
        have fy := (Goes.go hg hn hq hp).facts hs ha
        have hr := ask_in ha hn
        have h1 := phi_goes (k := s.length) (by omega) x hq (fg.2.1 q hq) hr
        have h2 : phi s.length x y' = phi s.length x ((asks[n]?.getD 0) :: y.erase q) := by
          unfold phi
          exact sumZ_congr fun t _ => by rw [cn_perm hp]
        have h3 := phi_double (k := s.length) hk fb.2.1 fb.1 fy.1 (hp.mem_iff.2 (by simp)) hr hd
        rw [Int.mul_add]
        omega

/-- How far two sets of servers are from each other. -/
def wd (x y : List Int) : Int := sumZ (fun t => zabs (cn x t - cn y t)) line
theorem wd_tri (x y z : List Int) : wd x z ≤ wd x y + wd y z := by
  unfold wd
  rw [← sumZ_add]
  exact sumZ_le fun t _ => by unfold zabs; omega
theorem wd_nonneg (x y : List Int) : 0 ≤ wd x y := by
  unfold wd
  have : sumZ (fun _ => 0) line ≤ sumZ (fun t => zabs (cn x t - cn y t)) line := sumZ_le fun t _ => by unfold zabs; omega
  have e : sumZ (fun _ => 0) line = 0 := by decide
  omega
theorem wd_perm {x x' : List Int} (h : x.Perm x') : wd x x' = 0 := by
  unfold wd
  rw [sumZ_congr (g := fun _ => 0) fun t _ => by rw [cn_perm h, Int.sub_self]; rfl]
  decide
theorem wd_move {y z : List Int} {q r : Int} (hp1 : y.Perm (q :: z)) {y' : List Int} (hp2 : y'.Perm (r :: z)) (hq : 0 ≤ q ∧ q ≤ 12) (hr : 0 ≤ r ∧ r ≤ 12) : wd y y' = zabs (q - r) := by
  rw [← gap hq hr]
  unfold wd
  refine sumZ_congr fun t _ => ?_
  rw [cn_perm hp1, cn_perm hp2, cn_cons, cn_cons]
  congr 1; omega
/-- A step from both sides goes no less far than both sets are apart. -/
theorem wd_step {x x' : List Int} {r c : Int} (hx : onLine x) (hr : 0 ≤ r ∧ r ≤ 12) (h : DStep x r x' c) : wd x x' ≤ c := by
  cases h with
  | there _ hp => rw [wd_perm hp.symm]; exact Int.le_refl _
  | @low a _ ha hall hra hp =>
    rw [wd_move (perm_front ha) hp (hx a ha) hr]
    unfold zabs; omega
  | @high a _ ha hall hra hp =>
    rw [wd_move (perm_front ha) hp (hx a ha) hr]
    unfold zabs; omega
  | @both a b d _ ha hb har hrb hall hd hp =>
    have h0 := hx a ha
    have h1 := hx b hb
    have t := wd_tri x ((a + d) :: b :: (x.erase a).erase b) x'
    have e1 := wd_move (perm_two ha hb (by omega)) (List.Perm.refl ((a + d) :: b :: (x.erase a).erase b)) h0 (by omega)
    have e2 := wd_move (y := (a + d) :: b :: (x.erase a).erase b) (z := (a + d) :: (x.erase a).erase b) (List.Perm.swap b (a + d) _) (y' := x') (r := b - d) (hp.trans (List.Perm.swap (b - d) (a + d) _)) h1 (by omega)
    rw [e1, e2] at t
    unfold zabs at t
    omega
/-- Who of the others is sent: the one that stands where he stands in their order. -/
theorem send_one {x y : List Int} {r : Int} (hlen : y.length = x.length) (hy : onLine y) (hr : r ∈ x) : ∃ q, q ∈ y ∧ cn y (q - 1) ≤ cn x (r - 1) ∧ cn x (r - 1) + 1 ≤ cn y q := by
  have hA : cn x (r - 1) + 1 ≤ y.length := by
    have h1 := cn_jump (s := r - 1) (t := r) hr (by omega) (by omega)
    have h2 := cn_le x r
    omega
  have h12 : cn y 12 = y.length := cn_all fun z hz => (hy z hz).2
  have h0 : cn y (-1) = 0 := cn_none fun z hz => by have := hy z hz; omega
  have hA0 := cn_nonneg x (r - 1)
  generalize cn x (r - 1) = A at *
  -- the least place up to which there are enough
  have key : ∀ n : Nat, A + 1 ≤ cn y ((n : Int) - 1) → ∃ q : Int, cn y (q - 1) ≤ A ∧ A + 1 ≤ cn y q := by
    intro n
    induction n with
    | zero => intro h; rw [show ((0 : Nat) : Int) - 1 = -1 by omega, h0] at h; omega
    | succ n ih =>
      intro h
      by_cases hc : A + 1 ≤ cn y ((n : Int) - 1)
      · exact ih hc
      · exact ⟨((n + 1 : Nat) : Int) - 1, by rw [show ((n + 1 : Nat) : Int) - 1 - 1 = (n : Int) - 1 by omega]; omega, h⟩
  obtain ⟨q, h1, h2⟩ := key 13 (by rw [show ((13 : Nat) : Int) - 1 = 12 by omega, h12]; exact hA)
  refine ⟨q, ?_, h1, h2⟩
  apply Classical.byContradiction
  intro hq
  have := cn_same (s := q - 1) (t := q) (x := y) (by omega) fun z hz => by
    have : z ≠ q := fun e => hq (e ▸ hz)
    omega
  omega
theorem send_less {x y : List Int} {q r : Int} (hr : r ∈ x) (hq : q ∈ y) (hq2 : 0 ≤ q ∧ q ≤ 12) (hr2 : 0 ≤ r ∧ r ≤ 12) (h1 : cn y (q - 1) ≤ cn x (r - 1)) (h2 : cn x (r - 1) + 1 ≤ cn y q) : wd (r :: y.erase q) x + zabs (q - r) ≤ wd y x := by
  rw [← gap hq2 hr2]
  unfold wd
  rw [← sumZ_add]
  refine sumZ_le fun t _ => ?_
  rw [cn_cons]
  have hc := cn_erase hq t
  by_cases ha : q ≤ t
  · by_cases hb : r ≤ t
    · have e1 : at_le q t = 1 := by unfold at_le; rw [if_pos ha]
      have e2 : at_le r t = 1 := by unfold at_le; rw [if_pos hb]
      rw [e1] at hc
      rw [e1, e2]; unfold zabs; omega
    · -- q stands ahead of t, r behind it
      have e1 : at_le q t = 1 := by unfold at_le; rw [if_pos ha]
      have e2 : at_le r t = 0 := by unfold at_le; rw [if_neg hb]
      have m1 := cn_mono ha y
      have m2 := cn_mono (show t ≤ r - 1 by omega) x
      rw [e1] at hc
      rw [e1, e2]; unfold zabs; omega
  · by_cases hb : r ≤ t
    · have e1 : at_le q t = 0 := by unfold at_le; rw [if_neg ha]
      have e2 : at_le r t = 1 := by unfold at_le; rw [if_pos hb]
      have m1 := cn_mono (show t ≤ q - 1 by omega) y
      have m2 := cn_jump (s := r - 1) (t := t) hr (by omega) hb
      rw [e1] at hc
      rw [e1, e2]; unfold zabs; omega
    · have e1 : at_le q t = 0 := by unfold at_le; rw [if_neg ha]
      have e2 : at_le r t = 0 := by unfold at_le; rw [if_neg hb]
      rw [e1] at hc
      rw [e1, e2]; unfold zabs; omega
/-- Who goes from both sides goes no less far than somebody who is sent. -/
theorem goes_both {s asks : List Int} (hs : onLine s) (ha : onLine asks) {n : Nat} {x : List Int} {c : Int} (h : Both s asks n x c) : ∃ y e, Goes s asks n y e ∧ e + wd y x ≤ c := by
  induction h with
  | start hp => exact ⟨s, 0, .start, by rw [wd_perm hp.symm]; omega⟩
  | @go n x c x' d hb hn hd ih =>
    obtain ⟨y, e, hg, hle⟩ := ih
    have fb := hb.facts hs ha
    have fg := hg.facts hs ha
    have hr := ask_in ha hn
    have fd := hd.facts fb.2.1 hr
    have h1 := wd_tri y x x'
    have h2 := wd_step fb.2.1 hr hd
    obtain ⟨q, hq, g1, g2⟩ := send_one (x := x') (y := y) (by rw [fd.1, fb.1, fg.1]) fg.2.1 fd.2.2.2
    have h3 := send_less fd.2.2.2 hq (fg.2.1 q hq) hr g1 g2
    exact ⟨_, _, .go hg hn hq (List.Perm.refl _), by omega⟩

/-- x is the least that all could go. -/
structure LeastGo (s asks : List Int) (x : Int) : Prop where
  some : ∃ y, Goes s asks asks.length y x
  all : ∀ y e, Goes s asks asks.length y e → x ≤ e
theorem leastGo_unique {s asks : List Int} {x y : Int} (hx : LeastGo s asks x) (hy : LeastGo s asks y) : x = y := by
  obtain ⟨A, a⟩ := hx.some
  obtain ⟨B, b⟩ := hy.some
  have := hx.all B y b
  have := hy.all A x a
  omega
theorem leastGo_both {s asks : List Int} (hs : onLine s) (ha : onLine asks) {x : Int} (hx : LeastGo s asks x) {z : List Int} {c : Int} (hb : Both s asks asks.length z c) : x ≤ c := by
  obtain ⟨y, e, hg, hle⟩ := goes_both hs ha hb
  have := hx.all y e hg
  have := wd_nonneg y z
  omega
theorem leastGo_double {s asks : List Int} (hk : 1 ≤ s.length ∧ s.length ≤ 3) (hs : onLine s) (ha : onLine asks) {x : Int} (hx : LeastGo s asks x) {z : List Int} {c : Int} (hb : Both s asks asks.length z c) : c ≤ s.length * x + phi s.length s s := by
  obtain ⟨y, hg⟩ := hx.some
  have := serve_double hk hs ha asks.length hb hg
  have := phi_nonneg (k := s.length) hk (x := z) (y := y) (hb.facts hs ha).1
  omega
/-- How far they were apart at first, two by two. -/
theorem phi_self (k : Int) (x : List Int) : phi k x x = sumZ (fun t => cn x t * (k - cn x t)) line := by
  unfold phi
  refine sumZ_congr fun t _ => ?_
  unfold gp
  rw [Int.sub_self, show zabs 0 = 0 from rfl, Int.mul_zero, Int.zero_add]
theorem apart_one {a : Int} : phi 1 [a] [a] = 0 := by
  rw [phi_self, sumZ_congr (g := fun _ => 0) fun t _ => by
    rw [cn_cons, cn_nil]; unfold at_le; split <;> rfl]
  decide
theorem apart_two {a b : Int} (ha : 0 ≤ a ∧ a ≤ 12) (hb : 0 ≤ b ∧ b ≤ 12) : phi 2 [a, b] [a, b] = zabs (b - a) := by
  rw [phi_self, ← gap hb ha]
  refine sumZ_congr fun t _ => ?_
  rw [cn_cons, cn_cons, cn_nil]
  unfold at_le
  split <;> split <;> rfl
theorem apart_three {a b c : Int} (ha : 0 ≤ a ∧ a ≤ 12) (hb : 0 ≤ b ∧ b ≤ 12) (hc : 0 ≤ c ∧ c ≤ 12) : phi 3 [a, b, c] [a, b, c] = zabs (b - a) + (zabs (c - a) + zabs (c - b)) := by
  rw [phi_self, ← gap hb ha, ← gap hc ha, ← gap hc hb, ← sumZ_add, ← sumZ_add]
  refine sumZ_congr fun t _ => ?_
  rw [cn_cons, cn_cons, cn_cons, cn_nil]
  unfold at_le
  split <;> split <;> split <;> rfl
end Go.Proofs.Ytnjfmlojbaigjaa
