/- Lists alone, for chapter 14: from both sides there is one way; in a mirror it is the same; the least from state to state; who is alone. -/
import Derived.Test.YtnjfmlojbaigjaaServeM
namespace Go.Proofs.Ytnjfmlojbaigjaa

/-- From both sides there is one way. -/
theorem dstep_perm {x y x' : List Int} {r c : Int} (hp : x.Perm y) (h : DStep x r x' c) : DStep y r x' c := by
  cases h with
  | there h hq => exact .there (hp.mem_iff.1 h) (hq.trans hp)
  | low ha hall hra hq => exact .low (hp.mem_iff.1 ha) (fun z hz => hall z (hp.mem_iff.2 hz)) hra (hq.trans ((hp.erase _).cons _))
  | high ha hall hra hq => exact .high (hp.mem_iff.1 ha) (fun z hz => hall z (hp.mem_iff.2 hz)) hra (hq.trans ((hp.erase _).cons _))
  | both ha hb har hrb hall hd hq => exact .both (hp.mem_iff.1 ha) (hp.mem_iff.1 hb) har hrb (fun z hz => hall z (hp.mem_iff.2 hz)) hd (hq.trans ((((hp.erase _).erase _).cons _).cons _))
theorem dstep_unique {x x1 x2 : List Int} {r c1 c2 : Int} (h1 : DStep x r x1 c1) (h2 : DStep x r x2 c2) : x1.Perm x2 ∧ c1 = c2 := by
  cases h1 with
  | there h hq =>
    cases h2 with
    | there _ hq2 => exact ⟨hq.trans hq2.symm, rfl⟩
    | low ha hall hra _ => have := hall r h; omega
    | high ha hall hra _ => have := hall r h; omega
    | both ha hb har hrb hall _ _ => have := hall r h; omega
  | @low a _ ha hall hra hq =>
    cases h2 with
    | there h _ => have := hall r h; omega
    | @low b _ hb hall2 hrb hq2 =>
      have : a = b := by have := hall b hb; have := hall2 a ha; omega
      subst this
      exact ⟨hq.trans hq2.symm, rfl⟩
    | high hb hall2 hrb _ => have := hall2 a ha; omega
    | both hb _ hbr _ _ _ _ => have := hall _ hb; omega
  | @high a _ ha hall hra hq =>
    cases h2 with
    | there h _ => have := hall r h; omega
    | low hb hall2 hrb _ => have := hall2 a ha; omega
    | @high b _ hb hall2 hrb hq2 =>
      have : a = b := by have := hall b hb; have := hall2 a ha; omega
      subst this
      exact ⟨hq.trans hq2.symm, rfl⟩
    | both _ hb _ hbr _ _ _ => have := hall _ hb; omega
  | @both a b d _ ha hb har hrb hall hd hq =>
    cases h2 with
    | there h _ => have := hall r h; omega
    | low hc hall2 hrc _ => have := hall2 a ha; omega
    | high hc hall2 hrc _ => have := hall2 b hb; omega
    | @both a2 b2 d2 _ ha2 hb2 har2 hrb2 hall2 hd2 hq2 =>
      have e1 : a = a2 := by have := hall a2 ha2; have := hall2 a ha; omega
      have e2 : b = b2 := by have := hall b2 hb2; have := hall2 b hb; omega
      subst e1 e2
      have e3 : d = d2 := by omega
      subst e3
      exact ⟨hq.trans hq2.symm, rfl⟩
theorem both_unique {s asks : List Int} : ∀ n, ∀ {x1 x2 : List Int} {c1 c2 : Int}, Both s asks n x1 c1 → Both s asks n x2 c2 → x1.Perm x2 ∧ c1 = c2
  | 0, _, _, _, _, h1, h2 => by
    cases h1 with
    | start p1 => cases h2 with
      | start p2 => exact ⟨p1.trans p2.symm, rfl⟩
  | n + 1, _, _, _, _, h1, h2 => by
    cases h1 with
    | go a1 _ d1 => cases h2 with
      | go a2 _ d2 =>
        obtain ⟨p, e⟩ := both_unique n a1 a2
        obtain ⟨p2, e2⟩ := dstep_unique (dstep_perm p d1) d2
        exact ⟨p2, by omega⟩

/-- The other way round. -/
def mir (x : List Int) : List Int := x.map (12 - ·)
theorem mir_mem {x : List Int} {p : Int} : 12 - p ∈ mir x ↔ p ∈ x := by
  unfold mir
  rw [List.mem_map]
  constructor
  · rintro ⟨q, hq, e⟩
    rw [show p = q by omega]; exact hq
  · intro h; exact ⟨p, h, rfl⟩
theorem mir_of {x : List Int} {z : Int} (h : z ∈ mir x) : 12 - z ∈ x := by
  obtain ⟨q, hq, rfl⟩ := List.mem_map.1 h
  rw [show 12 - (12 - q) = q by omega]; exact hq
theorem mir_mir (x : List Int) : mir (mir x) = x := by
  unfold mir
  rw [List.map_map]
  conv => rhs; rw [← List.map_id x]
  refine List.map_congr_left fun p _ => ?_
  simp only [Function.comp, id]; omega
theorem mir_onLine {x : List Int} (h : onLine x) : onLine (mir x) := fun p hp => by have := h _ (mir_of hp); omega
theorem mir_erase {x : List Int} {a : Int} (h : a ∈ x) : (mir x).erase (12 - a) = mir (x.erase a) := by
  induction x with
  | nil => cases h
  | cons y x ih =>
    have e : mir (y :: x) = (12 - y) :: mir x := rfl
    by_cases hy : y = a
    · subst hy; rw [e, List.erase_cons_head, List.erase_cons_head]
    · rw [e, List.erase_cons_tail (by simp; omega), List.erase_cons_tail (by simpa using hy), ih (by simpa [Ne.symm hy] using h)]; rfl
theorem mir_perm {x y : List Int} (h : x.Perm y) : (mir x).Perm (mir y) := h.map _
theorem dstep_mir {x x' : List Int} {r c : Int} (h : DStep x r x' c) : DStep (mir x) (12 - r) (mir x') c := by
  cases h with
  | there h hq => exact .there (mir_mem.2 h) (mir_perm hq)
  | @low a _ ha hall hra hq =>
    have := DStep.high (x := mir x) (r := 12 - r) (a := 12 - a) (x' := mir x') (mir_mem.2 ha) (fun z hz => by have := hall _ (mir_of hz); omega) (by omega) (by rw [mir_erase ha]; exact mir_perm hq)
    rwa [show 12 - r - (12 - a) = a - r by omega] at this
  | @high a _ ha hall hra hq =>
    have := DStep.low (x := mir x) (r := 12 - r) (a := 12 - a) (x' := mir x') (mir_mem.2 ha) (fun z hz => by have := hall _ (mir_of hz); omega) (by omega) (by rw [mir_erase ha]; exact mir_perm hq)
    rwa [show 12 - a - (12 - r) = r - a by omega] at this
  | @both a b d _ ha hb har hrb hall hd hq =>
    refine DStep.both (x := mir x) (r := 12 - r) (a := 12 - b) (b := 12 - a) (d := d) (x' := mir x') (mir_mem.2 hb) (mir_mem.2 ha) (by omega) (by omega) (fun z hz => by have := hall _ (mir_of hz); omega) (by omega) ?_
    have hba : b ∈ x.erase a := (List.mem_erase_of_ne (by omega)).2 hb
    rw [List.erase_comm, mir_erase ha, mir_erase hba]
    have := mir_perm hq
    have e : mir ((a + d) :: (b - d) :: (x.erase a).erase b) = (12 - (a + d)) :: (12 - (b - d)) :: mir ((x.erase a).erase b) := rfl
    rw [e] at this
    rw [show 12 - b + d = 12 - (b - d) by omega, show 12 - a - d = 12 - (a + d) by omega]
    exact this.trans (List.Perm.swap _ _ _)
theorem mir_get {asks : List Int} {n : Nat} (hn : n < asks.length) : (mir asks)[n]?.getD 0 = 12 - asks[n]?.getD 0 := by
  unfold mir
  rw [List.getElem?_map, List.getElem?_eq_getElem hn]; rfl
theorem mir_length (x : List Int) : (mir x).length = x.length := by unfold mir; rw [List.length_map]
theorem both_mir {s asks : List Int} {n : Nat} {x : List Int} {c : Int} (h : Both s asks n x c) : Both (mir s) (mir asks) n (mir x) c := by
  induction h with
  | start hp => exact .start (mir_perm hp)
  | go _ hn hd ih => exact .go ih (by rw [mir_length]; exact hn) (by rw [mir_get hn]; exact dstep_mir hd)
theorem goes_mir {s asks : List Int} {n : Nat} {x : List Int} {c : Int} (h : Goes s asks n x c) : Goes (mir s) (mir asks) n (mir x) c := by
  induction h with
  | start => exact .start
  | @go n y c q y' _ hn hq hp ih =>
    have := Goes.go ih (by rw [mir_length]; exact hn) (mir_mem.2 hq) (y' := mir y') (by rw [mir_get hn, mir_erase hq]; exact mir_perm hp)
    rw [mir_get hn, show 12 - q - (12 - asks[n]?.getD 0) = -(q - asks[n]?.getD 0) by omega] at this
    rwa [show zabs (-(q - asks[n]?.getD 0)) = zabs (q - asks[n]?.getD 0) by unfold zabs; omega] at this
theorem leastGo_mir {s asks : List Int} {x : Int} (hx : LeastGo s asks x) : LeastGo (mir s) (mir asks) x := by
  obtain ⟨y, hy⟩ := hx.some
  refine ⟨⟨mir y, by rw [mir_length]; exact goes_mir hy⟩, fun z e hz => ?_⟩
  rw [mir_length] at hz
  have := goes_mir hz
  rw [mir_mir, mir_mir] at this
  exact hx.all _ e this

/-- Servers that are known by their numbers: somebody is sent. -/
inductive Sent (s asks : List Int) : Nat → List Int → Int → Prop
  | start : Sent s asks 0 s 0
  | go {n u c w} : Sent s asks n u c → n < asks.length → w < u.length → Sent s asks (n+1) (u.set w (asks[n]?.getD 0)) (c + zabs (u[w]?.getD 0 - (asks[n]?.getD 0)))
theorem set_perm (r : Int) : ∀ {u : List Int} {w : Nat}, w < u.length → (u.set w r).Perm (r :: u.erase (u[w]?.getD 0))
  | [], _, h => by simp at h
  | x :: u, 0, _ => by simp
  | x :: u, w + 1, h => by
    have hw : w < u.length := by simpa using h
    have ih := set_perm r hw
    have e : (x :: u)[w+1]?.getD 0 = u[w]?.getD 0 := rfl
    have hin : u[w]?.getD 0 ∈ u := by rw [List.getElem?_eq_getElem hw]; exact List.getElem_mem hw
    rw [List.set_cons_succ, e]
    generalize u[w]?.getD 0 = q at *
    by_cases hx : x = q
    · subst hx
      rw [List.erase_cons_head]
      exact (ih.cons x).trans ((List.Perm.swap r x _).trans ((List.perm_cons_erase hin).symm.cons r))
    · rw [List.erase_cons_tail (by simpa using hx)]
      exact (ih.cons x).trans (List.Perm.swap r x _)
theorem Sent.length {s asks : List Int} {n : Nat} {u : List Int} {c : Int} (h : Sent s asks n u c) : u.length = s.length := by
  induction h with
  | start => rfl
  | go _ _ _ ih => rw [List.length_set]; exact ih
theorem Sent.goes {s asks : List Int} {n : Nat} {u : List Int} {c : Int} (h : Sent s asks n u c) : Goes s asks n u c := by
  induction h with
  | start => exact .start
  | @go n u c w _ hn hw ih =>
    exact .go ih hn (by rw [List.getElem?_eq_getElem hw]; exact List.getElem_mem hw) (set_perm _ hw)
theorem goes_sent {s asks : List Int} {n : Nat} {y : List Int} {c : Int} (h : Goes s asks n y c) : ∃ u, Sent s asks n u c ∧ u.Perm y := by
  induction h with
  | start => exact ⟨s, .start, List.Perm.refl _⟩
  | @go n y c q y' _ hn hq hp ih =>
    obtain ⟨u, hu, hpu⟩ := ih
    have hqu := hpu.mem_iff.2 hq
    obtain ⟨w, hw, e⟩ := List.mem_iff_getElem.1 hqu
    have eq : u[w]?.getD 0 = q := by rw [List.getElem?_eq_getElem hw]; exact e
    have := Sent.go hu hn hw
    rw [eq] at this
    refine ⟨_, this, ?_⟩
    have hsp := set_perm (asks[n]?.getD 0) hw
    rw [eq] at hsp
    exact hsp.trans (((hpu.erase q).cons _).trans hp.symm)
/-- T tells of each state the least that it can be come to at. -/
def STab (s asks : List Int) (n : Nat) (T : List Int → Option Int) : Prop :=
  (∀ u x, T u = some x → Sent s asks n u x) ∧ ∀ u x, Sent s asks n u x → ∃ y, T u = some y ∧ y ≤ x
theorem stab_start {s asks : List Int} {T : List Int → Option Int} (h0 : T s = some 0) (h : ∀ u, u ≠ s → T u = none) : STab s asks 0 T := by
  refine ⟨fun u x e => ?_, fun u x e => ?_⟩
  · by_cases hu : u = s
    · subst hu
      rw [h0] at e
      rw [← Option.some.inj e]; exact .start
    · rw [h u hu] at e; cases e
  · cases e
    exact ⟨0, h0, Int.le_refl _⟩
theorem stab_succ {s asks : List Int} {n : Nat} (hn : n < asks.length) {T T' : List Int → Option Int} (h : STab s asks n T)
    (h1 : ∀ v z, T' v = some z → ∃ u y w, T u = some y ∧ w < u.length ∧ v = u.set w (asks[n]?.getD 0) ∧ z = y + zabs (u[w]?.getD 0 - asks[n]?.getD 0))
    (h2 : ∀ u y w, T u = some y → w < u.length → ∃ z, T' (u.set w (asks[n]?.getD 0)) = some z ∧ z ≤ y + zabs (u[w]?.getD 0 - asks[n]?.getD 0)) : STab s asks (n+1) T' := by
  refine ⟨fun v z e => ?_, fun v z e => ?_⟩
  · obtain ⟨u, y, w, hu, hw, rfl, rfl⟩ := h1 v z e
    exact .go (h.1 u y hu) hn hw
  · cases e with
    | @go _ u y w hu _ hw =>
      obtain ⟨y', hy, hle⟩ := h.2 u y hu
      obtain ⟨z, hz, hz2⟩ := h2 u y' w hy hw
      exact ⟨z, hz, by omega⟩
theorem stab_least {s asks : List Int} {T : List Int → Option Int} (h : STab s asks asks.length T) {x : Int} (h1 : ∃ u, T u = some x) (h2 : ∀ u y, T u = some y → x ≤ y) : LeastGo s asks x := by
  obtain ⟨u, hu⟩ := h1
  refine ⟨⟨u, (h.1 u x hu).goes⟩, fun y e hy => ?_⟩
  obtain ⟨v, hv, _⟩ := goes_sent hy
  obtain ⟨z, hz, hle⟩ := h.2 v e hv
  have := h2 v z hz
  omega

/-- Who is alone goes. -/
def aloneAt (at0 : Int) (asks : List Int) : Nat → Int
  | 0 => at0
  | n + 1 => asks[n]?.getD 0
def aloneSum (at0 : Int) (asks : List Int) : Nat → Int
  | 0 => 0
  | n + 1 => aloneSum at0 asks n + zabs (aloneAt at0 asks n - asks[n]?.getD 0)
theorem goes_alone {a : Int} {asks : List Int} {n : Nat} {y : List Int} {c : Int} (h : Goes [a] asks n y c) : y = [aloneAt a asks n] ∧ c = aloneSum a asks n := by
  induction h with
  | start => exact ⟨rfl, rfl⟩
  | @go n y c q y' _ hn hq hp ih =>
    obtain ⟨rfl, rfl⟩ := ih
    have : q = aloneAt a asks n := by simpa using hq
    subst this
    rw [List.erase_cons_head] at hp
    exact ⟨List.perm_singleton.1 hp, rfl⟩
theorem both_alone {a : Int} {asks : List Int} {n : Nat} {x : List Int} {c : Int} (h : Both [a] asks n x c) : x = [aloneAt a asks n] ∧ c = aloneSum a asks n := by
  induction h with
  | start hp => exact ⟨List.perm_singleton.1 hp, rfl⟩
  | @go n x c x' d _ hn hd ih =>
    obtain ⟨rfl, rfl⟩ := ih
    rw [aloneSum]
    cases hd with
    | there h hp =>
      have e : asks[n]?.getD 0 = aloneAt a asks n := by simpa using h
      refine ⟨by rw [List.perm_singleton.1 hp, ← e]; rfl, ?_⟩
      rw [e, Int.sub_self]; rfl
    | low h _ hr hp =>
      have e := List.mem_singleton.1 h
      subst e
      rw [List.erase_cons_head] at hp
      exact ⟨List.perm_singleton.1 hp, by unfold zabs; omega⟩
    | high h _ hr hp =>
      have e := List.mem_singleton.1 h
      subst e
      rw [List.erase_cons_head] at hp
      exact ⟨List.perm_singleton.1 hp, by unfold zabs; omega⟩
    | both h1 h2 h3 h4 _ _ _ =>
      have e1 := List.mem_singleton.1 h1
      have e2 := List.mem_singleton.1 h2
      omega
end Go.Proofs.Ytnjfmlojbaigjaa
