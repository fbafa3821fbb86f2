/- Several texts in one. -/
import Derived.Test.YtedmfehjifknbaaDoorLists
/- Lists alone: who lets go of what is asked for latest. -/
namespace Go.Proofs.YtedmfehjifknbaaDoor

/-- Of the pages below q that are held, the one that is asked for latest, of several the least; -1 if there is none. -/
def bst (l : List Int) (k : Nat) (held : List Int) : Nat → Int
  | 0 => -1
  | q + 1 => if held.contains (q : Int) && (decide (bst l k held q < 0) || decide (ahead l k (bst l k held q) < ahead l k q)) then q else bst l k held q
def pick (l : List Int) (k : Nat) (held : List Int) : Int := bst l k held 16
/-- The page that goes. -/
def IsPick (l : List Int) (k : Nat) (held : List Int) (b : Int) : Prop := b ∈ held ∧ ∀ q, q ∈ held → ahead l k q < ahead l k b ∨ (ahead l k q = ahead l k b ∧ b ≤ q)
theorem ispick_unique {l : List Int} {k : Nat} {held : List Int} {a b : Int} (ha : IsPick l k held a) (hb : IsPick l k held b) : a = b := by
  have h1 := ha.2 b hb.1
  have h2 := hb.2 a ha.1
  omega
theorem bst_facts (l : List Int) (k : Nat) (held : List Int) : ∀ Q : Nat, (bst l k held Q = -1 ∧ ∀ q : Nat, q < Q → (q : Int) ∉ held) ∨ (bst l k held Q ∈ held ∧ 0 ≤ bst l k held Q ∧ bst l k held Q < Q ∧ ∀ q : Nat, q < Q → (q : Int) ∈ held → ahead l k q < ahead l k (bst l k held Q) ∨ (ahead l k q = ahead l k (bst l k held Q) ∧ bst l k held Q ≤ q))
  | 0 => .inl ⟨rfl, fun q h => by omega⟩
  | Q + 1 => by
    have ih := bst_facts l k held Q
    rw [bst]
    by_cases hQ : (Q : Int) ∈ held
    · have hc : held.contains (Q : Int) = true := List.contains_iff_mem.2 hQ
      rw [hc, Bool.true_and]
      rcases ih with ⟨h1, h2⟩ | ⟨h1, h2, h3, h4⟩
      · rw [h1, if_pos (by simp)]
        refine .inr ⟨hQ, by omega, by omega, fun q hq hm => ?_⟩
        by_cases he : q = Q
        · subst he; exact .inr ⟨rfl, Int.le_refl _⟩
        · exact absurd hm (h2 q (by omega))
      · by_cases hlt : ahead l k (bst l k held Q) < ahead l k Q
        · rw [if_pos (by simp [hlt])]
          refine .inr ⟨hQ, by omega, by omega, fun q hq hm => ?_⟩
          by_cases he : q = Q
          · subst he; exact .inr ⟨rfl, Int.le_refl _⟩
          · rcases h4 q (by omega) hm with h | h
            · exact .inl (by omega)
            · exact .inl (by omega)
        · rw [if_neg (by simp [hlt]; omega)]
          refine .inr ⟨h1, h2, by omega, fun q hq hm => ?_⟩
          by_cases he : q = Q
          · subst he
            by_cases e : ahead l k q = ahead l k (bst l k held q)
            · exact .inr ⟨e, by omega⟩
            · exact .inl (by omega)
          · exact h4 q (by omega) hm
    · have hc : held.contains (Q : Int) = false := by rw [← Bool.not_eq_true, List.contains_iff_mem]; exact hQ
      rw [hc, Bool.false_and, if_neg (by simp)]
      rcases ih with ⟨h1, h2⟩ | ⟨h1, h2, h3, h4⟩
      · refine .inl ⟨h1, fun q hq hm => ?_⟩
        by_cases he : q = Q
        · subst he; exact hQ hm
        · exact h2 q (by omega) hm
      · refine .inr ⟨h1, h2, by omega, fun q hq hm => ?_⟩
        by_cases he : q = Q
        · subst he; exact absurd hm hQ
        · exact h4 q (by omega) hm
def inPages (A : List Int) : Prop := ∀ p, p ∈ A → 0 ≤ p ∧ p < 16
theorem pick_is {l : List Int} {k : Nat} {held : List Int} (hp : inPages held) (hn : held ≠ []) : IsPick l k held (pick l k held) := by
  have h := bst_facts l k held 16
  rcases h with ⟨_, h2⟩ | ⟨h1, h2, h3, h4⟩
  · cases held with
    | nil => exact absurd rfl hn
    | cons x r =>
      have hx := hp x (by simp)
      obtain ⟨n, rfl⟩ : ∃ n : Nat, x = n := ⟨x.toNat, by omega⟩
      exact absurd (by simp) (h2 n (by omega))
  · refine ⟨h1, fun q hq => ?_⟩
    have hx := hp q hq
    obtain ⟨n, rfl⟩ : ∃ n : Nat, q = n := ⟨q.toNat, by omega⟩
    exact h4 n (by omega) hq

/-- What is held behind k requests, and who was let go of. -/
def ost (s : Nat) (l : List Int) : Nat → List Int × List Int
  | 0 => ([], [])
  | k + 1 =>
    if (ost s l k).1.contains (l[k]?.getD 0) then ost s l k
    else if (ost s l k).1.length = s then ((ost s l k).1.erase (pick l k (ost s l k).1) ++ [l[k]?.getD 0], (ost s l k).2 ++ [pick l k (ost s l k).1])
    else ((ost s l k).1 ++ [l[k]?.getD 0], (ost s l k).2)
def ohit (s : Nat) (l : List Int) (k : Nat) : Bool := (ost s l k).1.contains (l[k]?.getD 0)
theorem ost_hit {s k : Nat} {l : List Int} (h : ohit s l k = true) : ost s l (k+1) = ost s l k := by rw [ost]; exact if_pos h
theorem ost_full {s k : Nat} {l : List Int} (h : ohit s l k = false) (hf : (ost s l k).1.length = s) : ost s l (k+1) = ((ost s l k).1.erase (pick l k (ost s l k).1) ++ [l[k]?.getD 0], (ost s l k).2 ++ [pick l k (ost s l k).1]) := by
  rw [ost, if_neg (by unfold ohit at h; rw [h]; simp), if_pos hf]
theorem ost_room {s k : Nat} {l : List Int} (h : ohit s l k = false) (hf : (ost s l k).1.length ≠ s) : ost s l (k+1) = ((ost s l k).1 ++ [l[k]?.getD 0], (ost s l k).2) := by
  rw [ost, if_neg (by unfold ohit at h; rw [h]; simp), if_neg hf]

theorem page_at {l : List Int} (hl : inPages l) {k : Nat} (hk : k < l.length) : 0 ≤ l[k]?.getD 0 ∧ l[k]?.getD 0 < 16 := by
  rw [List.getElem?_eq_getElem hk]; exact hl _ (List.getElem_mem hk)
theorem ost_pages {s : Nat} {l : List Int} (hl : inPages l) : ∀ k, k ≤ l.length → inPages (ost s l k).1
  | 0, _ => by intro p hp; simp [ost] at hp
  | k + 1, hk => by
    have ih := ost_pages hl (s := s) k (by omega)
    have hp := page_at hl (k := k) (by omega)
    intro q hq
    cases hh : ohit s l k
    · by_cases hf : (ost s l k).1.length = s
      · rw [ost_full hh hf] at hq
        rcases List.mem_append.1 hq with h | h
        · exact ih q (List.mem_of_mem_erase h)
        · rw [List.mem_singleton.1 h]; exact hp
      · rw [ost_room hh hf] at hq
        rcases List.mem_append.1 hq with h | h
        · exact ih q h
        · rw [List.mem_singleton.1 h]; exact hp
    · rw [ost_hit hh] at hq; exact ih q hq
theorem ost_pick {s : Nat} {l : List Int} (hs : 1 ≤ s) (hl : inPages l) {k : Nat} (hk : k ≤ l.length) (hf : (ost s l k).1.length = s) : IsPick l k (ost s l k).1 (pick l k (ost s l k).1) :=
  pick_is (ost_pages hl k hk) (by intro e; rw [e] at hf; simp at hf; omega)

theorem sched_opt {s : Nat} {l : List Int} (hs : 1 ≤ s) (hl : inPages l) : Sched s l fun k => (ost s l k).1 := by
  refine Sched.steps rfl fun k hk hn hle => ?_
  cases hh : ohit s l k
  · have hp := out_of_not hh
    by_cases hf : (ost s l k).1.length = s
    · have hb := (ost_pick hs hl (by omega) hf).1
      rw [ost_full hh hf]
      refine ⟨nodup_behind (hn.erase _) (fun h => hp (List.mem_of_mem_erase h)), ?_, by simp, fun p h => ?_⟩
      · simp only
        rw [List.length_append, List.length_singleton, List.length_erase_of_mem hb]; omega
      · rcases List.mem_append.1 h with h | h
        · exact .inr (List.mem_of_mem_erase h)
        · exact .inl (List.mem_singleton.1 h)
    · rw [ost_room hh hf]
      refine ⟨nodup_behind hn hp, ?_, by simp, fun p h => ?_⟩
      · simp only
        rw [List.length_append, List.length_singleton]; omega
      · rcases List.mem_append.1 h with h | h
        · exact .inr h
        · exact .inl (List.mem_singleton.1 h)
  · rw [ost_hit hh]
    exact ⟨hn, hle, List.contains_iff_mem.1 hh, fun p h => .inr h⟩
theorem hits_opt (s : Nat) (l : List Int) : hitOf l (fun k => (ost s l k).1) = ohit s l := rfl
theorem best_opt {s : Nat} {l : List Int} (hs : 1 ≤ s) (hl : inPages l) : Best s l fun k => (ost s l k).1 := by
  intro k hk
  have hS := sched_opt (s := s) hs hl
  have hn : (ost s l k).1.Nodup := hS.nd k (by omega)
  simp only
  cases hh : ohit s l k
  · have hp := out_of_not hh
    by_cases hf : (ost s l k).1.length = s
    · obtain ⟨h1, h2⟩ := ost_pick hs hl (k := k) (by omega) hf
      refine .inr ⟨pick l k (ost s l k).1, h1, hp, hf, fun q hq => ?_, fun p hp hne => ?_⟩
      · have := h2 q hq; omega
      · rw [ost_full hh hf]
        exact List.mem_append.2 (.inl ((hn.mem_erase_iff).2 ⟨hne, hp⟩))
    · refine .inl fun p hp => ?_
      rw [ost_room hh hf]
      exact List.mem_append.2 (.inl hp)
  · refine .inl fun p hp => ?_
    rw [ost_hit hh]; exact hp

theorem ost_count {s : Nat} {l : List Int} (hs : 1 ≤ s) (hl : inPages l) : ∀ k, k ≤ l.length → (ost s l k).2.length + (ost s l k).1.length + hcount (ohit s l) k = k
  | 0, _ => rfl
  | k + 1, hk => by
    have ih := ost_count hs hl k (by omega)
    simp only [hcount]
    cases hh : ohit s l k
    · by_cases hf : (ost s l k).1.length = s
      · have hb := (ost_pick hs hl (k := k) (by omega) hf).1
        rw [ost_full hh hf]
        simp only [List.length_append, List.length_singleton, List.length_erase_of_mem hb]
        simp
        omega
      · rw [ost_room hh hf]
        simp only [List.length_append, List.length_singleton]
        simp
        omega
    · rw [ost_hit hh]
      simp
      omega
theorem ost_gone (s : Nat) (l : List Int) (k : Nat) : ∀ m, k ≤ m → (ost s l k).2 <+: (ost s l m).2
  | 0, h => by rw [show k = 0 by omega]; exact List.prefix_rfl
  | m + 1, h => by
    by_cases e : k = m + 1
    · rw [e]; exact List.prefix_rfl
    · have ih := ost_gone s l k m (by omega)
      refine ih.trans ?_
      cases hh : ohit s l m
      · by_cases hf : (ost s l m).1.length = s
        · rw [ost_full hh hf]; exact List.prefix_append _ _
        · rw [ost_room hh hf]; exact List.prefix_rfl
      · rw [ost_hit hh]; exact List.prefix_rfl

theorem inPages_take {l : List Int} (h : inPages l) (n : Nat) : inPages (l.take n) := fun p hp => h p (List.mem_of_mem_take hp)
theorem inPages_drop {l : List Int} (h : inPages l) (n : Nat) : inPages (l.drop n) := fun p hp => h p (List.mem_of_mem_drop hp)
theorem inPages_reverse {l : List Int} (h : inPages l) : inPages l.reverse := fun p hp => h p (List.mem_reverse.1 hp)

/-- How often a page was not there. -/
def omiss (s : Nat) (l : List Int) : Nat := missed (marks (ohit s l) l.length) (marks (ohit s l) l.length).length
theorem omiss_count (s : Nat) (l : List Int) : omiss s l + hcount (ohit s l) l.length = l.length := missed_hcount _ _
theorem omiss_least {s : Nat} {l : List Int} (hs : 1 ≤ s) (hl : inPages l) {B : Nat → List Int} (hB : Sched s l B) {n : Nat} (hn : n + hcount (hitOf l B) l.length = l.length) : omiss s l ≤ n := by
  have h1 := best_most (sched_opt hs hl) hB (best_opt hs hl)
  rw [hits_opt] at h1
  have := omiss_count s l
  omega
theorem omiss_more {s : Nat} {l : List Int} (hs : 1 ≤ s) (hl : inPages l) : omiss (s+1) l ≤ omiss s l :=
  omiss_least (by omega) hl ((sched_opt hs hl).wider (Nat.le_succ s)) (omiss_count s l)
theorem omiss_turned {s : Nat} {l : List Int} (hs : 1 ≤ s) (hl : inPages l) : omiss s l.reverse = omiss s l := by
  have h := best_turned (sched_opt hs hl) (best_opt hs hl) (sched_opt hs (inPages_reverse hl)) (best_opt hs (inPages_reverse hl))
  rw [hits_opt, hits_opt] at h
  have h1 := omiss_count s l
  have h2 := omiss_count s l.reverse
  rw [List.length_reverse] at h2
  omega
theorem omiss_begin {s n : Nat} {l : List Int} (hs : 1 ≤ s) (hl : inPages l) (hn : n ≤ l.length) : omiss s (l.take n) ≤ omiss s l ∧ omiss s l ≤ omiss s (l.take n) + omiss s (l.drop n) := by
  have c := omiss_count s l
  have ct := omiss_count s (l.take n)
  have cd := omiss_count s (l.drop n)
  have lt : (l.take n).length = n := by rw [List.length_take]; omega
  have ld : (l.drop n).length = l.length - n := List.length_drop
  constructor
  · have hb := (sched_opt (s := s) hs hl).begin hn
    have h1 := best_most (sched_opt hs (inPages_take hl n)) hb (best_opt hs (inPages_take hl n))
    rw [hits_opt, lt, hits_begin, hits_opt] at h1
    have h2 := hcount_add (ohit s l) n (l.length - n)
    rw [show n + (l.length - n) = l.length by omega] at h2
    have h3 := hcount_lt (fun i => ohit s l (n + i)) (l.length - n)
    rw [lt] at ct
    omega
  · have hB := sched_opt (s := s) hs (inPages_drop hl n)
    have h0 := (sched_opt (s := s) hs (inPages_take hl n)).andThen hn hB
    have h1 := best_most (sched_opt hs hl) h0 (best_opt hs hl)
    have h2 := hits_andThen (A := fun k => (ost s (l.take n) k).1) hn hB
    rw [hits_opt, hits_opt] at h2
    rw [hits_opt] at h1
    rw [lt] at ct
    rw [ld] at cd
    omega
end Go.Proofs.YtedmfehjifknbaaDoor

/- Lists alone, for chapter 10: Young's theorem, and the least that anybody pays. -/
namespace Go.Proofs.YtedmfehjifknbaaDoor

/-- What another one's pages could cost beyond their credits. -/
def due (c : Int → Nat) (st : List (Int × Nat)) (H : List Int) : Nat := sumOn (fun f => c f - cr st f) H
theorem due_change {c : Int → Nat} {st st' : List (Int × Nat)} {H : List Int} {p : Int} (hH : H.Nodup) (hp : p ∈ H) (h1 : cr st' p = c p) (h2 : ∀ q, q ≠ p → cr st' q = cr st q) : due c st' H + (c p - cr st p) = due c st H := by
  unfold due
  rw [sumOn_erase hp, sumOn_erase (A := H) hp, h1, sumOn_congr (f := fun f => c f - cr st' f) (g := fun f => c f - cr st f) (A := H.erase p) fun q hq => by
    have : q ≠ p := fun e => hH.not_mem_erase (e ▸ hq)
    simp only [h2 q this]]
  omega
theorem due_moves {h : Nat} {c : Int → Nat} {l : List Int} {H : Nat → List Int} (hS : Sched h l H) (st : List (Int × Nat)) {n : Nat} (hn : n < l.length) : due c st (H (n+1)) ≤ due c st (H n) + (if hitOf l H n then 0 else c (l[n]?.getD 0)) := by
  unfold due
  have hnd := hS.nd (n+1) (by omega)
  by_cases hh : hitOf l H n = true
  · rw [if_pos hh]
    exact sumOn_sub hnd fun p hp => by
      rcases hS.sub n hn p hp with e | e
      · rw [e]; exact List.contains_iff_mem.1 hh
      · exact e
  · rw [if_neg hh]
    have := sumOn_sub (f := fun f => c f - cr st f) (B := (l[n]?.getD 0) :: H n) hnd fun p hp => List.mem_cons.2 (hS.sub n hn p hp)
    rw [sumOn] at this
    omega
theorem many_less {q : Int → Bool} {p : Int} {A : List Int} (h : p ∈ A) (hq : q p = false) : many q A + 1 ≤ A.length := by
  rw [many_erase h, hq]
  have := many_le q (A.erase p)
  rw [List.length_erase_of_mem h] at this
  have := List.length_pos_of_mem h
  simp; omega
/-- All credits are less: what another one's pages are due is not more than that, for he has one that is not here. -/
theorem due_less {h : Nat} {c : Int → Nat} {st : List (Int × Nat)} {H : List Int} {p : Int} (hn : (tenants st).Nodup) (h0 : st ≠ []) (hH : H.length ≤ h) (hp : p ∈ H) (hout : p ∉ tenants st) : due c (letOut st) H ≤ due c st H + leastOf st * (h - 1) := by
  obtain ⟨_, hc⟩ := letOut_facts hn h0
  have h1 : due c (letOut st) H ≤ sumOn (fun f => (c f - cr st f) + (if (tenants st).contains f then leastOf st else 0)) H := by
    refine sumOn_le fun f _ => ?_
    simp only [hc f]
    by_cases hf : f ∈ tenants st
    · rw [if_pos (List.contains_iff_mem.2 hf)]; omega
    · rw [cr_out hf, if_neg (fun h => hf (List.contains_iff_mem.1 h))]; omega
  rw [sumOn_add, sumOn_some] at h1
  have h2 := many_less (q := fun f => (tenants st).contains f) hp (by
    cases hx : (tenants st).contains p
    · rfl
    · exact absurd (List.contains_iff_mem.1 hx) hout)
  have h3 : leastOf st * many (fun f => (tenants st).contains f) H ≤ leastOf st * (h - 1) := Nat.mul_le_mul_left _ (by omega)
  exact Nat.le_trans h1 (Nat.add_le_add_left h3 _)

/-- Young: no worse than anybody, as slots go. -/
theorem young {a b : Nat} (hb : 1 ≤ b) {c : Int → Nat} {l : List Int} {H : Nat → List Int} (hS : Sched (a+1) l H) : ∀ n, n ≤ l.length →
    b * lpaid (a+b) c l n + a * tot (land (a+b) c l n) + (a+b) * due c (land (a+b) c l n) (H n) ≤ (a+b) * paid c l H n
  | 0, _ => by
    rw [hS.start]
    simp [lpaid, paid, land, tot, due, sumOn]
  | n + 1, hn => by
    have ih := young hb (c := c) hS n (by omega)
    have hmv := due_moves (c := c) hS (land (a+b) c l n) (n := n) (by omega)
    have hin := hS.got n (by omega)
    have hnd := hS.nd (n+1) hn
    have hlen := hS.le (n+1) hn
    have hi := land_inv (s := a+b) (by omega) c l n
    have hcr := cr_le hi (l[n]?.getD 0)
    have e1 : paid c l H (n+1) = paid c l H n + (if hitOf l H n then 0 else c (l[n]?.getD 0)) := rfl
    have e2 : lpaid (a+b) c l (n+1) = lpaid (a+b) c l n + (if (tenants (land (a+b) c l n)).contains (l[n]?.getD 0) then 0 else c (l[n]?.getD 0)) := rfl
    have e3 : land (a+b) c l (n+1) = landS (a+b) c (land (a+b) c l n) (l[n]?.getD 0) := rfl
    rw [e1, e2, e3]
    generalize (if hitOf l H n then 0 else c (l[n]?.getD 0)) = o at *
    generalize land (a+b) c l n = st at *
    generalize l[n]?.getD 0 = p at *
    generalize lpaid (a+b) c l n = L at *
    generalize paid c l H n = P at *
    have hmv2 : (a+b) * due c st (H (n+1)) ≤ (a+b) * due c st (H n) + (a+b) * o := by rw [← Nat.mul_add]; exact Nat.mul_le_mul_left _ hmv
    rw [Nat.mul_add (a+b) P o]
    unfold landS
    by_cases hp : (tenants st).contains p = true
    · rw [if_pos hp, if_pos hp]
      have hpm := List.contains_iff_mem.1 hp
      have ht := tot_again (v := c p) hi.nd hpm
      have hd := due_change (c := c) (st := st) (st' := again p (c p) st) hnd hin (by rw [cr_again hpm, if_pos rfl]) fun q hq => by rw [cr_again hpm, if_neg hq]
      obtain ⟨x, hx⟩ : ∃ x, x = c p - cr st p := ⟨_, rfl⟩
      rw [← hx] at hd
      have ht2 : tot (again p (c p) st) = tot st + x := by omega
      rw [← hd, Nat.mul_add, Nat.add_mul a b x] at hmv2
      rw [ht2, Nat.mul_add a, Nat.add_zero]
      have : b * x = b * x := rfl
      omega
    · rw [if_neg hp, if_neg hp]
      have hout : p ∉ tenants st := fun hm => hp (List.contains_iff_mem.2 hm)
      have key : ∃ st1, (if st.length = a + b then letOut st else st) = st1 ∧ p ∉ tenants st1 ∧ a * tot st1 + (a+b) * due c st1 (H (n+1)) ≤ a * tot st + (a+b) * due c st (H (n+1)) := by
        by_cases hf : st.length = a + b
        · rw [if_pos hf]
          have h0 : st ≠ [] := by intro e; subst e; simp at hf; omega
          refine ⟨_, rfl, fun hm => hout ((letOut_sub st).subset hm), ?_⟩
          have hl := due_less (c := c) hi.nd h0 hlen hin hout
          obtain ⟨ht, _⟩ := letOut_facts hi.nd h0
          rw [hf] at ht
          rw [Nat.add_sub_cancel] at hl
          have k1 : (a+b) * due c (letOut st) (H (n+1)) ≤ (a+b) * due c st (H (n+1)) + (a+b) * (leastOf st * a) := by rw [← Nat.mul_add]; exact Nat.mul_le_mul_left _ hl
          have k2 : a * tot st = a * tot (letOut st) + a * (leastOf st * (a+b)) := by rw [← Nat.mul_add, ht]
          have k3 : (a+b) * (leastOf st * a) = a * (leastOf st * (a+b)) := by rw [Nat.mul_comm (a+b), Nat.mul_comm a, Nat.mul_assoc, Nat.mul_assoc, Nat.mul_comm a]
          omega
        · rw [if_neg hf]
          exact ⟨_, rfl, hout, Nat.le_refl _⟩
      obtain ⟨st1, hst, hout1, hk⟩ := key
      rw [hst]
      have hd := due_change (c := c) (st := st1) (st' := st1 ++ [(p, c p)]) hnd hin (by rw [cr_snoc hout1, if_pos rfl]) fun q hq => by rw [cr_snoc hout1, if_neg hq]
      rw [cr_out hout1, Nat.sub_zero] at hd
      have ht : tot (st1 ++ [(p, c p)]) = tot st1 + c p := by rw [tot_append]; rfl
      rw [← hd, Nat.mul_add, Nat.add_mul a b (c p)] at hk
      rw [ht, Nat.mul_add b, Nat.mul_add a]
      omega

/-- x is the least that anybody pays. -/
structure IsLeast (s : Nat) (c : Int → Nat) (l : List Int) (x : Nat) : Prop where
  some : ∃ H, Sched s l H ∧ paid c l H l.length = x
  all : ∀ H, Sched s l H → x ≤ paid c l H l.length
theorem least_unique {s : Nat} {c : Int → Nat} {l : List Int} {x y : Nat} (hx : IsLeast s c l x) (hy : IsLeast s c l y) : x = y := by
  obtain ⟨A, a1, a2⟩ := hx.some
  obtain ⟨B, b1, b2⟩ := hy.some
  have := hx.all B b1
  have := hy.all A a1
  omega
theorem least_young {k h : Nat} (h1 : 1 ≤ h) (hk : h ≤ k) {c : Int → Nat} {l : List Int} {x : Nat} (hx : IsLeast h c l x) : (k - h + 1) * lpaid k c l l.length ≤ k * x := by
  obtain ⟨H, hS, he⟩ := hx.some
  obtain ⟨a, rfl⟩ : ∃ a, h = a + 1 := ⟨h - 1, by omega⟩
  obtain ⟨b, hb⟩ : ∃ b, b = k - (a + 1) + 1 := ⟨_, rfl⟩
  have := young (a := a) (b := b) (by omega) (c := c) hS l.length (Nat.le_refl _)
  rw [show a + b = k by omega, he] at this
  rw [← hb]
  omega
theorem least_land {s : Nat} (hs : 1 ≤ s) {c : Int → Nat} {l : List Int} {x : Nat} (hx : IsLeast s c l x) : x ≤ lpaid s c l l.length := hx.all _ (sched_land hs c l)
theorem sched_more {s t : Nat} (h : s ≤ t) {l : List Int} {H : Nat → List Int} (hS : Sched s l H) : Sched t l H := ⟨hS.start, hS.nd, fun k hk => Nat.le_trans (hS.le k hk) h, hS.got, hS.sub⟩
theorem least_more {s t : Nat} (h : s ≤ t) {c : Int → Nat} {l : List Int} {x y : Nat} (hx : IsLeast s c l x) (hy : IsLeast t c l y) : y ≤ x := by
  obtain ⟨H, hS, he⟩ := hx.some
  rw [← he]; exact hy.all H (sched_more h hS)
/-- Each page that is asked for is paid for. -/
theorem held_asked {s : Nat} {l : List Int} {H : Nat → List Int} (hS : Sched s l H) : ∀ n, n ≤ l.length → ∀ p, p ∈ H n → p ∈ l.take n
  | 0, _, p, hp => by rw [hS.start] at hp; cases hp
  | n + 1, hn, p, hp => by
    have hl : n < l.length := by omega
    rw [List.take_succ_eq_append_getElem hl, List.mem_append, List.mem_singleton]
    rcases hS.sub n hl p hp with e | e
    · rw [List.getElem?_eq_getElem hl] at e; exact .inr e
    · exact .inl (held_asked hS n (by omega) p e)
theorem paid_once {s : Nat} {c : Int → Nat} {l : List Int} {H : Nat → List Int} (hS : Sched s l H) : ∀ n, n ≤ l.length → sumOn c (full (l.take n)) ≤ paid c l H n
  | 0, _ => by simp [full, mru, sumOn]
  | n + 1, hn => by
    have ih := paid_once (c := c) hS n (by omega)
    have hl : n < l.length := by omega
    have e : paid c l H (n+1) = paid c l H n + (if hitOf l H n then 0 else c (l[n]?.getD 0)) := rfl
    rw [full_succ hl, sumOn, e]
    by_cases hm : l[n]?.getD 0 ∈ full (l.take n)
    · rw [← sumOn_erase hm]; omega
    · rw [List.erase_of_not_mem hm]
      have hh : ¬ (hitOf l H n = true) := fun h => hm (full_mem.2 (held_asked hS n (by omega) _ (List.contains_iff_mem.1 h)))
      rw [if_neg hh]; omega
theorem least_once {s : Nat} {c : Int → Nat} {l : List Int} {x : Nat} (hx : IsLeast s c l x) : sumOn c (full l) ≤ x := by
  obtain ⟨H, hS, he⟩ := hx.some
  have := paid_once (c := c) hS l.length (Nat.le_refl _)
  rwa [List.take_length, he] at this
/-- What is paid hangs on the costs of the pages that are asked for alone. -/
theorem paid_congr {c d : Int → Nat} {l : List Int} (h : ∀ p, p ∈ l → c p = d p) (H : Nat → List Int) : ∀ n, n ≤ l.length → paid c l H n = paid d l H n
  | 0, _ => rfl
  | n + 1, hn => by
    have hl : n < l.length := by omega
    rw [paid, paid, paid_congr h H n (by omega), h (l[n]?.getD 0) (by rw [List.getElem?_eq_getElem hl]; exact List.getElem_mem hl)]
theorem least_congr {s : Nat} {c d : Int → Nat} {l : List Int} (h : ∀ p, p ∈ l → c p = d p) {x : Nat} (hx : IsLeast s c l x) : IsLeast s d l x := by
  obtain ⟨H, hS, he⟩ := hx.some
  exact ⟨⟨H, hS, by rw [← paid_congr h H _ (Nat.le_refl _)]; exact he⟩, fun B hB => by rw [← paid_congr h B _ (Nat.le_refl _)]; exact hx.all B hB⟩
theorem paid_mul (b : Nat) (c : Int → Nat) (l : List Int) (H : Nat → List Int) : ∀ n, paid (fun p => b * c p) l H n = b * paid c l H n
  | 0 => rfl
  | n + 1 => by
    rw [paid, paid, paid_mul b c l H n, Nat.mul_add]
    split <;> rfl
theorem least_mul {s : Nat} {c : Int → Nat} {l : List Int} (b : Nat) {x : Nat} (hx : IsLeast s c l x) : IsLeast s (fun p => b * c p) l (b * x) := by
  obtain ⟨H, hS, he⟩ := hx.some
  exact ⟨⟨H, hS, by rw [paid_mul, he]⟩, fun B hB => by rw [paid_mul]; exact Nat.mul_le_mul_left _ (hx.all B hB)⟩
theorem paid_mc (l : List Int) (H : Nat → List Int) : ∀ n, paid (fun _ => 1) l H n = mc (hitOf l H) n
  | 0 => rfl
  | n + 1 => by rw [paid, mc, paid_mc l H n]
/-- Belady: where all cost one. -/
theorem least_opt {s : Nat} (hs : 1 ≤ s) {l : List Int} (hl : inPages l) : IsLeast s (fun _ => 1) l (mc (ohit s l) l.length) := by
  refine ⟨⟨_, sched_opt hs hl, by rw [paid_mc, hits_opt]⟩, fun B hB => ?_⟩
  rw [paid_mc]
  have h1 := best_most (sched_opt hs hl) hB (best_opt hs hl)
  rw [hits_opt] at h1
  have h2 := mc_count (ohit s l) l.length
  have h3 := mc_count (hitOf l B) l.length
  omega
theorem least_each {s : Nat} (hs : 1 ≤ s) {l : List Int} (hl : inPages l) (e : Nat) : IsLeast s (fun _ => e) l (e * mc (ohit s l) l.length) := by
  have := least_mul e (least_opt hs hl)
  simpa using this
end Go.Proofs.YtedmfehjifknbaaDoor

/- Lists alone, for chapter 10: all costs so many times as much; the least is found from state to state. -/
namespace Go.Proofs.YtedmfehjifknbaaDoor

/-- All credits so many times as much. -/
def times (b : Nat) (st : List (Int × Nat)) : List (Int × Nat) := st.map fun x => (x.1, b * x.2)
theorem tenants_times (b : Nat) (st : List (Int × Nat)) : tenants (times b st) = tenants st := by unfold tenants times; rw [List.map_map]; rfl
theorem min_mul (b x y : Nat) : min (b * x) (b * y) = b * min x y := by
  by_cases h : x ≤ y
  · rw [Nat.min_eq_left h, Nat.min_eq_left (Nat.mul_le_mul_left _ h)]
  · have h2 : y ≤ x := by omega
    rw [Nat.min_eq_right h2, Nat.min_eq_right (Nat.mul_le_mul_left b h2)]
theorem leastOf_times (b : Nat) : ∀ st : List (Int × Nat), leastOf (times b st) = b * leastOf st
  | [] => rfl
  | x :: r => by
    have e : times b (x :: r) = (x.1, b * x.2) :: times b r := rfl
    rw [e, leastOf, leastOf]
    by_cases hr : r = []
    · subst hr; rfl
    · have hr2 : times b r ≠ [] := fun h => hr (List.map_eq_nil_iff.1 h)
      rw [if_neg hr, if_neg hr2, leastOf_times b r, min_mul]
theorem eraseP_times {b d : Nat} (hb : 1 ≤ b) : ∀ st : List (Int × Nat), ((times b st).eraseP fun x => x.2 == b * d) = times b (st.eraseP fun x => x.2 == d)
  | [] => rfl
  | x :: r => by
    have e : times b (x :: r) = (x.1, b * x.2) :: times b r := rfl
    rw [e]
    by_cases h : x.2 = d
    · rw [List.eraseP_cons_of_pos (by simp [h]), List.eraseP_cons_of_pos (by simpa using h)]
    · have h2 : ¬ (b * x.2 = b * d) := fun h3 => h (Nat.eq_of_mul_eq_mul_left hb h3)
      rw [List.eraseP_cons_of_neg (by simpa using h2), List.eraseP_cons_of_neg (by simpa using h), eraseP_times hb r]; rfl
theorem lessBy_times (b d : Nat) (st : List (Int × Nat)) : lessBy (b * d) (times b st) = times b (lessBy d st) := by
  unfold lessBy times
  rw [List.map_map, List.map_map]
  refine List.map_congr_left fun x _ => ?_
  simp only [Function.comp, Nat.mul_sub]
theorem letOut_times {b : Nat} (hb : 1 ≤ b) (st : List (Int × Nat)) : letOut (times b st) = times b (letOut st) := by
  unfold letOut
  rw [leastOf_times, eraseP_times hb, lessBy_times]
theorem again_times (b v : Nat) (p : Int) (st : List (Int × Nat)) : again p (b * v) (times b st) = times b (again p v st) := by
  unfold again times
  rw [List.map_map, List.map_map]
  refine List.map_congr_left fun x _ => ?_
  simp only [Function.comp]
  by_cases h : x.1 = p
  · rw [if_pos h, if_pos h]
  · rw [if_neg h, if_neg h]
theorem landS_times {s b : Nat} (hb : 1 ≤ b) (c : Int → Nat) (st : List (Int × Nat)) (p : Int) : landS s (fun q => b * c q) (times b st) p = times b (landS s c st p) := by
  unfold landS
  rw [tenants_times]
  by_cases h : (tenants st).contains p = true
  · rw [if_pos h, if_pos h]; exact again_times b (c p) p st
  · rw [if_neg h, if_neg h]
    have hl : (times b st).length = st.length := by unfold times; rw [List.length_map]
    rw [hl]
    by_cases hf : st.length = s
    · rw [if_pos hf, if_pos hf, letOut_times hb]
      unfold times; rw [List.map_append]; rfl
    · rw [if_neg hf, if_neg hf]
      unfold times; rw [List.map_append]; rfl
/-- Money is money. -/
theorem land_times {s b : Nat} (hb : 1 ≤ b) (c : Int → Nat) (l : List Int) : ∀ k, land s (fun q => b * c q) l k = times b (land s c l k)
  | 0 => rfl
  | k + 1 => by rw [land, land, land_times hb c l k, landS_times hb]
theorem lheld_times {s b : Nat} (hb : 1 ≤ b) (c : Int → Nat) (l : List Int) (k : Nat) : lheld s (fun q => b * c q) l k = lheld s c l k := by
  unfold lheld
  rw [land_times hb, tenants_times]
theorem paid_held {c : Int → Nat} {l : List Int} {A B : Nat → List Int} (h : ∀ k, A k = B k) (n : Nat) : paid c l A n = paid c l B n := by rw [show A = B from funext h]
theorem lpaid_times {s b : Nat} (hb : 1 ≤ b) (c : Int → Nat) (l : List Int) (n : Nat) : lpaid s (fun q => b * c q) l n = b * lpaid s c l n := by
  unfold lpaid
  rw [paid_held (lheld_times hb c l), paid_mul]
/-- A landlord hangs on the costs of what is asked for alone. -/
theorem land_congr {s : Nat} {c d : Int → Nat} {l : List Int} (h : ∀ p, p ∈ l → c p = d p) : ∀ k, k ≤ l.length → land s c l k = land s d l k
  | 0, _ => rfl
  | k + 1, hk => by
    have hl : k < l.length := by omega
    have hp : c (l[k]?.getD 0) = d (l[k]?.getD 0) := h _ (by rw [List.getElem?_eq_getElem hl]; exact List.getElem_mem hl)
    rw [land, land, land_congr h k (by omega)]
    unfold landS
    rw [hp]
theorem lpaid_congr {s : Nat} {c d : Int → Nat} {l : List Int} (h : ∀ p, p ∈ l → c p = d p) : ∀ n, n ≤ l.length → lpaid s c l n = lpaid s d l n
  | 0, _ => rfl
  | n + 1, hn => by
    have hl : n < l.length := by omega
    have ih := lpaid_congr (s := s) h n (by omega)
    have hp : c (l[n]?.getD 0) = d (l[n]?.getD 0) := h _ (by rw [List.getElem?_eq_getElem hl]; exact List.getElem_mem hl)
    unfold lpaid at ih ⊢
    rw [paid, paid, ih, hp]
    unfold hitOf lheld
    rw [land_congr h n (by omega)]
/-- At the end the page that was asked for last is there, with all its cost. -/
theorem land_last {s : Nat} (hs : 1 ≤ s) (c : Int → Nat) (l : List Int) (k : Nat) : l[k]?.getD 0 ∈ tenants (land s c l (k+1)) ∧ ∀ x, x ∈ land s c l (k+1) → x.1 = l[k]?.getD 0 → x.2 = c x.1 := by
  have hi := land_inv hs c l (k+1)
  rw [land] at hi ⊢
  generalize l[k]?.getD 0 = p at *
  generalize land s c l k = st at *
  unfold landS at hi ⊢
  by_cases h : (tenants st).contains p = true
  · rw [if_pos h]
    refine ⟨by rw [tenants_again]; exact List.contains_iff_mem.1 h, fun x hx e => ?_⟩
    obtain ⟨y, hy, rfl⟩ := List.mem_map.1 hx
    by_cases he : y.1 = p
    · rw [if_pos he]; show c p = c y.1; rw [he]
    · rw [if_neg he] at e; exact absurd e he
  · rw [if_neg h] at hi ⊢
    refine ⟨by rw [tenants_snoc]; simp, fun x hx e => ?_⟩
    have h1 := cr_mem hi.nd hx
    have hout : p ∉ tenants (if st.length = s then letOut st else st) := by
      have hb : (tenants (if st.length = s then letOut st else st)).Sublist (tenants st) := by
        split
        · exact letOut_sub st
        · exact List.Sublist.refl _
      exact fun hm => h (List.contains_iff_mem.2 (hb.subset hm))
    rw [cr_snoc hout, if_pos e] at h1
    rw [← h1, e]

/-- Who lets go only where he must: behind n requests he has the pages S, and paid x. -/
inductive Lazy (s : Nat) (c : Int → Nat) (l : List Int) : Nat → List Int → Nat → Prop
  | start : Lazy s c l 0 [] 0
  | there {n S x} : Lazy s c l n S x → n < l.length → l[n]?.getD 0 ∈ S → Lazy s c l (n+1) S x
  | room {n S x} : Lazy s c l n S x → n < l.length → l[n]?.getD 0 ∉ S → S.length < s → Lazy s c l (n+1) (l[n]?.getD 0 :: S) (x + c (l[n]?.getD 0))
  | goes {n S x q} : Lazy s c l n S x → n < l.length → l[n]?.getD 0 ∉ S → S.length = s → q ∈ S → Lazy s c l (n+1) (l[n]?.getD 0 :: S.erase q) (x + c (l[n]?.getD 0))
theorem Lazy.facts {s : Nat} {c : Int → Nat} {l : List Int} {n : Nat} {S : List Int} {x : Nat} (h : Lazy s c l n S x) : n ≤ l.length ∧ S.Nodup ∧ S.length ≤ s ∧ ∀ p, p ∈ S → p ∈ l := by
  have hm : ∀ {n : Nat}, n < l.length → l[n]?.getD 0 ∈ l := fun hn => by rw [List.getElem?_eq_getElem hn]; exact List.getElem_mem hn
  induction h with
  | start => exact ⟨Nat.zero_le _, List.nodup_nil, Nat.zero_le _, fun p hp => by cases hp⟩
  | there _ hn _ ih => exact ⟨hn, ih.2⟩
  | room _ hn ho hr ih =>
    refine ⟨hn, List.nodup_cons.2 ⟨ho, ih.2.1⟩, by rw [List.length_cons]; omega, fun p hp => ?_⟩
    rcases List.mem_cons.1 hp with rfl | hp
    · exact hm hn
    · exact ih.2.2.2 p hp
  | goes _ hn ho hr hq ih =>
    refine ⟨hn, List.nodup_cons.2 ⟨fun h => ho (List.mem_of_mem_erase h), ih.2.1.erase _⟩, ?_, fun p hp => ?_⟩
    · rw [List.length_cons, List.length_erase_of_mem hq]
      have := List.length_pos_of_mem hq
      omega
    · rcases List.mem_cons.1 hp with rfl | hp
      · exact hm hn
      · exact ih.2.2.2 p (List.mem_of_mem_erase hp)
/-- It is a store. -/
theorem Lazy.sched {s : Nat} {c : Int → Nat} {l : List Int} {n : Nat} {S : List Int} {x : Nat} (h : Lazy s c l n S x) : ∃ H, Sched s (l.take n) H ∧ H n = S ∧ paid c l H n = x := by
  have step : ∀ {n : Nat} {S S' : List Int} {H : Nat → List Int}, n < l.length → Sched s (l.take n) H → H n = S → S'.Nodup → S'.length ≤ s → l[n]?.getD 0 ∈ S' → (∀ p, p ∈ S' → p = l[n]?.getD 0 ∨ p ∈ S) →
      Sched s (l.take (n+1)) (fun k => if k ≤ n then H k else S') ∧ paid c l (fun k => if k ≤ n then H k else S') (n+1) = paid c l H n + (if S.contains (l[n]?.getD 0) then 0 else c (l[n]?.getD 0)) := by
    intro n S S' H hn hS hH h1 h2 h3 h4
    have ht : (l.take n).length = n := by rw [List.length_take]; omega
    have hget : ∀ {m k : Nat}, k < m → (l.take m)[k]?.getD 0 = l[k]?.getD 0 := fun h => by rw [List.getElem?_take_of_lt h]
    have hp : ∀ m, m ≤ n → paid c l (fun k => if k ≤ n then H k else S') m = paid c l H m := by
      intro m
      induction m with
      | zero => intro _; rfl
      | succ m ih =>
        intro hm
        rw [paid, paid, ih (by omega)]
        unfold hitOf
        simp only [if_pos (show m ≤ n by omega)]
    refine ⟨Sched.steps (by simp [hS.start]) fun k hk _ _ => ?_, ?_⟩
    · rw [List.length_take] at hk
      rw [hget (by omega)]
      by_cases he : k = n
      · subst he
        simp only [if_pos (Nat.le_refl k), if_neg (show ¬ (k + 1 ≤ k) by omega)]
        exact ⟨h1, h2, h3, fun p hp => by rw [hH]; exact h4 p hp⟩
      · simp only [if_pos (show k ≤ n by omega), if_pos (show k + 1 ≤ n by omega)]
        have hkt : k < (l.take n).length := by omega
        have g := hS.got k hkt
        have u := hS.sub k hkt
        rw [hget (by omega)] at g u
        exact ⟨hS.nd (k+1) (by omega), hS.le (k+1) (by omega), g, u⟩
    · rw [paid, hp n (Nat.le_refl _)]
      unfold hitOf
      simp only [if_pos (Nat.le_refl n), hH]
  induction h with
  | start => exact ⟨fun _ => [], Sched.steps rfl (fun k hk => by simp at hk), rfl, rfl⟩
  | there h hn hp ih =>
    obtain ⟨H, a, b, d⟩ := ih
    have f := h.facts
    obtain ⟨u, v⟩ := step hn a b f.2.1 f.2.2.1 hp fun p hp => .inr hp
    exact ⟨_, u, if_neg (by omega), by rw [v, d, if_pos (List.contains_iff_mem.2 hp)]; rfl⟩
  | room h hn ho hr ih =>
    obtain ⟨H, a, b, d⟩ := ih
    have f := (Lazy.room h hn ho hr).facts
    obtain ⟨u, v⟩ := step hn a b f.2.1 f.2.2.1 (by simp) fun p hp => List.mem_cons.1 hp
    exact ⟨_, u, if_neg (by omega), by rw [v, d, if_neg (fun e => ho (List.contains_iff_mem.1 e))]⟩
  | goes h hn ho hr hq ih =>
    obtain ⟨H, a, b, d⟩ := ih
    have f := (Lazy.goes h hn ho hr hq).facts
    obtain ⟨u, v⟩ := step hn a b f.2.1 f.2.2.1 (by simp) fun p hp => (List.mem_cons.1 hp).imp id fun h => List.mem_of_mem_erase h
    exact ⟨_, u, if_neg (by omega), by rw [v, d, if_neg (fun e => ho (List.contains_iff_mem.1 e))]⟩
/-- Who lets go sooner pays no less. -/
theorem lazy_low {s : Nat} {c : Int → Nat} {l : List Int} {H : Nat → List Int} (hS : Sched s l H) : ∀ n, n ≤ l.length → ∃ S x, Lazy s c l n S x ∧ (∀ p, p ∈ H n → p ∈ S) ∧ x ≤ paid c l H n
  | 0, _ => ⟨[], 0, .start, fun p hp => by rw [hS.start] at hp; exact hp, Nat.le_refl _⟩
  | n + 1, hn => by
    obtain ⟨S, x, hz, hsub, hx⟩ := lazy_low (c := c) hS n (by omega)
    have hl : n < l.length := by omega
    have f := hz.facts
    have e : paid c l H (n+1) = paid c l H n + (if hitOf l H n then 0 else c (l[n]?.getD 0)) := rfl
    by_cases hp : l[n]?.getD 0 ∈ S
    · refine ⟨S, x, .there hz hl hp, fun p hq => ?_, by omega⟩
      rcases hS.sub n hl p hq with rfl | h
      · exact hp
      · exact hsub p h
    · have hh : ¬ (hitOf l H n = true) := fun h => hp (hsub _ (List.contains_iff_mem.1 h))
      rw [if_neg hh] at e
      by_cases hr : S.length < s
      · refine ⟨_, _, .room hz hl hp hr, fun p hq => ?_, by omega⟩
        rcases hS.sub n hl p hq with rfl | h
        · simp
        · exact List.mem_cons_of_mem _ (hsub p h)
      · have hs : S.length = s := by omega
        obtain ⟨q, hq, hqo⟩ : ∃ q, q ∈ S ∧ q ∉ H (n+1) := by
          apply Classical.byContradiction
          intro hno
          have hall : ∀ q, q ∈ S → q ∈ H (n+1) := fun q hq => Classical.byContradiction fun h => hno ⟨q, hq, h⟩
          have := length_le_of_subset (A := l[n]?.getD 0 :: S) (B := H (n+1)) (List.nodup_cons.2 ⟨hp, f.2.1⟩) fun p h => by
            rcases List.mem_cons.1 h with rfl | h
            · exact hS.got n hl
            · exact hall p h
          rw [List.length_cons] at this
          have := hS.le (n+1) hn
          omega
        refine ⟨_, _, .goes hz hl hp hs hq, fun p hq2 => ?_, by omega⟩
        rcases hS.sub n hl p hq2 with rfl | h
        · simp
        · have hne : p ≠ q := fun e => hqo (e ▸ hq2)
          exact List.mem_cons_of_mem _ ((List.mem_erase_of_ne hne).2 (hsub p h))
/-- The least from state to state is the least. -/
theorem least_lazy {s : Nat} {c : Int → Nat} {l : List Int} {x : Nat} (h1 : ∃ S, Lazy s c l l.length S x) (h2 : ∀ S y, Lazy s c l l.length S y → x ≤ y) : IsLeast s c l x := by
  obtain ⟨S, hz⟩ := h1
  obtain ⟨H, a, _, d⟩ := hz.sched
  rw [List.take_length] at a
  refine ⟨⟨H, a, d⟩, fun B hB => ?_⟩
  obtain ⟨T, y, hy, _, hle⟩ := lazy_low (c := c) hB l.length (Nat.le_refl _)
  exact Nat.le_trans (h2 T y hy) hle
/-- Some state there always is. -/
theorem can_some {s : Nat} (hs : 1 ≤ s) (c : Int → Nat) (l : List Int) : ∀ n, n ≤ l.length → ∃ S x, Lazy s c l n S x
  | 0, _ => ⟨[], 0, .start⟩
  | n + 1, hn => by
    obtain ⟨S, x, h⟩ := can_some hs c l n (by omega)
    have hl : n < l.length := by omega
    by_cases hp : l[n]?.getD 0 ∈ S
    · exact ⟨S, x, .there h hl hp⟩
    · by_cases hr : S.length < s
      · exact ⟨_, _, .room h hl hp hr⟩
      · have := h.facts.2.2.1
        have h0 : S ≠ [] := fun e => by rw [e] at hr; simp at hr; omega
        obtain ⟨q, r, rfl⟩ := List.exists_cons_of_ne_nil h0
        exact ⟨_, _, .goes h hl hp (by omega) (List.mem_cons_self)⟩
end Go.Proofs.YtedmfehjifknbaaDoor
