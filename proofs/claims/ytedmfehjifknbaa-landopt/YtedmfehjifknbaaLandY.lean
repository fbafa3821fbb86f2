/- Lists alone, for chapter 10: Young's theorem, and the least that anybody pays. -/
import Derived.Test.YtedmfehjifknbaaLists
import Derived.Test.YtedmfehjifknbaaOptL
namespace Go.Proofs.Ytedmfehjifknbaa

/-- What another one's pages could cost beyond their credits. -/
def due (c : Int → Nat) (st : List (Int × Nat)) (H : List Int) : Nat := sumOn (fun f => c f - cr st f) H
theorem due_change {c : Int → Nat} {st st' : List (Int × Nat)} {H : List Int} {p : Int} (hH : H.Nodup) (hp : p ∈ H) (h1 : cr st' p = c p) (h2 : ∀ q, q ≠ p → cr st' q = cr st q) : due c st' H + (c p - cr st p) = due c st H := by
  unfold due
  rw [sumOn_erase hp, sumOn_erase (A := H) hp, h1, sumOn_congr (f := fun f => c f - cr st' f) (g := fun f => c f - cr st f) (A := H.erase p) fun q hq => by
    have : q ≠ p := fun e => hH.not_mem_erase (e ▸ hq)
    simp only [h2 q this]]
  omega
theorem due_moves {h : Nat} {c : Int → Nat} {l : List Int} {H : Nat → List Int} (hS : Sched h l H) (st : List (Int × Nat)) {n : Nat} (hn : n < l.length) : due c st (H (n+1)) ≤ due c st (H n) + (if hitOf l H n then 0 else c (l[n]?.getD 0)) := by
  unfold due
  have hnd := hS.nd (n+1) (by omega)
  by_cases hh : hitOf l H n = true
  · rw [if_pos hh]
    exact sumOn_sub hnd fun p hp => by
      rcases hS.sub n hn p hp with e | e
      · rw [e]; exact List.contains_iff_mem.1 hh
      · exact e
  · rw [if_neg hh]
    have := sumOn_sub (f := fun f => c f - cr st f) (B := (l[n]?.getD 0) :: H n) hnd fun p hp => List.mem_cons.2 (hS.sub n hn p hp)
    rw [sumOn] at this
    omega
theorem many_less {q : Int → Bool} {p : Int} {A : List Int} (h : p ∈ A) (hq : q p = false) : many q A + 1 ≤ A.length := by
  rw [many_erase h, hq]
  have := many_le q (A.erase p)
  rw [List.length_erase_of_mem h] at this
  have := List.length_pos_of_mem h
  simp; omega
/-- All credits are less: what another one's pages are due is not more than that, for he has one that is not here. -/
theorem due_less {h : Nat} {c : Int → Nat} {st : List (Int × Nat)} {H : List Int} {p : Int} (hn : (tenants st).Nodup) (h0 : st ≠ []) (hH : H.length ≤ h) (hp : p ∈ H) (hout : p ∉ tenants st) : due c (letOut st) H ≤ due c st H + leastOf st * (h - 1) := by
  obtain ⟨_, hc⟩ := letOut_facts hn h0
  have h1 : due c (letOut st) H ≤ sumOn (fun f => (c f - cr st f) + (if (tenants st).contains f then leastOf st else 0)) H := by
    refine sumOn_le fun f _ => ?_
    simp only [hc f]
    by_cases hf : f ∈ tenants st
    · rw [if_pos (List.contains_iff_mem.2 hf)]; omega
    · rw [cr_out hf, if_neg (fun h => hf (List.contains_iff_mem.1 h))]; omega
  rw [sumOn_add, sumOn_some] at h1
  have h2 := many_less (q := fun f => (tenants st).contains f) hp (by
    cases hx : (tenants st).contains p
    · rfl
    · exact absurd (List.contains_iff_mem.1 hx) hout)
  have h3 : leastOf st * many (fun f => (tenants st).contains f) H ≤ leastOf st * (h - 1) := Nat.mul_le_mul_left _ (by omega)
  exact Nat.le_trans h1 (Nat.add_le_add_left h3 _)

/-- Young: no worse than anybody, as slots go. -/
theorem young {a b : Nat} (hb : 1 ≤ b) {c : Int → Nat} {l : List Int} {H : Nat → List Int} (hS : Sched (a+1) l H) : ∀ n, n ≤ l.length →
    b * lpaid (a+b) c l n + a * tot (land (a+b) c l n) + (a+b) * due c (land (a+b) c l n) (H n) ≤ (a+b) * paid c l H n
  | 0, _ => by
    rw [hS.start]
    simp [lpaid, paid, land, tot, due, sumOn]
  | n + 1, hn => by
    have ih := young hb (c := c) hS n (by omega)
    have hmv := due_moves (c := c) hS (land (a+b) c l n) (n := n) (by omega)
    have hin := hS.got n (by omega)
    have hnd := hS.nd (n+1) hn
    have hlen := hS.le (n+1) hn
    have hi := land_inv (s := a+b) (by omega) c l n
    have hcr := cr_le hi (l[n]?.getD 0)
    have e1 : paid c l H (n+1) = paid c l H n + (if hitOf l H n then 0 else c (l[n]?.getD 0)) := rfl
    have e2 : lpaid (a+b) c l (n+1) = lpaid (a+b) c l n + (if (tenants (land (a+b) c l n)).contains (l[n]?.getD 0) then 0 else c (l[n]?.getD 0)) := rfl
    have e3 : land (a+b) c l (n+1) = landS (a+b) c (land (a+b) c l n) (l[n]?.getD 0) := rfl
    rw [e1, e2, e3]
    generalize (if hitOf l H n then 0 else c (l[n]?.getD 0)) = o at *
    generalize land (a+b) c l n = st at *
    generalize l[n]?.getD 0 = p at *
    generalize lpaid (a+b) c l n = L at *
    generalize paid c l H n = P at *
    have hmv2 : (a+b) * due c st (H (n+1)) ≤ (a+b) * due c st (H n) + (a+b) * o := by rw [← Nat.mul_add]; exact Nat.mul_le_mul_left _ hmv
    rw [Nat.mul_add (a+b) P o]
    unfold landS
    by_cases hp : (tenants st).contains p = true
    · rw [if_pos hp, if_pos hp]
      have hpm := List.contains_iff_mem.1 hp
      have ht := tot_again (v := c p) hi.nd hpm
      have hd := due_change (c := c) (st := st) (st' := again p (c p) st) hnd hin (by rw [cr_again hpm, if_pos rfl]) fun q hq => by rw [cr_again hpm, if_neg hq]
      obtain ⟨x, hx⟩ : ∃ x, x = c p - cr st p := ⟨_, rfl⟩
      rw [← hx] at hd
      have ht2 : tot (again p (c p) st) = tot st + x := by omega
      rw [← hd, Nat.mul_add, Nat.add_mul a b x] at hmv2
      rw [ht2, Nat.mul_add a, Nat.add_zero]
      have : b * x = b * x := rfl
      omega
    · rw [if_neg hp, if_neg hp]
      have hout : p ∉ tenants st := fun hm => hp (List.contains_iff_mem.2 hm)
      have key : ∃ st1, (if st.length = a + b then letOut st else st) = st1 ∧ p ∉ tenants st1 ∧ a * tot st1 + (a+b) * due c st1 (H (n+1)) ≤ a * tot st + (a+b) * due c st (H (n+1)) := by
        by_cases hf : st.length = a + b
        · rw [if_pos hf]
          have h0 : st ≠ [] := by intro e; subst e; simp at hf; omega
          refine ⟨_, rfl, fun hm => hout ((letOut_sub st).subset hm), ?_⟩
          have hl := due_less (c := c) hi.nd h0 hlen hin hout
          obtain ⟨ht, _⟩ := letOut_facts hi.nd h0
          rw [hf] at ht
          rw [Nat.add_sub_cancel] at hl
          have k1 : (a+b) * due c (letOut st) (H (n+1)) ≤ (a+b) * due c st (H (n+1)) + (a+b) * (leastOf st * a) := by rw [← Nat.mul_add]; exact Nat.mul_le_mul_left _ hl
          have k2 : a * tot st = a * tot (letOut st) + a * (leastOf st * (a+b)) := by rw [← Nat.mul_add, ht]
          have k3 : (a+b) * (leastOf st * a) = a * (leastOf st * (a+b)) := by rw [Nat.mul_comm (a+b), Nat.mul_comm a, Nat.mul_assoc, Nat.mul_assoc, Nat.mul_comm a]
          omega
        · rw [if_neg hf]
          exact ⟨_, rfl, hout, Nat.le_refl _⟩
      obtain ⟨st1, hst, hout1, hk⟩ := key
      rw [hst]
      have hd := due_change (c := c) (st := st1) (st' := st1 ++ [(p, c p)]) hnd hin (by rw [cr_snoc hout1, if_pos rfl]) fun q hq => by rw [cr_snoc hout1, if_neg hq]
      rw [cr_out hout1, Nat.sub_zero] at hd
      have ht : tot (st1 ++ [(p, c p)]) = tot st1 + c p := by rw [tot_append]; rfl
      rw [← hd, Nat.mul_add, Nat.add_mul a b (c p)] at hk
      rw [ht, Nat.mul_add b, Nat.mul_add a]
      omega

/-- x is the least that anybody pays. -/
structure IsLeast (s : Nat) (c : Int → Nat) (l : List Int) (x : Nat) : Prop where
  some : ∃ H, Sched s l H ∧ paid c l H l.length = x
  all : ∀ H, Sched s l H → x ≤ paid c l H l.length
theorem least_unique {s : Nat} {c : Int → Nat} {l : List Int} {x y : Nat} (hx : IsLeast s c l x) (hy : IsLeast s c l y) : x = y := by
  obtain ⟨A, a1, a2⟩ := hx.some
  obtain ⟨B, b1, b2⟩ := hy.some
  have := hx.all B b1
  have := hy.all A a1
  omega
theorem least_young {k h : Nat} (h1 : 1 ≤ h) (hk : h ≤ k) {c : Int → Nat} {l : List Int} {x : Nat} (hx : IsLeast h c l x) : (k - h + 1) * lpaid k c l l.length ≤ k * x := by
  obtain ⟨H, hS, he⟩ := hx.some
  obtain ⟨a, rfl⟩ : ∃ a, h = a + 1 := ⟨h - 1, by omega⟩
  obtain ⟨b, hb⟩ : ∃ b, b = k - (a + 1) + 1 := ⟨_, rfl⟩
  have := young (a := a) (b := b) (by omega) (c := c) hS l.length (Nat.le_refl _)
  rw [show a + b = k by omega, he] at this
  rw [← hb]
  omega
theorem least_land {s : Nat} (hs : 1 ≤ s) {c : Int → Nat} {l : List Int} {x : Nat} (hx : IsLeast s c l x) : x ≤ lpaid s c l l.length := hx.all _ (sched_land hs c l)
theorem sched_more {s t : Nat} (h : s ≤ t) {l : List Int} {H : Nat → List Int} (hS : Sched s l H) : Sched t l H := ⟨hS.start, hS.nd, fun k hk => Nat.le_trans (hS.le k hk) h, hS.got, hS.sub⟩
theorem least_more {s t : Nat} (h : s ≤ t) {c : Int → Nat} {l : List Int} {x y : Nat} (hx : IsLeast s c l x) (hy : IsLeast t c l y) : y ≤ x := by
  obtain ⟨H, hS, he⟩ := hx.some
  rw [← he]; exact hy.all H (sched_more h hS)
/-- Each page that is asked for is paid for. -/
theorem held_asked {s : Nat} {l : List Int} {H : Nat → List Int} (hS : Sched s l H) : ∀ n, n ≤ l.length → ∀ p, p ∈ H n → p ∈ l.take n
  | 0, _, p, hp => by rw [hS.start] at hp; cases hp
  | n + 1, hn, p, hp => by
    have hl : n < l.length := by omega
    rw [List.take_succ_eq_append_getElem hl, List.mem_append, List.mem_singleton]
    rcases hS.sub n hl p hp with e | e
    · rw [List.getElem?_eq_getElem hl] at e; exact .inr e
    · exact .inl (held_asked hS n (by omega) p e)
theorem paid_once {s : Nat} {c : Int → Nat} {l : List Int} {H : Nat → List Int} (hS : Sched s l H) : ∀ n, n ≤ l.length → sumOn c (full (l.take n)) ≤ paid c l H n
  | 0, _ => by simp [full, mru, sumOn]
  | n + 1, hn => by
    have ih := paid_once (c := c) hS n (by omega)
    have hl : n < l.length := by omega
    have e : paid c l H (n+1) = paid c l H n + (if hitOf l H n then 0 else c (l[n]?.getD 0)) := rfl
    rw [full_succ hl, sumOn, e]
    by_cases hm : l[n]?.getD 0 ∈ full (l.take n)
    · rw [← sumOn_erase hm]; omega
    · rw [List.erase_of_not_mem hm]
      have hh : ¬ (hitOf l H n = true) := fun h => hm (full_mem.2 (held_asked hS n (by omega) _ (List.contains_iff_mem.1 h)))
      rw [if_neg hh]; omega
theorem least_once {s : Nat} {c : Int → Nat} {l : List Int} {x : Nat} (hx : IsLeast s c l x) : sumOn c (full l) ≤ x := by
  obtain ⟨H, hS, he⟩ := hx.some
  have := paid_once (c := c) hS l.length (Nat.le_refl _)
  rwa [List.take_length, he] at this
/-- What is paid hangs on the costs of the pages that are asked for alone. -/
theorem paid_congr {c d : Int → Nat} {l : List Int} (h : ∀ p, p ∈ l → c p = d p) (H : Nat → List Int) : ∀ n, n ≤ l.length → paid c l H n = paid d l H n
  | 0, _ => rfl
  | n + 1, hn => by
    have hl : n < l.length := by omega
    rw [paid, paid, paid_congr h H n (by omega), h (l[n]?.getD 0) (by rw [List.getElem?_eq_getElem hl]; exact List.getElem_mem hl)]
theorem least_congr {s : Nat} {c d : Int → Nat} {l : List Int} (h : ∀ p, p ∈ l → c p = d p) {x : Nat} (hx : IsLeast s c l x) : IsLeast s d l x := by
  obtain ⟨H, hS, he⟩ := hx.some
  exact ⟨⟨H, hS, by rw [← paid_congr h H _ (Nat.le_refl _)]; exact he⟩, fun B hB => by rw [← paid_congr h B _ (Nat.le_refl _)]; exact hx.all B hB⟩
theorem paid_mul (b : Nat) (c : Int → Nat) (l : List Int) (H : Nat → List Int) : ∀ n, paid (fun p => b * c p) l H n = b * paid c l H n
  | 0 => rfl
  | n + 1 => by
    rw [paid, paid, paid_mul b c l H n, Nat.mul_add]
    split <;> rfl
theorem least_mul {s : Nat} {c : Int → Nat} {l : List Int} (b : Nat) {x : Nat} (hx : IsLeast s c l x) : IsLeast s (fun p => b * c p) l (b * x) := by
  obtain ⟨H, hS, he⟩ := hx.some
  exact ⟨⟨H, hS, by rw [paid_mul, he]⟩, fun B hB => by rw [paid_mul]; exact Nat.mul_le_mul_left _ (hx.all B hB)⟩
theorem paid_mc (l : List Int) (H : Nat → List Int) : ∀ n, paid (fun _ => 1) l H n = mc (hitOf l H) n
  | 0 => rfl
  | n + 1 => by rw [paid, mc, paid_mc l H n]
/-- Belady: where all cost one. -/
theorem least_opt {s : Nat} (hs : 1 ≤ s) {l : List Int} (hl : inPages l) : IsLeast s (fun _ => 1) l (mc (ohit s l) l.length) := by
  refine ⟨⟨_, sched_opt hs hl, by rw [paid_mc, hits_opt]⟩, fun B hB => ?_⟩
  rw [paid_mc]
  have h1 := best_most (sched_opt hs hl) hB (best_opt hs hl)
  rw [hits_opt] at h1
  have h2 := mc_count (ohit s l) l.length
  have h3 := mc_count (hitOf l B) l.length
  omega
theorem least_each {s : Nat} (hs : 1 ≤ s) {l : List Int} (hl : inPages l) (e : Nat) : IsLeast s (fun _ => e) l (e * mc (ohit s l) l.length) := by
  have := least_mul e (least_opt hs hl)
  simpa using this
end Go.Proofs.Ytedmfehjifknbaa
