/- Lists alone, for chapter 10: pages that cost; a landlord; no worse than anybody, as slots go. -/
import Derived.Test.YtedmfehjifknbaaDoorPhaseL
namespace Go.Proofs.YtedmfehjifknbaaDoor

/-- A sum over a list. -/
def sumOn (f : Int → Nat) : List Int → Nat
  | [] => 0
  | p :: A => f p + sumOn f A
theorem sumOn_append (f : Int → Nat) (A B : List Int) : sumOn f (A ++ B) = sumOn f A + sumOn f B := by
  induction A with
  | nil => simp [sumOn]
  | cons x A ih => rw [List.cons_append, sumOn, sumOn, ih]; omega
theorem sumOn_le {f g : Int → Nat} : ∀ {A : List Int}, (∀ p, p ∈ A → f p ≤ g p) → sumOn f A ≤ sumOn g A
  | [], _ => Nat.le_refl _
  | x :: A, h => by
    have := sumOn_le (f := f) (g := g) (A := A) fun p hp => h p (by simp [hp])
    have := h x (by simp)
    rw [sumOn, sumOn]; omega
theorem sumOn_congr {f g : Int → Nat} {A : List Int} (h : ∀ p, p ∈ A → f p = g p) : sumOn f A = sumOn g A :=
  Nat.le_antisymm (sumOn_le fun p hp => Nat.le_of_eq (h p hp)) (sumOn_le fun p hp => Nat.le_of_eq (h p hp).symm)
theorem sumOn_erase {f : Int → Nat} {p : Int} : ∀ {A : List Int}, p ∈ A → sumOn f A = f p + sumOn f (A.erase p)
  | [], h => by simp at h
  | x :: A, h => by
    by_cases hx : x = p
    · subst hx; rw [List.erase_cons_head, sumOn]
    · rw [List.erase_cons_tail (by simpa using hx), sumOn, sumOn, sumOn_erase (A := A) (by simpa [Ne.symm hx] using h)]
      omega
theorem sumOn_sub {f : Int → Nat} : ∀ {A B : List Int}, A.Nodup → (∀ p, p ∈ A → p ∈ B) → sumOn f A ≤ sumOn f B
  | [], _, _, _ => Nat.zero_le _
  | x :: A, B, h, hs => by
    rw [List.nodup_cons] at h
    have hx : x ∈ B := hs x (by simp)
    have := sumOn_sub (f := f) (B := B.erase x) h.2 fun p hp => by
      have hne : p ≠ x := fun e => h.1 (e ▸ hp)
      rw [List.mem_erase_of_ne hne]
      exact hs p (by simp [hp])
    rw [sumOn, sumOn_erase hx]; omega
theorem sumOn_same {f : Int → Nat} {A B : List Int} (hA : A.Nodup) (hB : B.Nodup) (h : ∀ p, p ∈ A ↔ p ∈ B) : sumOn f A = sumOn f B :=
  Nat.le_antisymm (sumOn_sub hA fun p hp => (h p).1 hp) (sumOn_sub hB fun p hp => (h p).2 hp)
theorem sumOn_mul (f : Int → Nat) (b : Nat) (A : List Int) : sumOn (fun p => b * f p) A = b * sumOn f A := by
  induction A with
  | nil => simp [sumOn]
  | cons x A ih => rw [sumOn, sumOn, ih, Nat.mul_add]
theorem sumOn_add (f g : Int → Nat) (A : List Int) : sumOn (fun p => f p + g p) A = sumOn f A + sumOn g A := by
  induction A with
  | nil => rfl
  | cons x A ih => rw [sumOn, sumOn, sumOn, ih]; omega
theorem sumOn_some {q : Int → Bool} {d : Nat} (A : List Int) : sumOn (fun p => if q p then d else 0) A = d * many q A := by
  induction A with
  | nil => simp [sumOn, many]
  | cons x A ih =>
    rw [sumOn, ih, many_cons]
    split
    · rw [Nat.mul_add, Nat.mul_one]
    · rw [Nat.zero_add, Nat.zero_add]

/-- What all that came among the first k requests cost. -/
def paid (c : Int → Nat) (l : List Int) (H : Nat → List Int) : Nat → Nat
  | 0 => 0
  | k + 1 => paid c l H k + (if hitOf l H k then 0 else c (l[k]?.getD 0))

/-- A state of a landlord: pages and credits. -/
def tenants (st : List (Int × Nat)) : List Int := st.map fun x => x.1
def leastOf : List (Int × Nat) → Nat
  | [] => 0
  | x :: r => if r = [] then x.2 else min x.2 (leastOf r)
theorem leastOf_le : ∀ {st : List (Int × Nat)} {x}, x ∈ st → leastOf st ≤ x.2
  | y :: r, x, h => by
    rw [leastOf]
    rcases List.mem_cons.1 h with rfl | h
    · split
      · exact Nat.le_refl _
      · exact Nat.min_le_left _ _
    · rw [if_neg (List.ne_nil_of_mem h)]
      exact Nat.le_trans (Nat.min_le_right _ _) (leastOf_le h)
theorem leastOf_mem : ∀ {st : List (Int × Nat)}, st ≠ [] → ∃ x, x ∈ st ∧ x.2 = leastOf st
  | [], h => absurd rfl h
  | y :: r, _ => by
    rw [leastOf]
    by_cases hr : r = []
    · rw [if_pos hr]; exact ⟨y, by simp, rfl⟩
    · rw [if_neg hr]
      obtain ⟨x, hx, e⟩ := leastOf_mem hr
      by_cases hm : y.2 ≤ leastOf r
      · rw [Nat.min_eq_left hm]; exact ⟨y, by simp, rfl⟩
      · rw [Nat.min_eq_right (by omega)]; exact ⟨x, by simp [hx], e⟩
def lessBy (d : Nat) (st : List (Int × Nat)) : List (Int × Nat) := st.map fun x => (x.1, x.2 - d)
/-- All credits are less by the least of them; the first one that has none left goes. -/
def letOut (st : List (Int × Nat)) : List (Int × Nat) := lessBy (leastOf st) (st.eraseP fun x => x.2 == leastOf st)
def again (p : Int) (v : Nat) (st : List (Int × Nat)) : List (Int × Nat) := st.map fun x => if x.1 = p then (x.1, v) else x
def landS (s : Nat) (c : Int → Nat) (st : List (Int × Nat)) (p : Int) : List (Int × Nat) :=
  if (tenants st).contains p then again p (c p) st else (if st.length = s then letOut st else st) ++ [(p, c p)]
def land (s : Nat) (c : Int → Nat) (l : List Int) : Nat → List (Int × Nat)
  | 0 => []
  | k + 1 => landS s c (land s c l k) (l[k]?.getD 0)
def lheld (s : Nat) (c : Int → Nat) (l : List Int) (k : Nat) : List Int := tenants (land s c l k)
def lpaid (s : Nat) (c : Int → Nat) (l : List Int) (n : Nat) : Nat := paid c l (lheld s c l) n

theorem tenants_lessBy (d : Nat) (st : List (Int × Nat)) : tenants (lessBy d st) = tenants st := by unfold tenants lessBy; rw [List.map_map]; rfl
theorem tenants_again (p : Int) (v : Nat) (st : List (Int × Nat)) : tenants (again p v st) = tenants st := by
  unfold tenants again
  rw [List.map_map]
  refine List.map_congr_left fun x _ => ?_
  simp only [Function.comp]
  split <;> rfl
theorem tenants_snoc (st : List (Int × Nat)) (x : Int × Nat) : tenants (st ++ [x]) = tenants st ++ [x.1] := by simp [tenants]
theorem letOut_sub (st : List (Int × Nat)) : (tenants (letOut st)).Sublist (tenants st) := by
  unfold letOut
  rw [tenants_lessBy]
  exact List.eraseP_sublist.map _
theorem letOut_length {st : List (Int × Nat)} (h : st ≠ []) : (letOut st).length = st.length - 1 := by
  obtain ⟨x, hx, e⟩ := leastOf_mem h
  unfold letOut lessBy
  rw [List.length_map, List.length_eraseP_of_mem hx (by rw [e]; simp)]

structure LInv (s : Nat) (c : Int → Nat) (st : List (Int × Nat)) : Prop where
  nd : (tenants st).Nodup
  le : st.length ≤ s
  cr : ∀ x, x ∈ st → x.2 ≤ c x.1
theorem landS_inv {s : Nat} (hs : 1 ≤ s) {c : Int → Nat} {st : List (Int × Nat)} (h : LInv s c st) (p : Int) : LInv s c (landS s c st p) := by
  unfold landS
  by_cases hp : (tenants st).contains p = true
  · rw [if_pos hp]
    refine ⟨by rw [tenants_again]; exact h.nd, by unfold again; rw [List.length_map]; exact h.le, fun x hx => ?_⟩
    obtain ⟨y, hy, rfl⟩ := List.mem_map.1 hx
    by_cases he : y.1 = p
    · rw [if_pos he]; show c p ≤ c y.1; rw [he]; exact Nat.le_refl _
    · rw [if_neg he]; exact h.cr y hy
  · rw [if_neg hp]
    have hout : p ∉ tenants st := fun hm => hp (List.contains_iff_mem.2 hm)
    have hb : (tenants (if st.length = s then letOut st else st)).Sublist (tenants st) := by
      split
      · exact letOut_sub st
      · exact List.Sublist.refl _
    refine ⟨?_, ?_, fun x hx => ?_⟩
    · rw [tenants_snoc]
      exact nodup_behind (h.nd.sublist hb) fun hm => hout (hb.subset hm)
    · rw [List.length_append, List.length_singleton]
      have := h.le
      split
      · rw [letOut_length (by intro e; subst e; simp at *; omega)]; omega
      · omega
    · rcases List.mem_append.1 hx with hx | hx
      · split at hx
        · unfold letOut lessBy at hx
          obtain ⟨y, hy, rfl⟩ := List.mem_map.1 hx
          have := h.cr y (List.mem_of_mem_eraseP hy)
          show y.2 - _ ≤ c y.1
          omega
        · exact h.cr x hx
      · rw [List.mem_singleton.1 hx]; exact Nat.le_refl _
theorem land_inv {s : Nat} (hs : 1 ≤ s) (c : Int → Nat) (l : List Int) : ∀ k, LInv s c (land s c l k)
  | 0 => ⟨List.nodup_nil, Nat.zero_le _, fun x hx => by cases hx⟩
  | k + 1 => landS_inv hs (land_inv hs c l k) _
theorem lheld_succ (s : Nat) (c : Int → Nat) (l : List Int) (k : Nat) : lheld s c l (k+1) = tenants (landS s c (land s c l k) (l[k]?.getD 0)) := rfl
/-- A landlord is a store. -/
theorem sched_land {s : Nat} (hs : 1 ≤ s) (c : Int → Nat) (l : List Int) : Sched s l (lheld s c l) := by
  refine Sched.steps rfl fun k hk _ _ => ?_
  have hi := land_inv hs c l (k+1)
  refine ⟨hi.nd, by unfold lheld tenants; rw [List.length_map]; exact hi.le, ?_, fun p hp => ?_⟩
  · rw [lheld_succ]
    unfold landS
    split
    · rename_i h
      rw [tenants_again]; exact List.contains_iff_mem.1 h
    · rw [tenants_snoc]; simp
  · rw [lheld_succ] at hp
    unfold landS at hp
    split at hp
    · rw [tenants_again] at hp; exact .inr hp
    · rw [tenants_snoc] at hp
      rcases List.mem_append.1 hp with hp | hp
      · split at hp
        · exact .inr ((letOut_sub _).subset hp)
        · exact .inr hp
      · exact .inl (List.mem_singleton.1 hp)

/-- The credit of a page. -/
def cr : List (Int × Nat) → Int → Nat
  | [], _ => 0
  | x :: r, p => if x.1 = p then x.2 else cr r p
def tot : List (Int × Nat) → Nat
  | [] => 0
  | x :: r => x.2 + tot r
theorem tot_append (A B : List (Int × Nat)) : tot (A ++ B) = tot A + tot B := by
  induction A with
  | nil => simp [tot]
  | cons x A ih => rw [List.cons_append, tot, tot, ih]; omega
theorem cr_out : ∀ {st : List (Int × Nat)} {p : Int}, p ∉ tenants st → cr st p = 0
  | [], _, _ => rfl
  | x :: r, p, h => by
    have h1 : x.1 ≠ p := fun e => h (by simp [tenants, e])
    rw [cr, if_neg h1]
    exact cr_out fun hm => h (by unfold tenants at hm ⊢; rw [List.map_cons]; exact List.mem_cons_of_mem _ hm)
theorem cr_mem : ∀ {st : List (Int × Nat)} {x}, (tenants st).Nodup → x ∈ st → cr st x.1 = x.2
  | y :: r, x, hn, h => by
    have hn2 : y.1 ∉ tenants r ∧ (tenants r).Nodup := List.nodup_cons.1 hn
    rcases List.mem_cons.1 h with rfl | h
    · rw [cr, if_pos rfl]
    · have hne : y.1 ≠ x.1 := fun e => hn2.1 (by rw [e]; exact List.mem_map.2 ⟨x, h, rfl⟩)
      rw [cr, if_neg hne]
      exact cr_mem hn2.2 h
theorem cr_le {s : Nat} {c : Int → Nat} : ∀ {st : List (Int × Nat)}, LInv s c st → ∀ p, cr st p ≤ c p := fun {st} h p => by
  by_cases hp : p ∈ tenants st
  · obtain ⟨x, hx, rfl⟩ := List.mem_map.1 hp
    rw [cr_mem h.nd hx]; exact h.cr x hx
  · rw [cr_out hp]; exact Nat.zero_le _
theorem cr_snoc {st : List (Int × Nat)} {p : Int} {v : Nat} (h : p ∉ tenants st) (q : Int) : cr (st ++ [(p, v)]) q = if q = p then v else cr st q := by
  induction st with
  | nil =>
    show (if p = q then v else 0) = if q = p then v else 0
    by_cases e : p = q
    · rw [if_pos e, if_pos e.symm]
    · rw [if_neg e, if_neg (Ne.symm e)]
  | cons x r ih =>
    have h1 : x.1 ≠ p := fun e => h (by simp [tenants, e])
    have h2 : p ∉ tenants r := fun hm => h (by unfold tenants at hm ⊢; rw [List.map_cons]; exact List.mem_cons_of_mem _ hm)
    rw [List.cons_append, cr, cr, ih h2]
    by_cases e : x.1 = q
    · rw [if_pos e, if_pos e, if_neg (fun h => h1 (e.trans h))]
    · rw [if_neg e, if_neg e]
theorem cr_lessBy (d : Nat) (st : List (Int × Nat)) (q : Int) : cr (lessBy d st) q = cr st q - d := by
  induction st with
  | nil => simp [lessBy, cr]
  | cons x r ih =>
    have : lessBy d (x :: r) = (x.1, x.2 - d) :: lessBy d r := rfl
    rw [this, cr, cr, ih]
    split <;> rfl
theorem again_out {p : Int} {v : Nat} : ∀ {st : List (Int × Nat)}, p ∉ tenants st → again p v st = st
  | [], _ => rfl
  | x :: r, h => by
    have h1 : x.1 ≠ p := fun e => h (by simp [tenants, e])
    have h2 : p ∉ tenants r := fun hm => h (by unfold tenants at hm ⊢; rw [List.map_cons]; exact List.mem_cons_of_mem _ hm)
    have e0 : again p v (x :: r) = (if x.1 = p then (x.1, v) else x) :: again p v r := rfl
    rw [e0, if_neg h1, again_out h2]
theorem cr_again {p : Int} {v : Nat} {st : List (Int × Nat)} (h : p ∈ tenants st) (q : Int) : cr (again p v st) q = if q = p then v else cr st q := by
  induction st with
  | nil => simp [tenants] at h
  | cons x r ih =>
    have e0 : again p v (x :: r) = (if x.1 = p then (x.1, v) else x) :: again p v r := rfl
    rw [e0]
    by_cases e : x.1 = p
    · rw [if_pos e, cr, cr]
      by_cases hq : q = p
      · rw [if_pos hq, if_pos (by rw [hq]; exact e)]
      · rw [if_neg hq, if_neg (fun h => hq (h.symm.trans e)), if_neg (fun h => hq (h.symm.trans e))]
        by_cases hr : p ∈ tenants r
        · rw [ih hr, if_neg hq]
        · rw [again_out hr]
    · have hr : p ∈ tenants r := by
        have : p ∈ x.1 :: tenants r := h
        rcases List.mem_cons.1 this with e2 | hm
        · exact absurd e2.symm e
        · exact hm
      rw [if_neg e, cr, cr, ih hr]
      by_cases hq : x.1 = q
      · rw [if_pos hq, if_pos hq, if_neg (fun h => e (hq.trans h))]
      · rw [if_neg hq, if_neg hq]
theorem tot_again {p : Int} {v : Nat} : ∀ {st : List (Int × Nat)}, (tenants st).Nodup → p ∈ tenants st → tot (again p v st) + cr st p = tot st + v
  | [], _, h => by simp [tenants] at h
  | x :: r, hn, h => by
    have hn2 : x.1 ∉ tenants r ∧ (tenants r).Nodup := List.nodup_cons.1 hn
    have e0 : again p v (x :: r) = (if x.1 = p then (x.1, v) else x) :: again p v r := rfl
    rw [e0]
    by_cases e : x.1 = p
    · have hr : p ∉ tenants r := e ▸ hn2.1
      rw [if_pos e, again_out hr, tot, tot, cr, if_pos e]
      show v + tot r + x.2 = x.2 + tot r + v
      omega
    · have hr : p ∈ tenants r := by
        have : p ∈ x.1 :: tenants r := h
        rcases List.mem_cons.1 this with e2 | hm
        · exact absurd e2.symm e
        · exact hm
      have := tot_again (v := v) hn2.2 hr
      rw [if_neg e, tot, tot, cr, if_neg e]; omega
theorem tot_lessBy {d : Nat} : ∀ {st : List (Int × Nat)}, (∀ x, x ∈ st → d ≤ x.2) → tot (lessBy d st) + d * st.length = tot st
  | [], _ => by simp [lessBy, tot]
  | x :: r, h => by
    have e : lessBy d (x :: r) = (x.1, x.2 - d) :: lessBy d r := rfl
    have ih := tot_lessBy (st := r) fun y hy => h y (by simp [hy])
    have hx := h x (by simp)
    rw [e, tot, tot, List.length_cons, Nat.mul_add, Nat.mul_one]
    show x.2 - d + _ + _ = _
    omega
/-- What goes out has the least credit. -/
theorem out_facts {d : Nat} : ∀ {st : List (Int × Nat)}, (tenants st).Nodup → (∃ x, x ∈ st ∧ x.2 = d) → tot (st.eraseP fun x => x.2 == d) + d = tot st ∧ ∀ q, cr (st.eraseP fun x => x.2 == d) q - d = cr st q - d
  | [], _, h => by obtain ⟨x, hx, _⟩ := h; cases hx
  | y :: r, hn, h => by
    have hn2 : y.1 ∉ tenants r ∧ (tenants r).Nodup := List.nodup_cons.1 hn
    by_cases hy : y.2 = d
    · rw [List.eraseP_cons_of_pos (by simpa using hy)]
      refine ⟨by rw [tot, hy]; omega, fun q => ?_⟩
      rw [cr]
      by_cases e : y.1 = q
      · rw [if_pos e, cr_out (e ▸ hn2.1), hy]; omega
      · rw [if_neg e]
    · rw [List.eraseP_cons_of_neg (by simpa using hy)]
      have ih := out_facts (d := d) hn2.2 (by
        obtain ⟨x, hx, e⟩ := h
        rcases List.mem_cons.1 hx with rfl | hx
        · exact absurd e hy
        · exact ⟨x, hx, e⟩)
      refine ⟨by rw [tot, tot]; omega, fun q => ?_⟩
      rw [cr, cr]
      by_cases e : y.1 = q
      · rw [if_pos e, if_pos e]
      · rw [if_neg e, if_neg e]; exact ih.2 q
theorem letOut_facts {st : List (Int × Nat)} (hn : (tenants st).Nodup) (h : st ≠ []) : tot (letOut st) + leastOf st * st.length = tot st ∧ ∀ q, cr (letOut st) q = cr st q - leastOf st := by
  obtain ⟨x, hx, e⟩ := leastOf_mem h
  obtain ⟨h1, h2⟩ := out_facts hn ⟨x, hx, e⟩
  have h3 := tot_lessBy (d := leastOf st) (st := st.eraseP fun x => x.2 == leastOf st) fun y hy => leastOf_le (List.mem_of_mem_eraseP hy)
  have h4 : (st.eraseP fun x => x.2 == leastOf st).length = st.length - 1 := List.length_eraseP_of_mem hx (by rw [e]; simp)
  have h5 : 1 ≤ st.length := List.length_pos_iff.2 h
  refine ⟨?_, fun q => by unfold letOut; rw [cr_lessBy]; exact h2 q⟩
  unfold letOut
  rw [h4] at h3
  obtain ⟨n, hn⟩ : ∃ n, st.length = n + 1 := ⟨st.length - 1, by omega⟩
  rw [hn] at h3 ⊢
  rw [Nat.add_sub_cancel] at h3
  rw [Nat.mul_add, Nat.mul_one]
  omega
end Go.Proofs.YtedmfehjifknbaaDoor
