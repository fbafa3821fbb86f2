/- Lists alone, for chapter 11: the least from order to order, as the program finds it. -/
import Derived.Test.YtnjfmlojbaigjabOPerm
namespace Go.Proofs.Ytnjfmlojbaigjab
set_option maxRecDepth 100000

theorem good_parts {n : Nat} {s : O4} (h : s ∈ perms n) : (s.row n).Nodup ∧ (∀ x, x ∈ s.row n → x < (n : Int)) ∧ s.l.drop n = (Un 4).drop n := by
  have := mem_perms.1 h
  unfold goodB at this
  simp only [Bool.and_eq_true, decide_eq_true_iff, List.all_eq_true, beq_iff_eq] at this
  exact ⟨this.1.1, this.1.2, this.2⟩
theorem O4.l_inj {s t : O4} (h : s.l = t.l) : s = t := by
  obtain ⟨a, b, c, d⟩ := s
  obtain ⟨a', b', c', d'⟩ := t
  simp only [O4.l, List.cons.injEq, and_true] at h
  obtain ⟨h0, h1, h2, h3⟩ := h
  have e0 : a = a' := Fin.ext (by omega)
  have e1 : b = b' := Fin.ext (by omega)
  have e2 : c = c' := Fin.ext (by omega)
  have e3 : d = d' := Fin.ext (by omega)
  rw [e0, e1, e2, e3]
theorem row_inj {n : Nat} {s t : O4} (hs : s ∈ perms n) (ht : t ∈ perms n) (h : s.row n = t.row n) : s = t := by
  refine O4.l_inj ?_
  rw [← List.take_append_drop n s.l, ← List.take_append_drop n t.l, (good_parts hs).2.2, (good_parts ht).2.2]
  unfold O4.row at h
  rw [h]
theorem Un_mem {n : Nat} {x : Int} : x ∈ Un n ↔ 0 ≤ x ∧ x < (n : Int) := by
  unfold Un
  rw [List.mem_map]
  constructor
  · rintro ⟨k, hk, rfl⟩
    have := List.mem_range.1 hk
    omega
  · rintro ⟨h0, h1⟩
    exact ⟨x.toNat, List.mem_range.2 (by omega), by omega⟩
theorem Un_nodup (n : Nat) : (Un n).Nodup := by
  unfold Un List.Nodup
  rw [List.pairwise_map]
  refine List.Pairwise.imp ?_ (List.nodup_range (n := n))
  intro a b h e
  exact h (by omega)
theorem Un_length (n : Nat) : (Un n).length = n := by unfold Un; rw [List.length_map, List.length_range]
theorem l_nonneg {s : O4} {x : Int} (h : x ∈ s.l) : 0 ≤ x ∧ x < 4 := by
  have := s.a.isLt; have := s.b.isLt; have := s.c.isLt; have := s.d.isLt
  unfold O4.l at h
  simp only [List.mem_cons, List.not_mem_nil, or_false] at h
  omega
theorem row_perm {n : Nat} (h1 : 1 ≤ n) (h4 : n ≤ 4) {s : O4} (h : s ∈ perms n) : Row (Un n) (s.row n) := by
  obtain ⟨hn, hl, _⟩ := good_parts h
  refine ⟨hn, fun x => ⟨fun hx => Un_mem.2 ⟨(l_nonneg (List.mem_of_mem_take hx)).1, hl x hx⟩, fun hx => ?_⟩⟩
  have := row_ok h1 h4
  unfold chkRow at this
  exact List.contains_iff_mem.1 (List.all_eq_true.1 (List.all_eq_true.1 this s h) x hx)
theorem row_of {n : Nat} (h4 : n ≤ 4) {B : List Int} (h : Row (Un n) B) : ∃ s, s ∈ perms n ∧ s.row n = B := by
  have hlen : B.length = n := by rw [same_length h.nd (Un_nodup n) h.mem, Un_length]
  have hB : ∀ x, x ∈ B → 0 ≤ x ∧ x < (n : Int) := fun x hx => Un_mem.1 ((h.mem x).1 hx)
  have hl4 : (B ++ (Un 4).drop n).length = 4 := by rw [List.length_append, List.length_drop, Un_length, hlen]; omega
  have hin : ∀ x, x ∈ B ++ (Un 4).drop n → 0 ≤ x ∧ x < 4 := fun x hx => by
    rcases List.mem_append.1 hx with hx | hx
    · have := hB x hx; omega
    · have := Un_mem.1 (List.mem_of_mem_drop hx); omega
  match hm : B ++ (Un 4).drop n, hl4 with
  | [x0, x1, x2, x3], _ =>
    rw [hm] at hin
    have g0 := hin x0 (by simp)
    have g1 := hin x1 (by simp)
    have g2 := hin x2 (by simp)
    have g3 := hin x3 (by simp)
    have hs : (⟨⟨x0.toNat, by omega⟩, ⟨x1.toNat, by omega⟩, ⟨x2.toNat, by omega⟩, ⟨x3.toNat, by omega⟩⟩ : O4).l = B ++ (Un 4).drop n := by
      rw [hm]
      simp only [O4.l, List.cons.injEq, and_true]
      omega
    generalize (⟨⟨x0.toNat, by omega⟩, ⟨x1.toNat, by omega⟩, ⟨x2.toNat, by omega⟩, ⟨x3.toNat, by omega⟩⟩ : O4) = s at hs
    have hr : s.row n = B := by unfold O4.row; rw [hs, List.take_left' hlen]
    refine ⟨s, mem_perms.2 ?_, hr⟩
    unfold goodB
    simp only [Bool.and_eq_true, decide_eq_true_iff, List.all_eq_true, beq_iff_eq]
    exact ⟨⟨by rw [hr]; exact h.nd, fun x hx => by rw [hr] at hx; exact (hB x hx).2⟩, by rw [hs, List.drop_left' hlen]⟩

/-- What is told of rows. -/
def TL (n : Nat) (T : O4 → Option Nat) (B : List Int) : Option Nat := ((perms n).find? fun s => s.row n == B).bind T
theorem TL_some {n : Nat} {T : O4 → Option Nat} {B : List Int} {x : Nat} (h : TL n T B = some x) : ∃ s, s ∈ perms n ∧ s.row n = B ∧ T s = some x := by
  unfold TL at h
  obtain ⟨s, hs, hx⟩ := Option.bind_eq_some_iff.1 h
  exact ⟨s, List.mem_of_find?_eq_some hs, by simpa using List.find?_some hs, hx⟩
theorem TL_row {n : Nat} {T : O4 → Option Nat} {s : O4} (hs : s ∈ perms n) : TL n T (s.row n) = T s := by
  unfold TL
  cases hf : (perms n).find? fun t => t.row n == s.row n with
  | none =>
    have := List.find?_eq_none.1 hf s hs
    simp at this
  | some t =>
    have h1 := List.mem_of_find?_eq_some hf
    have h2 : t.row n = s.row n := by simpa using List.find?_some hf
    rw [row_inj h1 hs h2]; rfl

theorem ch_mem {s : O4} {f : Ent} : ∀ {k : Nat}, f ∈ chTo s k ↔ f = (s, 0) ∨ ∃ j, j < k ∧ f = (s.fw (j + 1) j, 1)
  | 0 => by simp [chTo]
  | k + 1 => by
    unfold chTo
    rw [List.mem_append, ch_mem (k := k), List.mem_singleton]
    constructor
    · rintro ((h | ⟨j, hj, h⟩) | h)
      · exact .inl h
      · exact .inr ⟨j, by omega, h⟩
      · exact .inr ⟨k, by omega, h⟩
    · rintro (h | ⟨j, hj, h⟩)
      · exact .inl (.inl h)
      · by_cases e : j = k
        · subst e; exact .inr h
        · exact .inl (.inr ⟨j, by omega, h⟩)
theorem found_mem {s : O4} {i : Nat} {f : Ent} : ∀ {k : Nat}, f ∈ foundTo s i k ↔ ∃ j, j < k ∧ f = (s.fw i j, tiny (i + 1))
  | 0 => by simp [foundTo]
  | k + 1 => by
    unfold foundTo
    rw [List.mem_append, found_mem (k := k), List.mem_singleton]
    constructor
    · rintro (⟨j, hj, h⟩ | h)
      · exact ⟨j, by omega, h⟩
      · exact ⟨k, by omega, h⟩
    · rintro ⟨j, hj, h⟩
      by_cases e : j = k
      · subst e; exact .inr h
      · exact .inl ⟨j, by omega, h⟩
theorem swap_facts {n : Nat} (h1 : 1 ≤ n) (h4 : n ≤ 4) {M : O4} (hM : M ∈ perms n) {k : Nat} (hk : k < n - 1) : M.fw (k+1) k ∈ perms n ∧ ∀ B, B ∈ perms n → tn n B (M.fw (k+1) k) ≤ tn n B M + 1 := by
  have := swap_ok h1 h4
  unfold chkSwap at this
  have h := List.all_eq_true.1 (List.all_eq_true.1 this M hM) k (List.mem_range.2 hk)
  rw [Bool.and_eq_true] at h
  exact ⟨mem_perms.2 h.1, fun B hB => of_decide_eq_true (List.all_eq_true.1 h.2 B hB)⟩
theorem near_facts {n : Nat} (h1 : 1 ≤ n) (h4 : n ≤ 4) {B M : O4} (hB : B ∈ perms n) (hM : M ∈ perms n) : tn n B M ≤ pairs n ∧ (B = M ∨ ∃ k, k < n - 1 ∧ tn n B (M.fw (k+1) k) + 1 = tn n B M) := by
  have := near_ok h1 h4
  unfold chkNear at this
  have h := List.all_eq_true.1 (List.all_eq_true.1 this B hB) M hM
  rw [Bool.and_eq_true, Bool.or_eq_true] at h
  refine ⟨of_decide_eq_true h.1, ?_⟩
  rcases h.2 with h2 | h2
  · exact .inl (of_decide_eq_true h2)
  · obtain ⟨k, hk, e⟩ := List.any_eq_true.1 h2
    exact .inr ⟨k, List.mem_range.1 hk, of_decide_eq_true e⟩
theorem fw_twice (s : O4) {k : Nat} (hk : k < 3) : (s.fw (k+1) k).fw (k+1) k = s := by
  rcases (by omega : k = 0 ∨ k = 1 ∨ k = 2) with rfl | rfl | rfl <;> rfl
theorem tn_self (n : Nat) (B : O4) : tn n B B = 0 := turn2_self _ _
/-- Behind so many changes what is told is no less than pairs stand the other way round. -/
theorem mid_sound {n : Nat} (h1 : 1 ≤ n) (h4 : n ≤ 4) {T : O4 → Option Nat} (hT : ∀ s x, T s = some x → s ∈ perms n) : ∀ {r : Nat} {T' : O4 → Option Nat}, StepsC n r T T' → ∀ M z, T' M = some z → M ∈ perms n ∧ ∃ B y j, T B = some y ∧ z = y + j ∧ tn n B M ≤ j
  | 0, T', hs, M, z, e => by
    have : T' = T := hs
    rw [this] at e
    exact ⟨hT M z e, M, z, 0, e, rfl, by rw [tn_self]; exact Nat.le_refl _⟩
  | r + 1, T', ⟨T1, hs, ho⟩, M, z, e => by
    obtain ⟨s, y, f, hy, hf, rfl, rfl⟩ := ho.from_ M z e
    obtain ⟨hs1, B, y0, j, hB, rfl, hj⟩ := mid_sound h1 h4 hT hs s y hy
    rcases ch_mem.1 hf with rfl | ⟨k, hk, rfl⟩
    · exact ⟨hs1, B, y0, j, hB, rfl, hj⟩
    · have F := swap_facts h1 h4 hs1 hk
      refine ⟨F.1, B, y0, j + 1, hB, by show y0 + j + 1 = _; omega, ?_⟩
      have := F.2 B (hT B y0 hB)
      show tn n B (s.fw (k+1) k) ≤ _
      omega
theorem mid_all {n : Nat} (h1 : 1 ≤ n) (h4 : n ≤ 4) {T : O4 → Option Nat} {B : O4} {y : Nat} (hB : T B = some y) (hBp : B ∈ perms n) : ∀ {r : Nat} {T' : O4 → Option Nat}, StepsC n r T T' → ∀ M, M ∈ perms n → tn n B M ≤ r → ∃ z, T' M = some z ∧ z ≤ y + tn n B M
  | 0, T', hs, M, hM, hr => by
    have e : T' = T := hs
    rcases (near_facts h1 h4 hBp hM).2 with rfl | ⟨k, _, h⟩
    · exact ⟨y, by rw [e]; exact hB, Nat.le_add_right _ _⟩
    · omega
  | r + 1, T', ⟨T1, hs, ho⟩, M, hM, hr => by
    rcases (near_facts h1 h4 hBp hM).2 with rfl | ⟨k, hk, h⟩
    · obtain ⟨z, hz, hle⟩ := mid_all h1 h4 hB hBp hs B hM (by rw [tn_self]; exact Nat.zero_le _)
      obtain ⟨z2, hz2, hle2⟩ := ho.all B z (B, 0) hz (ch_mem.2 (.inl rfl))
      exact ⟨z2, hz2, Nat.le_trans hle2 hle⟩
    · have F := swap_facts h1 h4 hM hk
      obtain ⟨z, hz, hle⟩ := mid_all h1 h4 hB hBp hs (M.fw (k+1) k) F.1 (by omega)
      obtain ⟨z2, hz2, hle2⟩ := ho.all _ z (((M.fw (k+1) k).fw (k+1) k), 1) hz (ch_mem.2 (.inr ⟨k, hk, rfl⟩))
      rw [fw_twice M (by omega)] at hz2
      refine ⟨z2, hz2, ?_⟩
      have hle3 : z2 ≤ z + 1 := hle2
      omega
theorem found_facts {n : Nat} (h1 : 1 ≤ n) (h4 : n ≤ 4) {M : O4} (hM : M ∈ perms n) {x : Nat} (hx : x < n) : at_ M.l (x : Int) = (pos (M.row n) (x : Int) : Int) ∧ pos (M.row n) (x : Int) < n ∧ ∀ j, j ≤ pos (M.row n) (x : Int) → M.fw (pos (M.row n) (x : Int)) j ∈ perms n ∧ Forward (M.row n) ((M.fw (pos (M.row n) (x : Int)) j).row n) (x : Int) := by
  have := found_ok h1 h4
  unfold chkFound at this
  have h := List.all_eq_true.1 (List.all_eq_true.1 this M hM) x (List.mem_range.2 hx)
  rw [Bool.and_eq_true, Bool.and_eq_true] at h
  refine ⟨of_decide_eq_true h.1.1, of_decide_eq_true h.1.2, fun j hj => ?_⟩
  have h2 := List.all_eq_true.1 h.2 j (List.mem_range.2 (by omega))
  unfold fwB at h2
  simp only [Bool.and_eq_true, beq_iff_eq, decide_eq_true_iff] at h2
  exact ⟨mem_perms.2 h2.1, h2.2.1, h2.2.2⟩
theorem back_facts {n : Nat} (h1 : 1 ≤ n) (h4 : n ≤ 4) {M C : O4} (hM : M ∈ perms n) (hC : C ∈ perms n) {x : Nat} (hx : x < n) (hf : Forward (M.row n) (C.row n) (x : Int)) : ∃ j, j ≤ pos (M.row n) (x : Int) ∧ C = M.fw (pos (M.row n) (x : Int)) j := by
  have := back_ok h1 h4
  unfold chkBack at this
  have h := List.all_eq_true.1 (List.all_eq_true.1 (List.all_eq_true.1 this M hM) x (List.mem_range.2 hx)) C hC
  have hb : fwB (M.row n) (C.row n) (x : Int) = true := by
    unfold fwB
    simp only [Bool.and_eq_true, beq_iff_eq, decide_eq_true_iff]
    exact ⟨hf.rest, hf.le⟩
  rw [hb, Bool.not_true, Bool.false_or] at h
  obtain ⟨j, hj, e⟩ := List.any_eq_true.1 h
  exact ⟨j, by have := List.mem_range.1 hj; omega, of_decide_eq_true e⟩

/-- T tells of each order the least that it can be come to at. -/
def OTab (n : Nat) (l : List Int) (k : Nat) (T : O4 → Option Nat) : Prop := (∀ s x, T s = some x → s ∈ perms n) ∧ LTab (Un n) l k (TL n T)
theorem id_perm {n : Nat} (h1 : 1 ≤ n) (h4 : n ≤ 4) : O4.id ∈ perms n ∧ O4.id.row n = Un n := by
  rcases four_n h1 h4 with rfl | rfl | rfl | rfl <;> exact ⟨by decide +kernel, by decide⟩
theorem otab_start {n : Nat} (h1 : 1 ≤ n) (h4 : n ≤ 4) (l : List Int) : OTab n l 0 (oneT O4.id) := by
  have hid := id_perm h1 h4
  refine ⟨fun s x e => ?_, ltab_start ?_ fun B hB => ?_⟩
  · unfold oneT at e
    split at e
    · rename_i h; rw [h]; exact hid.1
    · cases e
  · rw [← hid.2, TL_row hid.1]; unfold oneT; rw [if_pos rfl]
  · cases h : TL n (oneT O4.id) B with
    | none => rfl
    | some x =>
      obtain ⟨s, _, hr, hx⟩ := TL_some h
      unfold oneT at hx
      split at hx
      · rename_i e; subst e; exact absurd (hr.symm.trans hid.2) hB
      · cases hx
theorem otab_succ {n : Nat} (h1 : 1 ≤ n) (h4 : n ≤ 4) {l : List Int} {k : Nat} (hk : k < l.length) {x : Nat} (hx : l[k]?.getD 0 = (x : Int)) (hxn : x < n) {T T1 T2 : O4 → Option Nat} (h : OTab n l k T) (hs : StepsC n (pairs n) T T1) (ho : Onto (fun s => foundL s (x : Int)) T1 T2) : OTab n l (k+1) T2 := by
  have hfl : ∀ {M : O4}, M ∈ perms n → foundL M (x : Int) = foundTo M (pos (M.row n) (x : Int)) (pos (M.row n) (x : Int) + 1) := fun hM => by
    unfold foundL
    rw [(found_facts h1 h4 hM hxn).1]
    congr 1
  have hsd : ∀ C z, T2 C = some z → C ∈ perms n ∧ ∃ B y M j, T B = some y ∧ M ∈ perms n ∧ Forward (M.row n) (C.row n) (x : Int) ∧ tn n B M ≤ j ∧ z = y + j + pos (M.row n) (x : Int) + 1 := fun C z e => by
    obtain ⟨M, z1, f, hM, hf, rfl, rfl⟩ := ho.from_ C z e
    obtain ⟨hMp, B, y, j, hB, rfl, hj⟩ := mid_sound h1 h4 h.1 hs M z1 hM
    have F := found_facts h1 h4 hMp hxn
    have hf : f ∈ foundL M (x : Int) := hf
    rw [hfl hMp] at hf
    obtain ⟨i, hi, rfl⟩ := found_mem.1 hf
    have G := F.2.2 i (by omega)
    refine ⟨G.1, B, y, M, j, hB, hMp, G.2, hj, ?_⟩
    show y + j + (tiny _).val = _
    rw [tiny_val (by omega)]; omega
  have hal : ∀ B y M C, T B = some y → M ∈ perms n → C ∈ perms n → Forward (M.row n) (C.row n) (x : Int) → ∃ z, T2 C = some z ∧ z ≤ y + tn n B M + pos (M.row n) (x : Int) + 1 := fun B y M C hB hM hC hf => by
    have hBp := h.1 B y hB
    obtain ⟨z1, hz1, hle⟩ := mid_all h1 h4 hB hBp hs M hM (near_facts h1 h4 hBp hM).1
    obtain ⟨j, hj, rfl⟩ := back_facts h1 h4 hM hC hxn hf
    have F := found_facts h1 h4 hM hxn
    obtain ⟨z, hz, hle2⟩ := ho.all M z1 (M.fw (pos (M.row n) (x : Int)) j, tiny (pos (M.row n) (x : Int) + 1)) hz1 (by show _ ∈ foundL M (x : Int); rw [hfl hM]; exact found_mem.2 ⟨j, by omega, rfl⟩)
    refine ⟨z, hz, ?_⟩
    have hle3 : z ≤ z1 + (tiny (pos (M.row n) (x : Int) + 1)).val := hle2
    rw [tiny_val (by omega)] at hle3
    omega
  refine ⟨fun C z e => (hsd C z e).1, ltab_succ hk h.2 (fun C z e => ?_) fun B y M C hB hM hC hf => ?_⟩
  · obtain ⟨c, hc, rfl, hz⟩ := TL_some e
    obtain ⟨_, B, y, M, j, hB, hM, hf, hj, rfl⟩ := hsd c z hz
    obtain ⟨z2, hz2, hle⟩ := hal B y M c hB hM hc hf
    rw [hz] at hz2
    have hzz := Option.some.inj hz2
    refine ⟨B.row n, y, M.row n, by rw [TL_row (h.1 B y hB)]; exact hB, row_perm h1 h4 hM, row_perm h1 h4 hc, by rw [hx]; exact hf, ?_⟩
    rw [hx]
    have : j = turn2 (Un n) (B.row n) (M.row n) := by
      have hj2 : tn n B M ≤ j := hj
      have : j ≤ tn n B M := by omega
      exact Nat.le_antisymm this hj2
    rw [← this]
  · obtain ⟨b, hb, rfl, hy⟩ := TL_some hB
    obtain ⟨m, hm, rfl⟩ := row_of h4 hM
    obtain ⟨c, hc, rfl⟩ := row_of h4 hC
    rw [hx] at hf ⊢
    obtain ⟨z, hz, hle⟩ := hal b y m c hy hm hc hf
    exact ⟨z, by rw [TL_row hc]; exact hz, hle⟩
theorem many_most (q : Int → Bool) (A : List Int) : many q A ≤ A.length := many_le q A
theorem sumOn_most {f : Int → Nat} {m : Nat} : ∀ {A : List Int}, (∀ x, x ∈ A → f x ≤ m) → sumOn f A ≤ m * A.length
  | [], _ => Nat.zero_le _
  | x :: A, h => by
    have := sumOn_most (A := A) fun y hy => h y (List.mem_cons_of_mem _ hy)
    have hx := h x List.mem_cons_self
    rw [sumOn, List.length_cons, Nat.mul_add]; omega
theorem turn2_most {n : Nat} (h4 : n ≤ 4) (A B : List Int) : turn2 (Un n) A B ≤ 16 := by
  unfold turn2
  have h := sumOn_most (f := fun x => many (fun y => ahd A x y && ahd B y x) (Un n)) (m := n) (A := Un n) fun x _ => by have := many_most (fun y => ahd A x y && ahd B y x) (Un n); rwa [Un_length] at this
  rw [Un_length] at h
  have : n * n ≤ 4 * 4 := Nat.mul_le_mul h4 h4
  omega
theorem looks_most {n : Nat} (h4 : n ≤ 4) {l : List Int} (hl : ∀ p, p ∈ l → p ∈ Un n) {k : Nat} {B : List Int} {y : Nat} (h : Looks (Un n) l k B y) : y ≤ 20 * k := by
  induction h with
  | start => exact Nat.le_refl _
  | @look m B y M C h hn hM hC hf ih =>
    have h1 := turn2_most h4 B M
    have h2 := pos_lt ((hM.mem _).2 (asked_in hl hn))
    rw [same_length hM.nd (Un_nodup n) hM.mem, Un_length] at h2
    omega
theorem otab_lt {n : Nat} (h4 : n ≤ 4) {l : List Int} (hl : ∀ p, p ∈ l → p ∈ Un n) {k : Nat} {T : O4 → Option Nat} (h : OTab n l k T) : ∀ s x, T s = some x → x ≤ 20 * k := fun s x e => looks_most h4 hl (h.2.1 (s.row n) x (by rw [TL_row (h.1 s x e)]; exact e))
theorem otab_some {n : Nat} {l : List Int} (hl : ∀ p, p ∈ l → p ∈ Un n) {k : Nat} (hk : k ≤ l.length) {T : O4 → Option Nat} (h : OTab n l k T) : ∃ s x, T s = some x := by
  obtain ⟨y, hy, _⟩ := h.2.2 _ _ (way_looks (f := fun _ => 0) (fun _ => Nat.zero_le _) (Un_nodup n) hl k hk)
  obtain ⟨s, _, _, hs⟩ := TL_some hy
  exact ⟨s, y, hs⟩
theorem otab_least {n : Nat} {l : List Int} {T : O4 → Option Nat} (h : OTab n l l.length T) {x : Nat} (hx : LeastT T x) : LeastLook (Un n) l x := by
  obtain ⟨s, hs⟩ := hx.got
  refine ltab_least h.2 ⟨s.row n, by rw [TL_row (h.1 s x hs)]; exact hs⟩ fun B y e => ?_
  obtain ⟨t, _, _, ht⟩ := TL_some e
  exact hx.all t y ht
end Go.Proofs.Ytnjfmlojbaigjab
