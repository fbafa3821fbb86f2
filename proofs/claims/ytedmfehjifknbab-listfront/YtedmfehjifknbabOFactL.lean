/- Lists alone, for chapter 11: the least from row to row, one request on; a closed table: what looking for three things costs at least. -/
import Derived.Test.YtedmfehjifknbabOMid
namespace Go.Proofs.Ytedmfehjifknbab
set_option maxRecDepth 100000

theorem otab_next {n : Nat} (h1 : 1 ≤ n) (h4 : n ≤ 4) {l : List Int} {k : Nat} (hk : k < l.length) {x : Int} (hx : l[k]?.getD 0 = x) {T T' : O4 → Option Nat} (h : OTab n l k T)
    (hs : ∀ c z, T' c = some z → c ∈ perms n ∧ ∃ b y m, T b = some y ∧ m ∈ perms n ∧ Forward (m.row n) (c.row n) x ∧ z = y + tn n b m + pos (m.row n) x + 1)
    (ha : ∀ b y m c, T b = some y → b ∈ perms n → m ∈ perms n → c ∈ perms n → Forward (m.row n) (c.row n) x → ∃ z, T' c = some z ∧ z ≤ y + tn n b m + pos (m.row n) x + 1) : OTab n l (k+1) T' := by
  refine ⟨fun c z e => (hs c z e).1, ltab_succ hk h.2 (fun C z e => ?_) fun B y M C hB hM hC hf => ?_⟩
  · obtain ⟨c, hc, rfl, hz⟩ := TL_some e
    obtain ⟨_, b, y, m, hb, hm, hf, rfl⟩ := hs c z hz
    exact ⟨b.row n, y, m.row n, by rw [TL_row (h.1 b y hb)]; exact hb, row_perm h1 h4 hm, row_perm h1 h4 hc, by rw [hx]; exact hf, by rw [hx]; rfl⟩
  · obtain ⟨b, hb, rfl, hy⟩ := TL_some hB
    obtain ⟨m, hm, rfl⟩ := row_of h4 hM
    obtain ⟨c, hc, rfl⟩ := row_of h4 hC
    rw [hx] at hf ⊢
    obtain ⟨z, hz, hle⟩ := ha b y m c hy hb hm hc hf
    exact ⟨z, by rw [TL_row hc]; exact hz, hle⟩
/-- A table by its rows. -/
def tabOf (L : List (O4 × Nat)) (s : O4) : Option Nat := (L.find? fun e => decide (e.1 = s)).map (·.2)
def chkTab (n : Nat) (x : Int) (L L' : List (O4 × Nat)) : Bool := (L'.all fun e => goodB n e.1) && (perms n).all fun c =>
  match tabOf L' c with
  | none => (perms n).all fun b => (tabOf L b).isNone || (perms n).all fun m => !fwB (m.row n) (c.row n) x
  | some z => ((perms n).any fun b => (perms n).any fun m => fwB (m.row n) (c.row n) x && decide ((tabOf L b).map (fun y => y + tn n b m + pos (m.row n) x + 1) = some z)) &&
    (perms n).all fun b => match tabOf L b with | none => true | some y => (perms n).all fun m => !fwB (m.row n) (c.row n) x || decide (z ≤ y + tn n b m + pos (m.row n) x + 1)
theorem fwB_iff {A B : List Int} {x : Int} : fwB A B x = true ↔ Forward A B x := by
  unfold fwB
  simp only [Bool.and_eq_true, beq_iff_eq, decide_eq_true_iff]
  exact ⟨fun h => ⟨h.1, h.2⟩, fun h => ⟨h.rest, h.le⟩⟩
theorem tab_next {n : Nat} (h1 : 1 ≤ n) (h4 : n ≤ 4) {l : List Int} {k : Nat} (hk : k < l.length) {x : Int} (hx : l[k]?.getD 0 = x) {L L' : List (O4 × Nat)} (h : OTab n l k (tabOf L)) (hc : chkTab n x L L' = true) : OTab n l (k+1) (tabOf L') := by
  unfold chkTab at hc
  rw [Bool.and_eq_true] at hc
  refine otab_next h1 h4 hk hx h (fun c z e => ?_) fun b y m c hb hbp hm hcp hf => ?_
  · have hcp : c ∈ perms n := by
      unfold tabOf at e
      obtain ⟨q, hq, _⟩ := Option.map_eq_some_iff.1 e
      have h2 : q.1 = c := by simpa using List.find?_some hq
      rw [← h2]
      exact mem_perms.2 (List.all_eq_true.1 hc.1 q (List.mem_of_find?_eq_some hq))
    have := List.all_eq_true.1 hc.2 c hcp
    rw [e] at this
    simp only [Bool.and_eq_true] at this
    obtain ⟨b, hb, h2⟩ := List.any_eq_true.1 this.1
    obtain ⟨m, hm, h3⟩ := List.any_eq_true.1 h2
    rw [Bool.and_eq_true, decide_eq_true_iff] at h3
    obtain ⟨y, hy, hz⟩ := Option.map_eq_some_iff.1 h3.2
    exact ⟨hcp, b, y, m, hy, hm, fwB_iff.1 h3.1, hz.symm⟩
  · have := List.all_eq_true.1 hc.2 c hcp
    cases e : tabOf L' c with
    | none =>
      exfalso
      rw [e] at this
      have h2 := List.all_eq_true.1 this b hbp
      rw [hb] at h2
      simp only [Option.isNone_some, Bool.false_or] at h2
      have h3 := List.all_eq_true.1 h2 m hm
      rw [fwB_iff.2 hf] at h3
      cases h3
    | some z =>
      rw [e] at this
      simp only [Bool.and_eq_true] at this
      have h2 := List.all_eq_true.1 this.2 b hbp
      rw [hb] at h2
      have h3 := List.all_eq_true.1 h2 m hm
      rw [fwB_iff.2 hf] at h3
      exact ⟨z, rfl, by simpa using h3⟩
def fL0 : List (O4 × Nat) := [(⟨0, 1, 2, 3⟩, 0)]
def fL1 : List (O4 × Nat) := [(⟨2, 0, 1, 3⟩, 3), (⟨0, 2, 1, 3⟩, 3), (⟨0, 1, 2, 3⟩, 3), (⟨2, 1, 0, 3⟩, 4), (⟨1, 2, 0, 3⟩, 4), (⟨1, 0, 2, 3⟩, 4)]
def fL2 : List (O4 × Nat) := [(⟨2, 0, 1, 3⟩, 4), (⟨0, 2, 1, 3⟩, 5), (⟨0, 1, 2, 3⟩, 6), (⟨2, 1, 0, 3⟩, 5), (⟨1, 2, 0, 3⟩, 6), (⟨1, 0, 2, 3⟩, 7)]
def fL3 : List (O4 × Nat) := [(⟨1, 0, 2, 3⟩, 8), (⟨0, 1, 2, 3⟩, 8), (⟨0, 2, 1, 3⟩, 8), (⟨1, 2, 0, 3⟩, 7), (⟨2, 1, 0, 3⟩, 7), (⟨2, 0, 1, 3⟩, 7)]
theorem fact_start : OTab 3 [2, 2, 1] 0 (tabOf fL0) := by
  have := otab_start (n := 3) (by omega) (by omega) [2, 2, 1]
  rwa [show tabOf fL0 = oneT O4.id by
    funext s
    unfold tabOf fL0 oneT O4.id
    by_cases h : s = ⟨0, 1, 2, 3⟩
    · subst h; rfl
    · rw [if_neg h]
      simp [Ne.symm h]]
theorem fact_end : OTab 3 [2, 2, 1] 3 (tabOf fL3) :=
  tab_next (x := 1) (by omega) (by omega) (by decide) rfl (tab_next (x := 2) (by omega) (by omega) (by decide) rfl (tab_next (x := 2) (by omega) (by omega) (by decide) rfl fact_start (L' := fL1) (by decide +kernel)) (L' := fL2) (by decide +kernel)) (by decide +kernel)
theorem fact_least : LeastLook (Un 3) [2, 2, 1] 7 := by
  refine otab_least (T := tabOf fL3) fact_end ⟨⟨⟨1, 2, 0, 3⟩, by decide⟩, fun s y e => ?_⟩
  unfold tabOf at e
  obtain ⟨q, hq, rfl⟩ := Option.map_eq_some_iff.1 e
  have : (fL3.all fun q => decide (7 ≤ q.2)) = true := by decide
  exact of_decide_eq_true (List.all_eq_true.1 this q (List.mem_of_find?_eq_some hq))
end Go.Proofs.Ytedmfehjifknbab
