/- PlayMany is proved: for every list of requests, every number of slots and every list of what is let go of, in whatever memory and on every schedule, it returns true and leaves its arguments as they were: a page is not there as often as there are unlike pages, or more, and no more pages are there than slots. No condition. -/
import Derived.Test.YtmajfhcpajdhmaaMany
import Derived.Test.YtmajfhcpajdhmaaLawkit
namespace Go.Proofs.Ytmajfhcpajdhmaa
open Go.ChangeShapes Go.WideShapes Go.ChangeAt Go.RowKit Go.Sort

/-- The first ones of their like in r, behind pre. -/
def nf (pre : List Int) : List Int → Nat
  | [] => 0
  | p :: r => (if pre.contains p then 0 else 1) + nf (pre ++ [p]) r

theorem firsts_nf (l : List Int) : ∀ k, k ≤ l.length → firsts l k + nf (l.take k) (l.drop k) = nf [] l
  | 0, _ => by simp [firsts]
  | k + 1, h => by
    have ih := firsts_nf l k (by omega)
    have hk : k < l.length := by omega
    rw [List.drop_eq_getElem_cons hk, nf, ← List.take_succ_eq_append_getElem hk] at ih
    rw [firsts_succ, List.getElem?_eq_getElem hk, Option.getD_some]
    omega

theorem play_bad (s : Nat) : ∀ (r out held : List Int) (n : Nat), (play s r out held n).2.2 ≠ 0 → (play s r out held n).1 = 0 ∧ (play s r out held n).2.1 = []
  | [], out, held, n => by cases out <;> simp [play]
  | p :: r, out, held, n => by
    unfold play
    split
    · exact play_bad s r out held n
    · split
      · split
        · simp
        · split
          · exact play_bad s r _ _ _
          · simp
      · exact play_bad s r _ _ _

theorem play_good (s : Nat) (hs : 1 ≤ s) : ∀ (r out held pre : List Int) (n : Nat), (∀ x ∈ held, x ∈ pre) → held.length ≤ s → held.length ≤ n → (play s r out held n).2.2 = 0 →
    n + nf pre r ≤ (play s r out held n).1 ∧ (play s r out held n).1 ≤ n + r.length ∧ (play s r out held n).2.1.length ≤ s ∧ (play s r out held n).2.1.length ≤ (play s r out held n).1
  | [], out, held, pre, n => by
    intro h1 h2 h3 _
    cases out <;> exact ⟨Nat.le_refl _, Nat.le_refl _, h2, h3⟩
  | p :: r, out, held, pre, n => by
    intro h1 h2 h3
    have hsub : ∀ x ∈ held, x ∈ pre ++ [p] := fun x hx => List.mem_append_left _ (h1 x hx)
    have hsub2 : ∀ hh : List Int, (∀ x ∈ hh, x ∈ held) → ∀ x ∈ hh ++ [p], x ∈ pre ++ [p] := by
      intro hh h x hx
      rcases List.mem_append.1 hx with hx | hx
      · exact hsub x (h x hx)
      · exact List.mem_append_right _ hx
    unfold play nf
    split
    · rename_i hc
      intro h0
      have hp : p ∈ held := by simpa using hc
      have := play_good s hs r out held (pre ++ [p]) n hsub h2 h3 h0
      rw [if_pos (by simpa using h1 p hp)]
      simp only [List.length_cons]
      omega
    · have hle : (if pre.contains p then 0 else 1) ≤ 1 := by split <;> omega
      simp only [List.length_cons]
      split
      · split
        · intro h0; simp at h0
        · rename_i o out'
          split
          · rename_i ho
            intro h0
            have hom : o ∈ held := by simpa using ho
            have hlen : (held.erase o).length = held.length - 1 := List.length_erase_of_mem hom
            have hpos : 0 < held.length := List.length_pos_of_mem hom
            have := play_good s hs r out' (held.erase o ++ [p]) (pre ++ [p]) (n+1) (hsub2 _ fun x hx => List.mem_of_mem_erase hx) (by simp [hlen]; omega) (by simp [hlen]; omega) h0
            omega
          · intro h0; simp at h0
      · intro h0
        have := play_good s hs r out (held ++ [p]) (pre ++ [p]) (n+1) (hsub2 _ fun x hx => hx) (by simp; omega) (by simp; omega) h0
        omega

theorem runS_bad {l out : List Int} {s : Int} (h : (runS l s out).2.2 ≠ 0) : (runS l s out).1 = 0 ∧ (runS l s out).2.1 = [] := by
  unfold runS at h ⊢
  split
  · rename_i hc
    rw [if_pos hc] at h
    have := play_bad s.toNat l out [] 0 h
    exact ⟨this.1, by simp [this.2]⟩
  · exact ⟨rfl, rfl⟩

theorem runS_good {l out : List Int} {s : Int} (h : (runS l s out).2.2 = 0) : firsts l l.length ≤ (runS l s out).1 ∧ (runS l s out).1 ≤ l.length ∧ (((runS l s out).2.1.length : Int) ≤ s) ∧ (runS l s out).2.1.length ≤ (runS l s out).1 ∧ l.length ≤ 40 := by
  unfold runS at h ⊢
  split
  · rename_i hc
    rw [if_pos hc] at h
    obtain ⟨h1, h2, h3, _⟩ := chk_zero hc
    have := play_good s.toNat (by omega) l out [] [] 0 (by simp) (by simp) (by simp) h
    have hf := firsts_nf l l.length (Nat.le_refl _)
    simp [nf] at hf
    simp only [List.length_mergeSort]
    omega
  · rename_i hc
    rw [if_neg hc] at h
    exact absurd h hc

theorem sort_sorted {l : List Int} (h : l.Pairwise fun a b => le a b = true) : l.mergeSort le = l := List.mergeSort_of_pairwise h

theorem fact_run : runS [1, 2, 3, 1] 2 [2] = (3, [1, 3], 0) := by
  have h : play 2 [1, 2, 3, 1] [2] [] 0 = (3, [1, 3], 0) := by decide
  have hc : chk [1, 2, 3, 1] 2 = 0 := by decide
  unfold runS
  rw [if_pos hc, show Int.toNat 2 = 2 from rfl, h]
  rw [sort_sorted (by simp [le])]

theorem isInts_new {w : World} {B : Nat} {l : List Int} {cur : Array Value} {t : TypeId} (hcur : cur.toList = l.map (Value.int .i64)) (hl : l.length ≤ 100) (hb : w.heap[B]? = some (.cells cur t (0, 0))) : IsInts w (.slice (some ⟨B, 0, none⟩) l.length l.length) l := by
  by_cases h0 : l = []
  · subst h0; exact .inl ⟨rfl, _, 0, rfl, by simp⟩
  · refine .inr ⟨B, 0, l.length, rfl, List.length_pos_iff.2 h0, Nat.le_refl _, by unfold maxLen; omega, fun j hj => ?_⟩
    have : cur[j]? = some (.int .i64 (l[j]?.getD 0)) := by
      rw [← Array.getElem?_toList, hcur, List.getElem?_map, List.getElem?_eq_getElem hj]; rfl
    simpa [World.cell?, hb] using this

set_option maxHeartbeats 1000000 in
theorem fact_any (w : World) : Calls Try.prog 6 #[] w fun e w' => e = .returned (.bool true) ∧ Below w.heap.size w w' := by
  have HR : Hid (runS [1, 2, 3, 1] 2 [2] = (3, [1, 3], 0)) := fact_run
  have H1 : Hid (IsInts ((w.alloc (.cells #[.int .i64 1, .int .i64 2, .int .i64 3, .int .i64 1] 3)).alloc (.cells #[.int .i64 2] 3)) (.slice (some ⟨w.heap.size, 0, none⟩) 4 4) [1, 2, 3, 1]) :=
    isInts_new (l := [1, 2, 3, 1]) (t := 3) (cur := #[.int .i64 1, .int .i64 2, .int .i64 3, .int .i64 1]) rfl (by simp) (by rw [Below.heap_alloc _ _ _ (by simp)]; exact heap_alloc_new _ _)
  have H2 : Hid (IsInts ((w.alloc (.cells #[.int .i64 1, .int .i64 2, .int .i64 3, .int .i64 1] 3)).alloc (.cells #[.int .i64 2] 3)) (.slice (some ⟨w.heap.size + 1, 0, none⟩) 1 1) [2]) :=
    isInts_new (l := [2]) (t := 3) (cur := #[.int .i64 2]) rfl (by simp) (by have := heap_alloc_new (w.alloc (.cells #[.int .i64 1, .int .i64 2, .int .i64 3, .int .i64 1] 3)) (.cells #[.int .i64 2] 3); simpa using this)
  go_enter Try.func6, Try.ntmps6
  go_wp2_with (first | (go_at_call 7; go_must (refine (run_any _ _ [1, 2, 3, 1] [2] 2 _ H1.out H2.out).mono ?_; rintro e w1 ⟨vh, rfl, hO, hB⟩; rw [HR.out] at hO; rw [HR.out]; simp only [errV, if_true]; have HO : Hid (OwnI w1 (w.heap.size + 1 + 1) vh [1, 3]) := (by unfold Hid; simpa using hO); clear hO)))
  have H3 : Hid (IsInts (w1.alloc (.cells #[.int .i64 1, .int .i64 3] 3)) vh [1, 3]) := OwnI.isInts (base := w.heap.size + 1 + 1) (World.ownsRow.alloc HO.out _)
  have H4 : Hid (IsInts (w1.alloc (.cells #[.int .i64 1, .int .i64 3] 3)) (.slice (some ⟨w1.heap.size, 0, none⟩) 2 2) [1, 3]) :=
    isInts_new (l := [1, 3]) (t := 3) (cur := #[.int .i64 1, .int .i64 3]) rfl (by simp) (heap_alloc_new _ _)
  refine (ints_same _ _ _ _ H3.out H4.out).mono ?_
  rintro e w2 ⟨rfl, q, rfl⟩
  go_wp2
  go_ret
  refine ⟨rfl, ?_⟩
  have hb2 : Below w.heap.size w w1 := (((Below.refl w.heap.size w).alloc (Nat.le_refl _) _).alloc (by simp) _).trans (hB.mono (by simp; omega))
  exact below_drewN (hb2.alloc hb2.size _) q

theorem errV_pos {n : Nat} (h : n ≠ 0) : errV n = .iface 23 (.int .i64 n) := by unfold errV; rw [if_neg h]

set_option maxHeartbeats 1000000 in
theorem many_any (v vo : Value) (l out : List Int) (s : Int) (w : World) (hv : IsInts w v l) (ho : IsInts w vo out) (hform : ∃ ao cap, v = .slice ao l.length cap) :
    Calls Try.prog 4 #[v, .int .i64 s, vo] w fun e w' => e = .returned (.bool true) ∧ Below w.heap.size w w' := by
  have HV : Hid (IsInts w v l) := hv
  have HO : Hid (IsInts w vo out) := ho
  obtain ⟨ao, cap, rfl⟩ := hform
  clear hv ho
  by_cases h0 : (runS l s out).2.2 = 0
  · have hg := runS_good h0
    have HE : Hid (errV (runS l s out).2.2 = .nilIface) := by unfold Hid; rw [h0]; rfl
    clear h0
    obtain ⟨g1, g2, g3, g4, g5⟩ := hg
    generalize hr : (runS l s out).2.1 = held at *
    generalize hn : (runS l s out).1 = n at *
    have HH : Hid ((runS l s out).2.1 = held) := hr
    have HN : Hid ((runS l s out).1 = n) := hn
    clear hr hn
    go_enter Try.func4, Try.ntmps4
    go_wp2_with (first | (go_at_call 6; go_must (refine (fact_any _).mono ?_; rintro e w1 ⟨rfl, hb1⟩)) | (go_at_call 7; go_must (refine (run_any _ _ l out s _ (HV.out.below hb1) (HO.out.below hb1)).mono ?_; rintro e w2 ⟨vh, rfl, hO, hb2⟩; rw [HH.out] at hO; rw [HE.out, HN.out]; obtain ⟨ao2, cap2, rfl⟩ := hO.form; have HB : Hid (Below w.heap.size w w2) := hb1.trans (hb2.mono hb1.size); clear hb1 hb2 hO)) | (go_at_call 8; go_must (refine (some_any _ l _ (HV.out.below HB.out)).mono ?_; rintro e w3 ⟨rfl, q, rfl⟩)))
    go_ret
    exact ⟨rfl, below_drewN HB.out q⟩
  · have hg := runS_bad h0
    have HE : Hid (errV (runS l s out).2.2 = .iface 23 (.int .i64 (runS l s out).2.2)) := errV_pos h0
    obtain ⟨g1, g2⟩ := hg
    have HH : Hid ((runS l s out).2.1 = []) := g2
    have HN : Hid ((runS l s out).1 = 0) := g1
    clear g1 g2 h0
    go_enter Try.func4, Try.ntmps4
    go_wp2_with (first | (go_at_call 6; go_must (refine (fact_any _).mono ?_; rintro e w1 ⟨rfl, hb1⟩)) | (go_at_call 7; go_must (refine (run_any _ _ l out s _ (HV.out.below hb1) (HO.out.below hb1)).mono ?_; rintro e w2 ⟨vh, rfl, hO, hb2⟩; rw [HH.out] at hO; rw [HE.out, HN.out]; obtain ⟨ao2, cap2, rfl⟩ := hO.form; have HB : Hid (Below w.heap.size w w2) := hb1.trans (hb2.mono hb1.size); clear hb1 hb2 hO)))
    go_ret
    exact ⟨rfl, HB.out⟩

theorem pm_own : ownKnob Try.prog.godebug = none := by kernel_rfl
theorem pm_laidOut : laidOutB Try.prog = true := by kernel_rfl

set_option maxRecDepth 100000 in
theorem many_lifted (os : Os) (started : os.Started) (H : Type) (enc : TypeId × Value → H) :
    ReturnsInHanded {} Try.checked os 4 .any (Rows.playManySpec.pre6 enc Try.prog Try.f4 Rows.playManyRow.domain false) (Rows.playManySpec.post enc Try.prog Try.f4 false true false false) := by
  refine returnsInHanded_of_change (C := Try.checked) pm_own started (by kernel_rfl) Try.func4
    (ChangeSpec.witness6 (enc := enc) (C := Try.checked) false ⟨#[], #[.slice none 0 0, .int .i64 0, .slice none 0 0], []⟩ 8 (by kernel_rfl) (by kernel_rfl) (by kernel_rfl) (by kernel_rfl)) ?_
  intro W base args ds gs before hval0 hW _ _
  have hval : ∀ (j : Nat) t v, Try.f4.params[j]? = some t → args[j]? = some v → Value.okWide Try.prog W .any base t v := hval0
  have hW' : DataW.Whole enc Try.prog Try.f4.params.toList Rows.playManySpec.vars false W args.toList ds gs before := hW
  obtain ⟨p, q, hA0, hV, rfl, hfz, hnd⟩ := hW
  have hA : DataW.TrodAll enc Try.prog W 0 (fun _ => true) true Try.f4.params.toList args.toList ds p := hA0
  rw [Try.params4] at hA hval
  obtain ⟨v0, vs0, d0, ds0, p0, q0, hargs, rfl, rfl, h0, r0⟩ := trodAll_cons hA
  obtain ⟨v1, vs1, d1, ds1, p1, q1, rfl, rfl, rfl, h1, r1⟩ := trodAll_cons r0
  obtain ⟨v2, vs2, d2, ds2, p2, q2, rfl, rfl, rfl, h2, r2⟩ := trodAll_cons r1
  obtain ⟨rfl, rfl, rfl⟩ := trodAll_nil r2
  obtain rfl : args = #[v0, v1, v2] := by cases args; simp_all
  obtain ⟨rfl, rfl⟩ := trodVars_none hV
  obtain ⟨n, rfl, rfl, rfl, wn⟩ := open_int Try.underlying3 (hval 1 3 v1 rfl rfl) h1
  obtain ⟨l, ao, cap, hv0, hl⟩ := arg_ints Try.underlying26 Try.underlying3 (by kernel_rfl) (hval 0 26 v0 rfl rfl) h0
  obtain ⟨out, ao2, cap2, hv2, ho⟩ := arg_ints Try.underlying26 Try.underlying3 (by kernel_rfl) (hval 2 26 v2 rfl rfl) h2
  clear hA0 hval0
  refine (many_any v0 v2 l out n W hl ho ⟨ao, cap, hv0⟩).mono fun e W' ⟨he, hb⟩ => ?_
  subst he
  exact ⟨_, rfl, law_post hW' hb pm_laidOut rfl (by kernel_rfl) (by kernel_rfl) Try.underlying4 rfl rfl rfl⟩

theorem playMany_holds : Rows.PlayManySaid :=
  OpenClaim.holds_of_wide 4 Try.f4 rfl rfl rfl rfl rfl rfl rfl ⟨rfl, rfl, rfl, rfl, rfl⟩ rfl rfl rfl rfl rfl (by kernel_rfl) Try.func4 (by kernel_rfl)
    (of_decide_eq_true (by kernel_rfl)) (by unfold Func.isWrapper; first | (rw [if_pos (by decide +kernel)]; kernel_rfl) | (rw [if_neg (by decide +kernel)]; exact ⟨rfl, rfl⟩))
    (fun os started H enc _ => many_lifted os started H enc)
end Go.Proofs.Ytmajfhcpajdhmaa
