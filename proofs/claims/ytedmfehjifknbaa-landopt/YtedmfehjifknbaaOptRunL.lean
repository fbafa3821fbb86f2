/- Lists alone: the store of chapter 6, kept rising. -/
import Derived.Test.YtedmfehjifknbaaOptL
namespace Go.Proofs.Ytedmfehjifknbaa

def srt (l : List Int) : List Int := l.mergeSort le
theorem srt_mem {l : List Int} {x : Int} : x ∈ srt l ↔ x ∈ l := List.mem_mergeSort
theorem srt_length (l : List Int) : (srt l).length = l.length := List.length_mergeSort _
theorem srt_perm (l : List Int) : (srt l).Perm l := List.mergeSort_perm l le
theorem srt_rising (l : List Int) : (srt l).Pairwise (· ≤ ·) := by
  have h := List.pairwise_mergeSort le_trans' le_total' l
  unfold srt
  simpa [le] using h
theorem srt_contains (l : List Int) (x : Int) : (srt l).contains x = l.contains x := by
  rw [Bool.eq_iff_iff, List.contains_iff_mem, List.contains_iff_mem, srt_mem]
theorem rising_unique {a b : List Int} (ha : a.Pairwise (· ≤ ·)) (hb : b.Pairwise (· ≤ ·)) (hp : a.Perm b) : a = b :=
  List.Perm.eq_of_pairwise (le := (· ≤ ·)) (fun _ _ _ _ h1 h2 => Int.le_antisymm h1 h2) ha hb hp
theorem srt_erase {l : List Int} (hn : l.Nodup) {i : Nat} (hi : i < (srt l).length) {x : Int} (hx : (srt l)[i] = x) : (srt l).take i ++ (srt l).drop (i + 1) = srt (l.erase x) := by
  rw [← List.eraseIdx_eq_take_drop_succ]
  have hns : (srt l).Nodup := (srt_perm l).nodup_iff.2 hn
  have he : (srt l).eraseIdx i = (srt l).erase x := by
    have hm : x ∈ srt l := hx ▸ List.getElem_mem hi
    have hj : (srt l).idxOf x < (srt l).length := List.idxOf_lt_length_iff.2 hm
    have hji : (srt l).idxOf x = i := by
      have e : (srt l)[(srt l).idxOf x] = (srt l)[i] := by rw [hx]; simp
      exact (List.getElem_inj hns).1 e
    rw [List.erase_eq_eraseIdx_of_idxOf hji]
  refine rising_unique ((srt_rising l).sublist (List.eraseIdx_sublist ..)) (srt_rising _) ?_
  rw [he]
  exact ((srt_perm l).erase x).trans (srt_perm _).symm

/-- How many are less. -/
def lessers (h : List Int) (x : Int) : Nat := h.countP (· < x)
def ins (h : List Int) (x : Int) : List Int := h.take (lessers h x) ++ x :: h.drop (lessers h x)
theorem lessers_le (h : List Int) (x : Int) : lessers h x ≤ h.length := List.countP_le_length
theorem ins_facts (x : Int) : ∀ {h : List Int}, h.Pairwise (· ≤ ·) → (ins h x).Pairwise (· ≤ ·) ∧ (ins h x).Perm (x :: h)
  | [], _ => by simp [ins, lessers]
  | a :: r, hp => by
    obtain ⟨h1, h2⟩ := List.pairwise_cons.1 hp
    obtain ⟨i1, i2⟩ := ins_facts x h2
    by_cases ha : a < x
    · have e : ins (a :: r) x = a :: ins r x := by
        have : lessers (a :: r) x = lessers r x + 1 := by unfold lessers; rw [List.countP_cons_of_pos (by simpa using ha)]
        unfold ins
        rw [this]; rfl
      rw [e]
      refine ⟨List.pairwise_cons.2 ⟨fun y hy => ?_, i1⟩, (i2.cons a).trans (List.Perm.swap x a r)⟩
      rcases List.mem_cons.1 (i2.mem_iff.1 hy) with rfl | hy
      · omega
      · exact h1 y hy
    · have e : ins (a :: r) x = x :: a :: r := by
        have : lessers (a :: r) x = 0 := by
          unfold lessers
          rw [List.countP_eq_zero]
          intro y hy
          rcases List.mem_cons.1 hy with rfl | hy
          · simpa using ha
          · have := h1 y hy
            simp; omega
        unfold ins
        rw [this]; rfl
      rw [e]
      refine ⟨List.pairwise_cons.2 ⟨fun y hy => ?_, hp⟩, List.Perm.refl _⟩
      rcases List.mem_cons.1 hy with rfl | hy
      · omega
      · have := h1 y hy; omega
theorem srt_insert (l : List Int) (x : Int) : ins (srt l) x = srt (l ++ [x]) := by
  obtain ⟨h1, h2⟩ := ins_facts x (srt_rising l)
  refine rising_unique h1 (srt_rising _) (h2.trans ?_)
  exact (((srt_perm l).cons x).trans (List.perm_append_singleton x l).symm).trans (srt_perm _).symm

/-- Of the first k: the place of the first one that waits for longest. -/
def Lat (f : Int → Nat) (h : List Int) (k : Nat) (a : Nat) (t : Int) : Prop :=
  (k = 0 ∧ a = 0 ∧ t = -1) ∨ (a < k ∧ t = f (h[a]?.getD 0) ∧ (∀ j, j < k → (f (h[j]?.getD 0) : Int) ≤ t) ∧ ∀ j, j < a → (f (h[j]?.getD 0) : Int) < t)
theorem lat_start (f : Int → Nat) (h : List Int) : Lat f h 0 0 (-1) := .inl ⟨rfl, rfl, rfl⟩
theorem lat_ge {f : Int → Nat} {h : List Int} {k a : Nat} {t : Int} (H : Lat f h k a t) : -1 ≤ t := by
  rcases H with ⟨_, _, rfl⟩ | ⟨_, rfl, _⟩ <;> omega
theorem lat_more {f : Int → Nat} {h : List Int} {k a : Nat} {t : Int} (H : Lat f h k a t) (hk : t < f (h[k]?.getD 0)) : Lat f h (k+1) k (f (h[k]?.getD 0)) := by
  refine .inr ⟨by omega, rfl, fun j hj => ?_, fun j hj => ?_⟩
  · by_cases e : j = k
    · subst e; omega
    · rcases H with ⟨h0, _, _⟩ | ⟨_, _, h1, _⟩
      · omega
      · have := h1 j (by omega); omega
  · rcases H with ⟨h0, _, _⟩ | ⟨_, _, h1, _⟩
    · omega
    · have := h1 j (by omega); omega
theorem lat_same {f : Int → Nat} {h : List Int} {k a : Nat} {t : Int} (H : Lat f h k a t) (hk : ¬ t < f (h[k]?.getD 0)) : Lat f h (k+1) a t := by
  rcases H with ⟨_, _, rfl⟩ | ⟨h1, h2, h3, h4⟩
  · omega
  · refine .inr ⟨by omega, h2, fun j hj => ?_, h4⟩
    by_cases e : j = k
    · subst e; omega
    · exact h3 j (by omega)

/-- How many requests stand ahead of the next one of a page. -/
def wait (l : List Int) (p : Int) : Nat := l.idxOf p
theorem wait_ahead {l : List Int} {k : Nat} (hk : k < l.length) {p : Int} (hp : p ≠ l[k]?.getD 0) : ahead l k p = k + 1 + wait (l.drop (k+1)) p := by
  rw [ahead_later hk hp]; rfl
theorem lat_pick {l : List Int} {k : Nat} (hk : k < l.length) {held : List Int} (hn : l[k]?.getD 0 ∉ held) {a : Nat} {t : Int} (H : Lat (wait (l.drop (k+1))) (srt held) held.length a t) (h0 : 0 < held.length) : a < (srt held).length ∧ IsPick l k held ((srt held)[a]?.getD 0) := by
  rcases H with ⟨h, _, _⟩ | ⟨h1, h2, h3, h4⟩
  · omega
  · have hl : a < (srt held).length := by rw [srt_length]; exact h1
    refine ⟨hl, ?_⟩
    have hb : (srt held)[a]?.getD 0 ∈ held := by
      rw [List.getElem?_eq_getElem hl]; exact srt_mem.1 (List.getElem_mem hl)
    refine ⟨hb, fun q hq => ?_⟩
    have e1 := wait_ahead hk (p := (srt held)[a]?.getD 0) (by intro e; rw [e] at hb; exact hn hb)
    have e2 := wait_ahead hk (p := q) (by intro e; rw [e] at hq; exact hn hq)
    rw [e1, e2]
    obtain ⟨j, hj, hjq⟩ := List.getElem_of_mem (srt_mem.2 hq)
    have hjq' : (srt held)[j]?.getD 0 = q := by rw [List.getElem?_eq_getElem hj]; exact hjq
    have h5 := h3 j (by rw [← srt_length]; exact hj)
    rw [hjq', h2] at h5
    by_cases hja : j < a
    · have h6 := h4 j hja
      rw [hjq', h2] at h6
      exact .inl (by omega)
    · by_cases e : wait (l.drop (k+1)) q = wait (l.drop (k+1)) ((srt held)[a]?.getD 0)
      · refine .inr ⟨by omega, ?_⟩
        rw [List.getElem?_eq_getElem hl, ← hjq]
        simp only [Option.getD_some]
        by_cases e : j = a
        · subst e; exact Int.le_refl _
        · exact List.pairwise_iff_getElem.1 (srt_rising held) a j hl hj (by omega)
      · exact .inl (by omega)

/-- Of k requests: what is there, rising; a step. -/
theorem opt_pick_at {s : Nat} {l : List Int} (hs : 1 ≤ s) (hl : inPages l) {k : Nat} (hk : k < l.length) (hh : ohit s l k = false) (hf : (ost s l k).1.length = s) {a : Nat} {t : Int} (H : Lat (wait (l.drop (k+1))) (srt (ost s l k).1) (ost s l k).1.length a t) :
    a < (srt (ost s l k).1).length ∧ (srt (ost s l k).1)[a]?.getD 0 = pick l k (ost s l k).1 := by
  have h := lat_pick hk (out_of_not hh) H (by omega)
  exact ⟨h.1, ispick_unique h.2 (ost_pick hs hl (by omega) hf)⟩
theorem srt_full {s : Nat} {l : List Int} (hs : 1 ≤ s) (hl : inPages l) {k : Nat} (hk : k < l.length) (hh : ohit s l k = false) (hf : (ost s l k).1.length = s) {a : Nat} (ha : a < (srt (ost s l k).1).length) (hp : (srt (ost s l k).1)[a]?.getD 0 = pick l k (ost s l k).1) :
    srt (ost s l (k+1)).1 = ins ((srt (ost s l k).1).take a ++ (srt (ost s l k).1).drop (a+1)) (l[k]?.getD 0) := by
  have hn : (ost s l k).1.Nodup := (sched_opt hs hl).nd k (by omega)
  rw [List.getElem?_eq_getElem ha] at hp
  rw [ost_full hh hf, srt_erase hn ha hp, srt_insert]
theorem srt_room {s : Nat} {l : List Int} {k : Nat} (hh : ohit s l k = false) (hf : (ost s l k).1.length ≠ s) :
    srt (ost s l (k+1)).1 = ins (srt (ost s l k).1) (l[k]?.getD 0) := by
  rw [ost_room hh hf, srt_insert]
theorem srt_has (s : Nat) (l : List Int) (k : Nat) : (srt (ost s l k).1).contains (l[k]?.getD 0) = ohit s l k := srt_contains _ _

/-- What opt.Run answers. -/
def optB (l : List Int) (s : Int) : List Bool := if chk l s = 0 then marks (ohit s.toNat l) l.length else []
def optO (l : List Int) (s : Int) : List Int := if chk l s = 0 then (ost s.toNat l l.length).2 else []
def optL (l : List Int) (s : Int) : List Int := if chk l s = 0 then srt (ost s.toNat l l.length).1 else []
theorem optB_ok {l : List Int} {s : Int} (h : chk l s = 0) : optB l s = marks (ohit s.toNat l) l.length := if_pos h
theorem optO_ok {l : List Int} {s : Int} (h : chk l s = 0) : optO l s = (ost s.toNat l l.length).2 := if_pos h
theorem optL_ok {l : List Int} {s : Int} (h : chk l s = 0) : optL l s = srt (ost s.toNat l l.length).1 := if_pos h
theorem optB_bad {l : List Int} {s : Int} (h : chk l s ≠ 0) : optB l s = [] := if_neg h
theorem optO_bad {l : List Int} {s : Int} (h : chk l s ≠ 0) : optO l s = [] := if_neg h
theorem optL_bad {l : List Int} {s : Int} (h : chk l s ≠ 0) : optL l s = [] := if_neg h
theorem chk_pages {l : List Int} {s : Int} (h : chk l s = 0) : inPages l := by
  intro p hp
  have hb : l.any bad = false := by
    unfold chk at h
    split at h
    · cases h
    · split at h
      · cases h
      · rename_i h2; simpa using h2
  rw [List.any_eq_false] at hb
  have := hb p hp
  simp [bad] at this
  omega
end Go.Proofs.Ytedmfehjifknbaa
