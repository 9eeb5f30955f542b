/-
  slices.Sort AT []rune: the plain half of pdqsort's round: what each way makes of 'sorted here makes sorted all'.
-/
import Derived.Test.YtcibjgkifafohaaDoorSort4
namespace Go.Proofs.YtcibjgkifafohaaDoor
open Go.RowKit Go.Lib Go.Sort
set_option linter.unusedVariables false

theorem lt_t {x y : Int} : ltInt x y = true ↔ x < y := by unfold ltInt; exact decide_eq_true_iff
theorem lt_f {x y : Int} : ltInt x y = false ↔ y ≤ x := by unfold ltInt; rw [decide_eq_false_iff_not]; omega

/-- Nothing in the part is less than what stands ahead of it. -/
def Ahead (a b : Nat) (d : Array Int) : Prop := Sort.Below ltInt a b d
/-- Sorted in the part makes sorted in the whole. -/
def Fin' (a b : Nat) (d : Array Int) (a' b' : Nat) (dk : Array Int) : Prop :=
  ∀ d', PermIn a' b' dk d' → SortedIn ltInt a' b' d' → PermIn a b d d' ∧ SortedIn ltInt a b d'

theorem Ahead.perm {a b : Nat} {d d' : Array Int} (h : Ahead a b d) (hb : b ≤ d.size) (hp : PermIn a b d d') : Ahead a b d' := by
  rcases h with h | h
  · exact Or.inl h
  · by_cases h0 : a = 0
    · exact Or.inl h0
    · refine Or.inr fun i hi hib => ?_
      have e := hp.2.1 (a - 1) (Or.inl (by omega))
      rw [e]
      exact permIn_all d d' a b (fun x => ltInt x d[a - 1]! = false) hb hp h i hi hib
theorem Ahead.sub {a b b2 : Nat} {d : Array Int} (h : Ahead a b d) (hb : b2 ≤ b) : Ahead a b2 d := by
  rcases h with h | h
  · exact Or.inl h
  · exact Or.inr fun i hi hib => h i hi (by omega)
theorem Fin'.perm {a b a' b' : Nat} {d dk d1 : Array Int} (h : Fin' a b d a' b' dk) (hp : PermIn a' b' dk d1) : Fin' a b d a' b' d1 :=
  fun d' h1 h2 => h d' (permIn_trans _ _ _ _ _ hp h1) h2

/-- What the equal partition leaves. -/
theorem eq_round {a b a' b' pv mid : Nat} {d d3 d4 : Array Int} (ha : 0 < a') (hp1 : a' ≤ pv) (hp2 : pv < b') (hb : b' ≤ d3.size) (hA : Ahead a' b' d3) (hF : Fin' a b d a' b' d3)
    (hq : ltInt d3[a' - 1]! d3[pv]! = false) (hx : partitionEqual ltInt d3 a' b' pv = (mid, d4)) :
    a' < mid ∧ mid ≤ b' ∧ d4.size = d3.size ∧ Ahead mid b' d4 ∧ Fin' a b d mid b' d4 := by
  have hall : ∀ i, a' ≤ i → i < b' → ltInt d3[i]! d3[pv]! = false := fun i hi hib => by
    rcases hA with h0 | h0
    · omega
    · have := lt_f.1 (h0 i hi hib)
      have := lt_f.1 hq
      exact lt_f.2 (by omega)
  obtain ⟨h1, h2, h3, h4, h5⟩ := partitionEqual_holds ltInt swo_ltInt d3 a' b' pv hp1 hp2 hb hall
  rw [hx] at h1 h2 h3 h4 h5
  simp only [] at h1 h2 h3 h4 h5
  have hge : ∀ i, a' ≤ i → i < b' → ltInt d4[i]! d3[pv]! = false := permIn_all d3 d4 a' b' (fun x => ltInt x d3[pv]! = false) hb h3 hall
  refine ⟨h1, h2, h3.1, Or.inr fun i hi hib => ?_, fun d' q1 q2 => ?_⟩
  · have e1 := lt_f.1 (h4 (mid - 1) (by omega) (by omega))
    have e2 := lt_t.1 (h5 i hi hib)
    exact lt_f.2 (by omega)
  · have hs4 : b' ≤ d4.size := by rw [h3.1]; exact hb
    refine hF d' (permIn_trans _ _ _ _ _ h3 (permIn_mono d4 d' mid b' a' b' (by omega) (Nat.le_refl _) hs4 q1)) ?_
    intro i j hi hij hj
    have hgt := permIn_all d4 d' mid b' (fun x => ltInt d3[pv]! x = true) hs4 q1 h5
    by_cases hjm : j < mid
    · rw [q1.2.1 j (Or.inl hjm), q1.2.1 i (Or.inl (by omega))]
      have e1 := lt_f.1 (h4 i hi (by omega))
      have e2 := lt_f.1 (hge j (by omega) (by omega))
      exact lt_f.2 (by omega)
    · by_cases him : i < mid
      · rw [q1.2.1 i (Or.inl him)]
        have e1 := lt_f.1 (h4 i hi him)
        have e2 := lt_t.1 (hgt j (by omega) hj)
        exact lt_f.2 (by omega)
      · exact q2 i j (by omega) hij hj

theorem sorted_glue {a' mid b' : Nat} {p : Int} {d' : Array Int} (hm : d'[mid]! = p) (hl : ∀ i, a' ≤ i → i < mid → ltInt d'[i]! p = true) (hr : ∀ i, mid < i → i < b' → ltInt d'[i]! p = false)
    (s1 : SortedIn ltInt a' mid d') (s2 : SortedIn ltInt (mid + 1) b' d') : SortedIn ltInt a' b' d' := by
  intro i j hi hij hj
  rcases Nat.lt_trichotomy j mid with h | h | h
  · exact s1 i j hi hij h
  · subst h
    have e := lt_t.1 (hl i hi hij)
    rw [hm]
    exact lt_f.2 (by omega)
  · have e2 := lt_f.1 (hr j h hj)
    rcases Nat.lt_trichotomy i mid with g | g | g
    · have e := lt_t.1 (hl i hi g)
      exact lt_f.2 (by omega)
    · subst g
      rw [hm]
      exact lt_f.2 (by omega)
    · exact s2 i j (by omega) hij hj

/-- What the partition leaves: and behind it both orders of the two sides. -/
theorem part_round {a b a' b' pv mid : Nat} {ap : Bool} {d d3 d4 : Array Int} (hp1 : a' ≤ pv) (hp2 : pv < b') (hb : b' ≤ d3.size) (hA : Ahead a' b' d3) (hF : Fin' a b d a' b' d3)
    (hx : partition ltInt d3 a' b' pv = (mid, ap, d4)) :
    a' ≤ mid ∧ mid < b' ∧ d4.size = d3.size ∧ Ahead a' mid d4 ∧ Ahead (mid + 1) b' d4 ∧
    (∀ d5, PermIn a' mid d4 d5 → SortedIn ltInt a' mid d5 → Ahead (mid + 1) b' d5 ∧ Fin' a b d (mid + 1) b' d5) ∧
    (∀ d5, PermIn (mid + 1) b' d4 d5 → SortedIn ltInt (mid + 1) b' d5 → Ahead a' mid d5 ∧ Fin' a b d a' mid d5) := by
  obtain ⟨h1, h2, h3, h4, h5⟩ := partition_holds ltInt swo_ltInt d3 a' b' pv hp1 hp2 hb
  rw [hx] at h1 h2 h3 h4 h5
  simp only [] at h1 h2 h3 h4 h5
  have hA4 := hA.perm hb h3
  have hF4 := hF.perm h3
  have hs4 : b' ≤ d4.size := by rw [h3.1]; exact hb
  have hAr : ∀ d5, (∀ i, i < a' ∨ mid ≤ i → d5[i]! = d4[i]!) → Ahead (mid + 1) b' d5 := fun d5 he => Or.inr fun i hi hib => by
    rw [he i (Or.inr (by omega)), show mid + 1 - 1 = mid by omega, he mid (Or.inr (Nat.le_refl _))]
    exact h5 i (by omega) hib
  refine ⟨h1, h2, h3.1, hA4.sub (by omega), hAr d4 (fun _ _ => rfl), fun d5 p5 s5 => ⟨hAr d5 p5.2.1, fun d' q1 q2 => ?_⟩, fun d5 p5 s5 => ⟨?_, fun d' q1 q2 => ?_⟩⟩
  · have hs5 : b' ≤ d5.size := by rw [p5.1]; exact hs4
    have P1 : PermIn a' b' d4 d5 := permIn_mono d4 d5 a' mid a' b' (Nat.le_refl _) (by omega) hs4 p5
    have P2 : PermIn a' b' d5 d' := permIn_mono d5 d' (mid + 1) b' a' b' (by omega) (Nat.le_refl _) hs5 q1
    refine hF4 d' (permIn_trans _ _ _ _ _ P1 P2) (sorted_glue (p := d4[mid]!) ?_ ?_ ?_ ?_ q2)
    · rw [q1.2.1 mid (Or.inl (by omega)), p5.2.1 mid (Or.inr (Nat.le_refl _))]
    · intro i hi him
      rw [q1.2.1 i (Or.inl (by omega))]
      exact permIn_all d4 d5 a' mid (fun x => ltInt x d4[mid]! = true) (by omega) p5 h4 i hi him
    · intro i hi hib
      refine permIn_all d5 d' (mid + 1) b' (fun x => ltInt x d4[mid]! = false) hs5 q1 (fun k hk hkb => ?_) i (by omega) hib
      rw [p5.2.1 k (Or.inr (by omega))]
      exact h5 k (by omega) hkb
    · intro i j hi hij hj
      rw [q1.2.1 i (Or.inl (by omega)), q1.2.1 j (Or.inl (by omega))]
      exact s5 i j hi hij hj
  · exact (hA4.perm hs4 (permIn_mono d4 d5 (mid + 1) b' a' b' (by omega) (Nat.le_refl _) hs4 p5)).sub (by omega)
  · have hs5 : b' ≤ d5.size := by rw [p5.1]; exact hs4
    have P1 : PermIn a' b' d4 d5 := permIn_mono d4 d5 (mid + 1) b' a' b' (by omega) (Nat.le_refl _) hs4 p5
    have P2 : PermIn a' b' d5 d' := permIn_mono d5 d' a' mid a' b' (Nat.le_refl _) (by omega) hs5 q1
    refine hF4 d' (permIn_trans _ _ _ _ _ P1 P2) (sorted_glue (p := d4[mid]!) ?_ ?_ ?_ q2 ?_)
    · rw [q1.2.1 mid (Or.inr (Nat.le_refl _)), p5.2.1 mid (Or.inl (by omega))]
    · intro i hi him
      refine permIn_all d5 d' a' mid (fun x => ltInt x d4[mid]! = true) (by omega) q1 (fun k hk hkb => ?_) i hi him
      rw [p5.2.1 k (Or.inl (by omega))]
      exact h4 k hk hkb
    · intro i hi hib
      rw [q1.2.1 i (Or.inr (by omega))]
      exact permIn_all d4 d5 (mid + 1) b' (fun x => ltInt x d4[mid]! = false) hs4 p5 (fun k hk hkb => h5 k (by omega) hkb) i (by omega) hib
    · intro i j hi hij hj
      rw [q1.2.1 i (Or.inr (by omega)), q1.2.1 j (Or.inr (by omega))]
      exact s5 i j hi hij hj

end Go.Proofs.YtcibjgkifafohaaDoor
