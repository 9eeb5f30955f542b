/-
  PLAIN: the least class.
-/
import Derived.Test.YtopkddbahbmdhaaNearP
namespace Go.Proofs.Ytopkddbahbmdhaa
open Go.RowKit Go.Lib
set_option linter.unusedVariables false

theorem sub_trans {a b c : Nat} (h1 : a &&& b = a) (h2 : b &&& c = b) : a &&& c = a := by
  rw [← h1, Nat.and_assoc, h2]
theorem sub_and {a b c : Nat} (h1 : a &&& b = a) (h2 : a &&& c = a) : a &&& (b &&& c) = a := by
  rw [← Nat.and_assoc, h1, h2]
theorem and_sub_left (a b : Nat) : (a &&& b) &&& a = a &&& b := by
  rw [Nat.and_comm (a &&& b) a, ← Nat.and_assoc, Nat.and_self]
theorem and_sub_right (a b : Nat) : (a &&& b) &&& b = a &&& b := by
  rw [Nat.and_assoc, Nat.and_self]
/-- What the walk over the letters keeps: masks within the masks ahead, within each letter's; the greatest such. -/
theorem lstS_ok (ls : List Ltr) : ∀ (l : List Int) (P M : Nat), (lstS ls l P M).2.2 = 0 →
    ((lstS ls l P M).1 &&& P = (lstS ls l P M).1 ∧ (lstS ls l P M).2.1 &&& M = (lstS ls l P M).2.1) ∧
    (∀ r ∈ l, (lofR ls r).2 = 0 ∧ (lstS ls l P M).1 &&& (lofR ls r).1.p = (lstS ls l P M).1 ∧ (lstS ls l P M).2.1 &&& (lofR ls r).1.m = (lstS ls l P M).2.1) ∧
    (∀ p m, p &&& P = p → m &&& M = m → (∀ r ∈ l, p &&& (lofR ls r).1.p = p ∧ m &&& (lofR ls r).1.m = m) → p &&& (lstS ls l P M).1 = p ∧ m &&& (lstS ls l P M).2.1 = m)
  | [], P, M, _ => ⟨⟨Nat.and_self _, Nat.and_self _⟩, fun r hr => absurd hr (by simp), fun p m h1 h2 _ => ⟨h1, h2⟩⟩
  | r :: l, P, M, h => by
    unfold lstS at h ⊢
    by_cases h0 : (lofR ls r).2 = 0
    · rw [if_pos h0] at h ⊢
      obtain ⟨⟨a1, a2⟩, b, c⟩ := lstS_ok ls l (P &&& (lofR ls r).1.p) (M &&& (lofR ls r).1.m) h
      refine ⟨⟨sub_trans a1 (and_sub_left _ _), sub_trans a2 (and_sub_left _ _)⟩, fun q hq => ?_, fun p m h1 h2 h3 => ?_⟩
      · rcases List.mem_cons.1 hq with rfl | hq
        · exact ⟨h0, sub_trans a1 (and_sub_right _ _), sub_trans a2 (and_sub_right _ _)⟩
        · exact b q hq
      · have h4 := h3 r (List.mem_cons_self)
        exact c p m (sub_and h1 h4.1) (sub_and h2 h4.2) (fun q hq => h3 q (List.mem_cons_of_mem _ hq))
    · rw [if_neg h0] at h
      exact absurd h h0
theorem lstS_err (ls : List Ltr) : ∀ (l : List Int) (P M : Nat), ¬ (lstS ls l P M).2.2 = 0 → (lstS ls l P M).1 = 0 ∧ (lstS ls l P M).2.1 = 0
  | [], P, M, h => absurd rfl h
  | r :: l, P, M, h => by
    unfold lstS at h ⊢
    by_cases h0 : (lofR ls r).2 = 0
    · rw [if_pos h0] at h ⊢
      exact lstS_err ls l _ _ h
    · rw [if_neg h0]
      exact ⟨rfl, rfl⟩
theorem allN_sub {k p : Nat} (h : p < 2 ^ k) : p &&& allN k = p := by
  unfold allN
  rw [Nat.and_two_pow_sub_one_eq_mod, Nat.mod_eq_of_lt h]
theorem sub_lt {a b n : Nat} (h : a &&& b = a) (hb : b < n) : a < n := by
  rw [← h]; exact Nat.lt_of_le_of_lt Nat.and_le_right hb
theorem sub_disj {a b p m : Nat} (h1 : a &&& p = a) (h2 : b &&& m = b) (h : p &&& m = 0) : a &&& b = 0 := by
  rw [← h1, ← h2, Nat.and_assoc, ← Nat.and_assoc p b m, Nat.and_comm p b, Nat.and_assoc b p m, h, Nat.and_zero, Nat.and_zero]
theorem sublist_cons_ne {c d : Int} {cs ds : List Int} (h : (c :: cs).Sublist (d :: ds)) (hne : ¬ d = c) : (c :: cs).Sublist ds := by
  cases h with
  | cons _ h => exact h
  | cons_cons _ h => exact absurd rfl hne
theorem sublist_cons_eq {c d : Int} {cs ds : List Int} (h : (c :: cs).Sublist (d :: ds)) : cs.Sublist ds := by
  cases h with
  | cons _ h => exact (List.sublist_cons_self c cs).trans h
  | cons_cons _ h => exact h

/-- Least: no answer; or the class, with all that the law asks. -/
theorem leastR_cases (A : Al) (l : List Int) (p m : Nat) (hb : ∀ l ∈ A.ls, l.p < 4294967296 ∧ l.m < 4294967296 ∧ -2147483648 ≤ l.r ∧ l.r ≤ 2147483647) (hp : p < 4294967296) (hm : m < 4294967296) :
    (∃ e, e ≠ 0 ∧ leastR A l = (0, 0, e)) ∨
    (∃ P M, leastR A l = (P, M, 0) ∧ P < 16777216 ∧ M < 16777216 ∧ l.length ≤ 128 ∧ (∀ r ∈ l, hasR A r P M = (true, 0)) ∧ aacR A P M = 0 ∧ aacR A (P &&& p) (M &&& m) = 0 ∧
      ((∀ r ∈ l, hasR A r p m = (true, 0)) → p &&& P = p ∧ m &&& M = m) ∧ (clsR A P M).Sublist (clsR A (P &&& p) (M &&& m))) := by
  unfold leastR
  cases hok : A.ok with
  | false => exact Or.inl ⟨7, by decide, by rw [if_neg (by decide)]⟩
  | true =>
    rw [if_pos rfl]
    by_cases h128 : 128 < l.length
    · exact Or.inl ⟨4, by decide, by rw [if_pos h128]⟩
    · rw [if_neg h128]
      by_cases h00 : l.length = 0
      · exact Or.inl ⟨8, by decide, by rw [if_pos h00]⟩
      · rw [if_neg h00]
        by_cases h0 : (lstS A.ls l (allN A.fs.length) (allN A.fs.length)).2.2 = 0
        · obtain ⟨⟨a1, a2⟩, b, c⟩ := lstS_ok A.ls l _ _ h0
          obtain ⟨P, hP⟩ : ∃ P, P = (lstS A.ls l (allN A.fs.length) (allN A.fs.length)).1 := ⟨_, rfl⟩
          obtain ⟨M, hM⟩ : ∃ P, P = (lstS A.ls l (allN A.fs.length) (allN A.fs.length)).2.1 := ⟨_, rfl⟩
          have hres : lstS A.ls l (allN A.fs.length) (allN A.fs.length) = (P, M, 0) := by rw [hP, hM, ← h0]
          rw [← hP] at a1 b c
          rw [← hM] at a2 b c
          have h24 := Al.ok24 hok
          have hbig : 2 ^ A.fs.length ≤ 2 ^ 24 := Nat.pow_le_pow_right (by decide) h24
          have hpos := Nat.two_pow_pos A.fs.length
          have hall : allN A.fs.length < 2 ^ A.fs.length := by unfold allN; omega
          have hPl := sub_lt a1 hall
          have hMl := sub_lt a2 hall
          obtain ⟨r0, hr0⟩ : ∃ r, r ∈ l := by
            cases l with
            | nil => exact absurd rfl h00
            | cons r l => exact ⟨r, List.mem_cons_self⟩
          have hlet : ∀ r ∈ l, ∃ x, lofR A.ls r = (x, 0) ∧ x ∈ A.ls := fun r hr => by
            obtain ⟨x, _, e, hx⟩ := lofR_yes (b r hr).1
            exact ⟨x, e, hx⟩
          have hdis : P &&& M = 0 := by
            obtain ⟨x, e, hx⟩ := hlet r0 hr0
            have hb0 := b r0 hr0
            rw [e] at hb0
            have hc := (Al.in_ok hok hb hx).2.1
            unfold clsB at hc
            simp only [Bool.and_eq_true, decide_eq_true_eq] at hc
            exact sub_disj hb0.2.1 hb0.2.2 hc.2
          have hcl : clsB A.fs.length P M = true := cls_of h24 hPl hMl hdis
          have hcl2 : clsB A.fs.length (P &&& p) (M &&& m) = true := cls_of h24 (Nat.lt_of_le_of_lt Nat.and_le_left hPl) (Nat.lt_of_le_of_lt Nat.and_le_left hMl) (sub_disj (and_sub_left _ _) (and_sub_left _ _) hdis)
          have eof : ∀ q, ofR A q = lofR A.ls q := fun q => by unfold ofR; rw [hok]; rfl
          have hhas : ∀ r ∈ l, ∀ p m, clsB A.fs.length p m = true → hasR A r p m = (hasB (lofR A.ls r).1 p m, 0) := fun r hr p m hc => by
            obtain ⟨x, e, hx⟩ := hlet r hr
            unfold hasR
            rw [lacR_ok (by rw [eof, e]) hc, if_pos rfl, eof]
          refine Or.inr ⟨P, M, hres, by omega, by omega, by omega, fun r hr => ?_, by rw [aacR_ok hok, hcl]; rfl, by rw [aacR_ok hok, hcl2]; rfl, fun h => ?_, ?_⟩
          · rw [hhas r hr P M hcl]
            have := b r hr
            unfold hasB
            rw [Nat.and_comm, this.2.1, Nat.and_comm, this.2.2]
            simp
          · have hcp : clsB A.fs.length p m = true := by
              cases hc : clsB A.fs.length p m with
              | true => rfl
              | false =>
                have h1 := h r0 hr0
                obtain ⟨x, e, hx⟩ := hlet r0 hr0
                unfold hasR at h1
                rw [lacR_cls (by rw [eof, e]) hc] at h1
                simp at h1
            obtain ⟨q1, q2⟩ := cls_lt h24 hp hm hcp
            refine c p m (allN_sub q1) (allN_sub q2) fun r hr => ?_
            have h1 := h r hr
            rw [hhas r hr p m hcp] at h1
            have h2 : hasB (lofR A.ls r).1 p m = true := (Prod.mk.inj h1).1
            unfold hasB at h2
            simp only [Bool.and_eq_true, decide_eq_true_eq] at h2
            exact ⟨by rw [Nat.and_comm]; exact h2.1, by rw [Nat.and_comm]; exact h2.2⟩
          · unfold clsR
            rw [aacR_ok hok, aacR_ok hok, hcl, hcl2]
            simp only [if_true]
            unfold clsL
            refine List.Sublist.map _ ?_
            have : A.ls.filter (fun l => hasB l P M) = (A.ls.filter (fun l => hasB l (P &&& p) (M &&& m))).filter (fun l => hasB l P M) := by
              rw [List.filter_filter]
              apply List.filter_congr
              intro x _
              cases hx : hasB x P M with
              | false => rfl
              | true =>
                unfold hasB at hx
                simp only [Bool.and_eq_true, decide_eq_true_eq] at hx
                have e1 : x.p &&& (P &&& p) = P &&& p := by rw [← Nat.and_assoc, hx.1]
                have e2 : x.m &&& (M &&& m) = M &&& m := by rw [← Nat.and_assoc, hx.2]
                unfold hasB
                rw [e1, e2]
                simp
            rw [this]
            exact List.filter_sublist
        · obtain ⟨z1, z2⟩ := lstS_err A.ls l _ _ h0
          exact Or.inl ⟨_, h0, Prod.ext z1 (Prod.ext z2 rfl)⟩
end Go.Proofs.Ytopkddbahbmdhaa
