/-
  WALKS: cognatelaw02.FeatureBack.
-/
import Derived.Test.YtmbekgfbnapelaaBackP
import Derived.Test.YtmbekgfbnapelaaFar
namespace Go.Proofs.Ytmbekgfbnapelaa
open Go.RowKit Go.Lib
set_option linter.unusedVariables false

theorem bitF_pow : ∀ (l : List ByteArray) (s : ByteArray) (i : Nat), bitF l s i ≠ 0 → ∃ k, bitF l s i = 2 ^ k ∧ k < i + l.length
  | [], _, _, h => absurd rfl h
  | f :: l, s, i, h => by
    unfold bitF at h ⊢
    split
    · exact ⟨i, rfl, by simp⟩
    · rename_i hf
      rw [if_neg hf] at h
      obtain ⟨k, e, hk⟩ := bitF_pow l s (i + 1) h
      exact ⟨k, e, by simp only [List.length_cons]; omega⟩
theorem parF_ok (fs : List ByteArray) (s : ByteArray) : ∀ (n t P M : Nat), P < 2 ^ fs.length → M < 2 ^ fs.length → P &&& M = 0 →
    (∃ t' e, parF fs s n t P M = (0, 0, t', e) ∧ e ≠ 0 ∧ t' ≤ s.size) ∨ (∃ p m, parF fs s n t P M = (p, m, 0, 0) ∧ p < 2 ^ fs.length ∧ m < 2 ^ fs.length ∧ p &&& m = 0)
  | 0, t, P, M, h1, h2, h3 => Or.inr ⟨P, M, rfl, h1, h2, h3⟩
  | n + 1, t, P, M, h1, h2, h3 => by
    by_cases ht : t < s.size
    · obtain ⟨B, hB⟩ : ∃ B, B = bitF fs (s.extract (t + 1) (endOf s (t + 1))) 0 := ⟨_, rfl⟩
      by_cases hc : isSg (s[t]'ht).toNat = true ∧ bitF fs (s.extract (t + 1) (endOf s (t + 1))) 0 ≠ 0 ∧ (P ||| M) &&& bitF fs (s.extract (t + 1) (endOf s (t + 1))) 0 = 0
      · rw [parF_go fs s n t P M ht hc]
        obtain ⟨_, hb, ha⟩ := hc
        obtain ⟨k, ek, hk⟩ := bitF_pow _ _ _ hb
        rw [ek] at ha ⊢
        have hk : 2 ^ k < 2 ^ fs.length := Nat.pow_lt_pow_right (by decide) (by omega)
        rw [and_pow_iff, Nat.testBit_or, Bool.or_eq_false_iff] at ha
        have zP := (and_pow_iff P k).2 ha.1
        have zM := (and_pow_iff M k).2 ha.2
        split
        · refine parF_ok fs s n _ P (M ||| 2 ^ k) h1 (Nat.or_lt_two_pow h2 hk) ?_
          rw [Nat.and_or_distrib_left, h3, zP]; rfl
        · refine parF_ok fs s n _ (P ||| 2 ^ k) M (Nat.or_lt_two_pow h1 hk) h2 ?_
          rw [Nat.and_comm, Nat.and_or_distrib_left, Nat.and_comm, h3, zM]; rfl
      · rw [parF_bad fs s n t P M ht hc]
        exact Or.inl ⟨t, 20, rfl, by decide, by omega⟩
    · rw [parF_end fs s (n + 1) t P M ht]
      exact Or.inr ⟨P, M, rfl, h1, h2, h3⟩
/-- Parse: a class that may be, or an error at a place within. -/
theorem parR_cases (A : Al) (s : ByteArray) : (∃ t e, parR A s = (0, 0, t, e) ∧ e ≠ 0 ∧ t ≤ s.size) ∨ (∃ p m, parR A s = (p, m, 0, 0) ∧ p < 4294967296 ∧ m < 4294967296 ∧ aacR A p m = 0) := by
  unfold parR
  cases hok : A.ok with
  | false => rw [if_neg (by decide)]; exact Or.inl ⟨0, 7, rfl, by decide, Nat.zero_le _⟩
  | true =>
    rw [if_pos rfl]
    by_cases hs : 65536 < s.size
    · rw [if_pos hs]; exact Or.inl ⟨0, 3, rfl, by decide, Nat.zero_le _⟩
    · rw [if_neg hs]
      have hpos := Nat.two_pow_pos A.fs.length
      have h24 := Al.ok24 hok
      have hbig : 2 ^ A.fs.length ≤ 2 ^ 24 := Nat.pow_le_pow_right (by decide) h24
      rcases parF_ok A.fs s (s.size + 1) 0 0 0 hpos hpos rfl with h | ⟨p, m, e, h1, h2, h3⟩
      · exact Or.inl h
      · exact Or.inr ⟨p, m, e, by omega, by omega, by rw [aacR_ok hok, cls_of h24 h1 h2 h3]; rfl⟩
theorem textR_no {A : Al} {p m : Nat} (h : ¬ aacR A p m = 0) : textR A p m = ([], aacR A p m) := by unfold textR; rw [if_neg h]
theorem textR_yes {A : Al} {p m : Nat} (h : aacR A p m = 0) : ∃ t, textR A p m = (t, 0) := by unfold textR; rw [if_pos h]; exact ⟨_, rfl⟩

end Go.Proofs.Ytmbekgfbnapelaa
