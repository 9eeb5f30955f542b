/-
  PLAIN LEAN: a quoted text is plain to see, and longer than the text; where a text that is not read goes wrong.
-/
import Derived.Test.YthkdfffankpekaaDoorBackQ
namespace Go.Proofs.YthkdfffankpekaaDoor
open Go.RowKit Go.Lib
set_option linter.unusedVariables false

def seen (b : UInt8) : Prop := 32 ≤ b.toNat ∧ b.toNat ≤ 126
theorem hexc_seen (n : Nat) (h : n < 16) : seen (hexc n) := by
  match n, h with
  | 0, _ => exact ⟨by decide, by decide⟩ | 1, _ => exact ⟨by decide, by decide⟩ | 2, _ => exact ⟨by decide, by decide⟩ | 3, _ => exact ⟨by decide, by decide⟩
  | 4, _ => exact ⟨by decide, by decide⟩ | 5, _ => exact ⟨by decide, by decide⟩ | 6, _ => exact ⟨by decide, by decide⟩ | 7, _ => exact ⟨by decide, by decide⟩
  | 8, _ => exact ⟨by decide, by decide⟩ | 9, _ => exact ⟨by decide, by decide⟩ | 10, _ => exact ⟨by decide, by decide⟩ | 11, _ => exact ⟨by decide, by decide⟩
  | 12, _ => exact ⟨by decide, by decide⟩ | 13, _ => exact ⟨by decide, by decide⟩ | 14, _ => exact ⟨by decide, by decide⟩ | 15, _ => exact ⟨by decide, by decide⟩
  | n + 16, h => omega
theorem shown_seen (s : ByteArray) (p : Nat) : ∀ b ∈ shownL s p, seen b := by
  intro b hb
  cases h : brk s p with
  | true =>
    rw [shown_brk h] at hb
    have := get_u8 s p
    simp only [List.mem_cons, List.not_mem_nil, or_false] at hb
    rcases hb with rfl | rfl | rfl | rfl
    · exact ⟨by decide, by decide⟩
    · exact ⟨by decide, by decide⟩
    · exact hexc_seen _ (by omega)
    · exact hexc_seen _ (by omega)
  | false =>
    have hsh := shape s p h
    by_cases h2 : dR s p = 34 ∨ dR s p = 92
    · rw [shown_esc h h2] at hb
      simp only [List.mem_cons, List.not_mem_nil, or_false] at hb
      rcases hb with rfl | rfl
      · exact ⟨by decide, by decide⟩
      · exact ⟨by omega, by omega⟩
    · by_cases h3 : 32 ≤ dR s p ∧ dR s p ≤ 126
      · rw [shown_self h h2 h3] at hb
        simp only [List.mem_cons, List.not_mem_nil, or_false] at hb
        subst hb
        exact ⟨by omega, by omega⟩
      · rw [shown_u h h2 h3] at hb
        obtain ⟨d1, _⟩ := hexF_dig 7 (dR s p) (by have : (16 : Nat) ^ (7 + 1) = 4294967296 := by decide
                                                  have := dR_le s p
                                                  omega)
        rcases List.mem_append.1 hb with hb | hb
        · rcases List.mem_append.1 hb with hb | hb
          · simp only [List.mem_cons, List.not_mem_nil, or_false] at hb
            rcases hb with rfl | rfl
            · exact ⟨by decide, by decide⟩
            · exact ⟨by decide, by decide⟩
          · obtain ⟨n, hn, rfl⟩ := d1 b hb
            exact hexc_seen n hn
        · simp only [List.mem_cons, List.not_mem_nil, or_false] at hb
          subst hb
          exact ⟨by decide, by decide⟩
theorem quote_seen (s : ByteArray) : ∀ b ∈ quoteL s, seen b := by
  intro b hb
  unfold quoteL outL at hb
  rcases List.mem_append.1 hb with hb | hb
  · rcases List.mem_cons.1 hb with rfl | hb
    · exact ⟨by decide, by decide⟩
    · obtain ⟨p, _, hp⟩ := List.mem_flatMap.1 hb
      exact shown_seen s p b hp
  · simp only [List.mem_cons, List.not_mem_nil, or_false] at hb
    subst hb
    exact ⟨by decide, by decide⟩
theorem strOf_size (l : List UInt8) : (strOf l).size = l.length := by show (strOf l).data.size = _; simp [strOf]
theorem quote_get (s : ByteArray) (i : Nat) (h : i < (strOf (quoteL s)).size) : 32 ≤ ((strOf (quoteL s)).get! i).toNat ∧ ((strOf (quoteL s)).get! i).toNat ≤ 126 := by
  rw [strOf_size] at h
  rw [get_strOf _ i h]
  exact quote_seen s _ (List.getElem_mem h)
theorem shown_wide (s : ByteArray) (p : Nat) : dW s p ≤ (shownL s p).length := by
  have h4 := dW_le4 s p
  cases h : brk s p with
  | true => rw [shown_brk h]; simpa using h4
  | false =>
    have hsh := shape s p h
    by_cases h2 : dR s p = 34 ∨ dR s p = 92
    · rw [shown_esc h h2]; show dW s p ≤ 2; omega
    · by_cases h3 : 32 ≤ dR s p ∧ dR s p ≤ 126
      · rw [shown_self h h2 h3]; show dW s p ≤ 1; omega
      · rw [shown_u h h2 h3]
        obtain ⟨_, _, d3, _⟩ := hexF_dig 7 (dR s p) (by have : (16 : Nat) ^ (7 + 1) = 4294967296 := by decide
                                                        have := dR_le s p
                                                        omega)
        have d3' : 1 ≤ (hexL (dR s p)).length := d3
        simp only [List.length_append, List.length_cons, List.length_nil]
        omega
theorem shown_all (s : ByteArray) : ∀ f p, s.size ≤ p + f → p ≤ s.size → s.size - p ≤ ((startsF s f p).flatMap (shownL s)).length
  | 0, p, h, h' => by omega
  | f + 1, p, h, h' => by
    by_cases h1 : p < s.size
    · have e : startsF s (f + 1) p = p :: startsF s f (p + dW s p) := by show (if p < s.size then _ else _) = _; rw [if_pos h1]
      have hw := dW_fits s p h1
      have hpos := dW_pos s p
      have := shown_wide s p
      have ih := shown_all s f (p + dW s p) (by omega) hw
      rw [e, List.flatMap_cons, List.length_append]
      omega
    · omega
theorem quote_size (s : ByteArray) : s.size + 2 ≤ (strOf (quoteL s)).size ∧ (strOf (quoteL s)).size ≤ 2 + 11 * s.size := by
  have h1 := shown_all s s.size 0 (by omega) (by omega)
  have h2 : (starts s).length ≤ s.size := by simpa [starts] using startsF_le s s.size 0
  have h3 := outL_length s (starts s)
  rw [strOf_size]
  unfold quoteL
  rw [List.length_append]
  have h4 : (outL s (starts s)).length = 1 + ((startsF s s.size 0).flatMap (shownL s)).length := by unfold outL starts; rw [List.length_cons]; omega
  simp only [List.length_cons, List.length_nil]
  omega

theorem unqF_le (s : ByteArray) : ∀ f a acc, a ≤ s.size → (unqF s f a acc).2 ≤ s.size
  | 0, a, _, h => by show (a : Int) ≤ s.size; omega
  | f + 1, a, acc, h => by
    by_cases h1 : a < s.size
    · rw [unqF_at s f a acc h1]
      have ht := (thing_le (s.extract a s.size) (by simp; omega)).1
      have hes : (s.extract a s.size).size = s.size - a := by simp
      rw [hes] at ht
      split
      · split
        · show (a : Int) + 1 ≤ s.size; omega
        · show (-1 : Int) ≤ s.size; omega
      · split
        · show (a : Int) ≤ s.size; omega
        · exact unqF_le s f _ _ (by omega)
    · rw [unqF_out s (f + 1) a acc h1]
      show (a : Int) ≤ s.size; omega
theorem unq_le (s : ByteArray) : (unq s).2 ≤ s.size := by
  unfold unq
  split
  · show (0 : Int) ≤ s.size; omega
  · split
    · show (0 : Int) ≤ s.size; omega
    · exact unqF_le s _ _ _ (by omega)
/-- What Plain answers: the text, which is quoted so; or nothing. -/
theorem plain_two (q : ByteArray) : (∃ v : ByteArray, plainT q = .tuple #[.string v, .int .i64 0, .int .i64 0] ∧ v.size ≤ 65536 ∧ strOf (quoteL v) = q) ∨ (∃ p : Int, ∃ e : Int, plainT q = .tuple #[.string ByteArray.empty, .int .i64 p, .int .i64 e] ∧ 0 ≤ p ∧ p ≤ q.size ∧ (e = 3 ∨ e = 10)) := by
  have h1 := unq_le q
  unfold plainT
  by_cases a1 : 0 ≤ (unq q).2
  · rw [if_pos a1]
    exact .inr ⟨(unq q).2, 10, rfl, a1, h1, .inr rfl⟩
  · rw [if_neg a1]
    by_cases a2 : 65536 < (strOf (unq q).1).size
    · rw [if_pos a2]
      exact .inr ⟨0, 3, rfl, by omega, by omega, .inl rfl⟩
    · rw [if_neg a2]
      by_cases a3 : (strOf (quoteL (strOf (unq q).1))).toList = q.toList
      · rw [if_pos a3]
        refine .inl ⟨_, rfl, by omega, ?_⟩
        rw [ByteArray.toList_eq, ByteArray.toList_eq] at a3
        exact ByteArray.ext (Array.toList_inj.1 a3)
      · rw [if_neg a3]
        exact .inr ⟨0, 10, rfl, by omega, by omega, .inr rfl⟩
end Go.Proofs.YthkdfffankpekaaDoor
