/-
  WALK: cognatelaw01.alive. PLAIN: 'less' is a strict order on texts.
-/
import Derived.Test.YtmbekgfbnapelaaDoorQuoted
import Derived.Test.YtmbekgfbnapelaaDoorRefLess
namespace Go.Proofs.YtmbekgfbnapelaaDoor
open Go.RowKit Go.Lib
set_option linter.unusedVariables false

/-! ### the order -/
def lexL : List Nat → List Nat → Bool
  | [], [] => false
  | [], _ :: _ => true
  | _ :: _, [] => false
  | x :: l, y :: m => if x = y then lexL l m else decide (x < y)
theorem lessL_lex (s t : ByteArray) : ∀ l m, lessL s t l m = lexL (l.map (wt s)) (m.map (wt t))
  | [], [] => rfl
  | [], _ :: _ => rfl
  | _ :: _, [] => rfl
  | p :: l, q :: m => by
    have ih := lessL_lex s t l m
    simp only [lessL, List.map_cons, lexL, ih]
theorem lexL_irr : ∀ l, lexL l l = false
  | [] => rfl
  | x :: l => by simp [lexL, lexL_irr l]
theorem lexL_asym : ∀ l m, lexL l m = true → lexL m l = false
  | [], [] => by simp [lexL]
  | [], _ :: _ => by simp [lexL]
  | _ :: _, [] => by simp [lexL]
  | x :: l, y :: m => by
    have ih := lexL_asym l m
    unfold lexL
    by_cases h : x = y
    · subst h; simpa using ih
    · have h' : ¬ y = x := fun e => h e.symm
      simp [h, h']
      omega
theorem lexL_tri : ∀ l m, lexL l m = false → lexL m l = false → l = m
  | [], [] => by simp
  | [], _ :: _ => by simp [lexL]
  | _ :: _, [] => by simp [lexL]
  | x :: l, y :: m => by
    have ih := lexL_tri l m
    unfold lexL
    by_cases h : x = y
    · subst h; simpa using ih
    · have h' : ¬ y = x := fun e => h e.symm
      simp [h, h']
      omega
theorem lexL_trans : ∀ l m n, lexL l m = true → lexL m n = true → lexL l n = true
  | [], m, [] => by cases m <;> simp [lexL]
  | [], m, _ :: _ => by simp [lexL]
  | _ :: _, [], n => by simp [lexL]
  | _ :: _, _ :: _, [] => by simp [lexL]
  | x :: l, y :: m, z :: n => by
    have ih := lexL_trans l m n
    unfold lexL
    by_cases h : x = y
    · subst h
      by_cases h2 : x = z
      · subst h2; simpa using ih
      · simp [h2]
    · by_cases h2 : y = z
      · subst h2; simp only [if_neg h, if_true, decide_eq_true_eq]; intro a _; exact a
      · simp only [if_neg h, if_neg h2, decide_eq_true_eq]
        intro a b
        have : ¬ x = z := by omega
        simp only [if_neg this, decide_eq_true_eq]
        omega
theorem less_lex (a b : ByteArray) : less a b = lexL ((starts a).map (wt a)) ((starts b).map (wt b)) := by rw [← lessL_less, lessL_lex]
theorem same_row (a b : ByteArray) : ∀ f p, a.size ≤ p + f → b.size ≤ p + f → Alike a b p → (startsF a f p).map (wt a) = (startsF b f p).map (wt b) → a = b
  | f, p, ha, hb, hA, h => by
    have := hA.1; have := hA.2.1
    by_cases h1 : p < a.size
    · by_cases h2 : p < b.size
      · cases f with
        | zero => omega
        | succ f =>
          unfold startsF at h
          rw [if_pos h1, if_pos h2, List.map_cons, List.map_cons] at h
          have hr : rk a p = rk b p := (rkA_eq 2097152 (by omega) a b p p).1 (List.cons.inj h).1
          have hw := (rk_same a b p p hr).1
          have := dW_pos a p
          have h3 := (List.cons.inj h).2
          rw [← hw] at h3
          exact same_row a b f _ (by omega) (by omega) (hA.step h1 h2 hr) h3
      · exfalso
        rw [startsF_end b f p h2] at h
        cases f with
        | zero => omega
        | succ f => unfold startsF at h; rw [if_pos h1] at h; simp at h
    · by_cases h2 : p < b.size
      · exfalso
        rw [startsF_end a f p h1] at h
        cases f with
        | zero => omega
        | succ f => unfold startsF at h; rw [if_pos h2] at h; simp at h
      · apply ByteArray.ext
        apply Array.ext
        · show a.size = b.size; omega
        · intro i hi hj
          have := hA.2.2 i (by have : a.data.size = a.size := rfl; omega)
          rw [get_lt a i hi, get_lt b i hj] at this
          exact this
theorem less_irr (a : ByteArray) : less a a = false := by rw [less_lex]; exact lexL_irr _
theorem less_asym (a b : ByteArray) (h : less a b = true) : less b a = false := by rw [less_lex] at h ⊢; exact lexL_asym _ _ h
theorem less_trans (a b c : ByteArray) (h : less a b = true) (k : less b c = true) : less a c = true := by rw [less_lex] at h k ⊢; exact lexL_trans _ _ _ h k
theorem less_tri (a b : ByteArray) (h : less a b = false) (k : less b a = false) : a = b := by
  rw [less_lex] at h k
  have e := lexL_tri _ _ h k
  have e1 : startsF a (a.size + b.size) 0 = starts a := startsF_fuel a _ _ 0 (by omega) (by omega)
  have e2 : startsF b (a.size + b.size) 0 = starts b := startsF_fuel b _ _ 0 (by omega) (by omega)
  exact same_row a b (a.size + b.size) 0 (by omega) (by omega) (Alike.zero a b) (by rw [e1, e2]; exact e)

/-! ### alive -/
end Go.Proofs.YtmbekgfbnapelaaDoor
