/-
  WALK: cognatelaw01.alive. PLAIN: 'less' is a strict order on texts.
-/
import Derived.Test.YthkdfffankpekaaDoorQuoted
import Derived.Test.YthkdfffankpekaaDoorRefLess
namespace Go.Proofs.YthkdfffankpekaaDoor
open Go.RowKit Go.Lib
set_option linter.unusedVariables false

/-! ### the order -/
def lexL : List Nat → List Nat → Bool
  | [], [] => false
  | [], _ :: _ => true
  | _ :: _, [] => false
  | x :: l, y :: m => if x = y then lexL l m else decide (x < y)
theorem lessL_lex (s t : ByteArray) : ∀ l m, lessL s t l m = lexL (l.map (wt s)) (m.map (wt t))
  | [], [] => rfl
  | [], _ :: _ => rfl
  | _ :: _, [] => rfl
  | p :: l, q :: m => by
    have ih := lessL_lex s t l m
    simp only [lessL, List.map_cons, lexL, ih]
theorem lexL_irr : ∀ l, lexL l l = false
  | [] => rfl
  | x :: l => by simp [lexL, lexL_irr l]
theorem lexL_asym : ∀ l m, lexL l m = true → lexL m l = false
  | [], [] => by simp [lexL]
  | [], _ :: _ => by simp [lexL]
  | _ :: _, [] => by simp [lexL]
  | x :: l, y :: m => by
    have ih := lexL_asym l m
    unfold lexL
    by_cases h : x = y
    · subst h; simpa using ih
    · have h' : ¬ y = x := fun e => h e.symm
      simp [h, h']
      omega
theorem lexL_tri : ∀ l m, lexL l m = false → lexL m l = false → l = m
  | [], [] => by simp
  | [], _ :: _ => by simp [lexL]
  | _ :: _, [] => by simp [lexL]
  | x :: l, y :: m => by
    have ih := lexL_tri l m
    unfold lexL
    by_cases h : x = y
    · subst h; simpa using ih
    · have h' : ¬ y = x := fun e => h e.symm
      simp [h, h']
      omega
theorem lexL_trans : ∀ l m n, lexL l m = true → lexL m n = true → lexL l n = true
  | [], m, [] => by cases m <;> simp [lexL]
  | [], m, _ :: _ => by simp [lexL]
  | _ :: _, [], n => by simp [lexL]
  | _ :: _, _ :: _, [] => by simp [lexL]
  | x :: l, y :: m, z :: n => by
    have ih := lexL_trans l m n
    unfold lexL
    by_cases h : x = y
    · subst h
      by_cases h2 : x = z
      · subst h2; simpa using ih
      · simp [h2]
    · by_cases h2 : y = z
      · subst h2; simp only [if_neg h, if_true, decide_eq_true_eq]; intro a _; exact a
      · simp only [if_neg h, if_neg h2, decide_eq_true_eq]
        intro a b
        have : ¬ x = z := by omega
        simp only [if_neg this, decide_eq_true_eq]
        omega
theorem less_lex (a b : ByteArray) : less a b = lexL ((starts a).map (wt a)) ((starts b).map (wt b)) := by rw [← lessL_less, lessL_lex]
theorem same_row (a b : ByteArray) : ∀ f p, a.size ≤ p + f → b.size ≤ p + f → Alike a b p → (startsF a f p).map (wt a) = (startsF b f p).map (wt b) → a = b
  | f, p, ha, hb, hA, h => by
    have := hA.1; have := hA.2.1
    by_cases h1 : p < a.size
    · by_cases h2 : p < b.size
      · cases f with
        | zero => omega
        | succ f =>
          unfold startsF at h
          rw [if_pos h1, if_pos h2, List.map_cons, List.map_cons] at h
          have hr : rk a p = rk b p := (rkA_eq 2097152 (by omega) a b p p).1 (List.cons.inj h).1
          have hw := (rk_same a b p p hr).1
          have := dW_pos a p
          have h3 := (List.cons.inj h).2
          rw [← hw] at h3
          exact same_row a b f _ (by omega) (by omega) (hA.step h1 h2 hr) h3
      · exfalso
        rw [startsF_end b f p h2] at h
        cases f with
        | zero => omega
        | succ f => unfold startsF at h; rw [if_pos h1] at h; simp at h
    · by_cases h2 : p < b.size
      · exfalso
        rw [startsF_end a f p h1] at h
        cases f with
        | zero => omega
        | succ f => unfold startsF at h; rw [if_pos h2] at h; simp at h
      · apply ByteArray.ext
        apply Array.ext
        · show a.size = b.size; omega
        · intro i hi hj
          have := hA.2.2 i (by have : a.data.size = a.size := rfl; omega)
          rw [get_lt a i hi, get_lt b i hj] at this
          exact this
theorem less_irr (a : ByteArray) : less a a = false := by rw [less_lex]; exact lexL_irr _
theorem less_asym (a b : ByteArray) (h : less a b = true) : less b a = false := by rw [less_lex] at h ⊢; exact lexL_asym _ _ h
theorem less_trans (a b c : ByteArray) (h : less a b = true) (k : less b c = true) : less a c = true := by rw [less_lex] at h k ⊢; exact lexL_trans _ _ _ h k
theorem less_tri (a b : ByteArray) (h : less a b = false) (k : less b a = false) : a = b := by
  rw [less_lex] at h k
  have e := lexL_tri _ _ h k
  have e1 : startsF a (a.size + b.size) 0 = starts a := startsF_fuel a _ _ 0 (by omega) (by omega)
  have e2 : startsF b (a.size + b.size) 0 = starts b := startsF_fuel b _ _ 0 (by omega) (by omega)
  exact same_row a b (a.size + b.size) 0 (by omega) (by omega) (Alike.zero a b) (by rw [e1, e2]; exact e)

/-! ### alive -/
set_option maxHeartbeats 1000000 in
theorem alive_any (w : World) (hT : Tabs2 w) : Calls Tryd.prog 18 #[] w fun e w' => e = .returned (.bool true) ∧ Below w.heap.size w w' := by
  have HT := Lib.hid hT
  clear hT
  go_enter Tryd.func18, Tryd.ntmps18
  go_wp2_with fail
  refine (pieces_any ⟨#[97, 255]⟩ _ (by decide) HT.out.1).mono ?_
  rintro e w1 ⟨v, rfl, hv, hb1⟩
  have e1 : pieceCs ⟨#[97, 255]⟩ (starts ⟨#[97, 255]⟩) = [.int .i32 97, .int .i64 0, .int .i64 1, .bool false, .int .i32 65533, .int .i64 1, .int .i64 1, .bool true] := by kernel_rfl
  have e2 : (starts ⟨#[97, 255]⟩).length = 2 := by kernel_rfl
  unfold PiecesAt at hv
  rw [e1, e2] at hv
  have hT1 := HT.out.next hb1
  obtain ⟨g, c, rfl⟩ : ∃ g c, v = .slice (some ⟨g, 0, none⟩) 2 c := by
    rcases hv.2 with ⟨_, h0⟩ | ⟨g, cap, cur, hvv, _⟩
    · cases h0
    · exact ⟨g, cap, hvv⟩
  have HV := Lib.hid hv; have HB1 := Lib.hid hb1; have HT1 := Lib.hid hT1
  clear hv hb1 hT1 e1 e2
  go_wp2_with fail
  refine (quote_any ⟨#[97, 255]⟩ _ (by decide) HT1.out).mono ?_
  rintro e w2 ⟨rfl, hb2⟩
  have e3 : strOf (quoteL ⟨#[97, 255]⟩) = ⟨#[34, 97, 92, 120, 102, 102, 34]⟩ := by kernel_rfl
  rw [e3]
  have hv2 := own_below HV.out hb2
  have hb := HB1.out.trans (hb2.mono (B' := w.heap.size) HB1.out.size)
  have c0 : w2.cell? ⟨g, 0, none⟩ = some (.int .i32 97) := hv2.cellAt 0 (by decide)
  have c1 : w2.cell? ⟨g, 1, none⟩ = some (.int .i64 0) := hv2.cellAt 1 (by decide)
  have c2 : w2.cell? ⟨g, 2, none⟩ = some (.int .i64 1) := hv2.cellAt 2 (by decide)
  have c3 : w2.cell? ⟨g, 3, none⟩ = some (.bool false) := hv2.cellAt 3 (by decide)
  have c4 : w2.cell? ⟨g, 4, none⟩ = some (.int .i32 65533) := hv2.cellAt 4 (by decide)
  have c5 : w2.cell? ⟨g, 5, none⟩ = some (.int .i64 1) := hv2.cellAt 5 (by decide)
  have c6 : w2.cell? ⟨g, 6, none⟩ = some (.int .i64 1) := hv2.cellAt 6 (by decide)
  have c7 : w2.cell? ⟨g, 7, none⟩ = some (.bool true) := hv2.cellAt 7 (by decide)
  have hT2 := HT1.out.next hb2
  have HB := Lib.hid hb; have HT2 := Lib.hid hT2
  clear hv2 hb hb2 e3 hT2
  go_wp2_with fail
  refine (text_any ⟨w2.heap.size, 0, none⟩ 1 1 [97] _ rfl (cells_lit w2 [.int .i32 97] _)).mono ?_
  rintro e w3 ⟨rfl, rfl⟩
  have e4 : strOf (textL [97]) = ⟨#[97]⟩ := by kernel_rfl
  rw [e4]
  clear c0 c1 c2 c3 c4 c5 c6 c7 e4
  go_wp2_with fail
  refine (less_any ⟨#[97]⟩ ⟨#[98]⟩ _ (HT2.out.next ((Below.refl _ _).alloc (Nat.le_refl _) _)).1).mono ?_
  rintro e w4 ⟨rfl, hb4⟩
  have e5 : less ⟨#[97]⟩ ⟨#[98]⟩ = true := by kernel_rfl
  rw [e5]
  have hfin := (HB.out.alloc HB.out.size (.cells #[.int .i32 97] 21)).trans (hb4.mono (B' := w.heap.size) (by have := HB.out.size; simp; omega))
  have HF := Lib.hid hfin
  clear hfin hb4 e5
  go_wp2_with fail
  go_ret
  exact ⟨rfl, HF.out⟩
end Go.Proofs.YthkdfffankpekaaDoor
