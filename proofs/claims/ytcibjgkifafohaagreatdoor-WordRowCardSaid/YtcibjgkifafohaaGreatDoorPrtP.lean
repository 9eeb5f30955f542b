/-
  PLAIN: the facts that cognatelaw03.WordParts wants; the calls at them.
-/
import Derived.Test.YtcibjgkifafohaaGreatDoorPrt
namespace Go.Proofs.YtcibjgkifafohaaGreatDoor
open Go.RowKit Go.Lib
set_option linter.unusedVariables false

structure LetFacts (A : Al) (s : ByteArray) (l : List Int) : Prop where
  ok : A.ok = true
  rd : rdW (rowL A) s = 0
  le : letE A s = 0
  ll : letL A s = l
  ru : runesL (cutW s) = l
  wd : IsWord (rowL A) l
  tx : strOf (textL l) = s
theorem let_word {A : Al} {s : ByteArray} (h : letE A s = 0) : LetFacts A s (letL A s) := by
  have hok : A.ok = true := by
    cases hok : A.ok with
    | true => rfl
    | false => unfold letE at h; rw [hok] at h; simp at h
  have hrd : rdW (rowL A) s = 0 := by unfold letE at h; rw [hok, if_pos rfl] at h; exact h
  have hl : letL A s = runesL (cutW s) := by unfold letL rdL; rw [hok, if_pos rfl, if_pos hrd]
  obtain ⟨h1, h2⟩ := rd_word hrd
  rw [hl]
  exact ⟨hok, hrd, h, hl, rfl, h1, h2⟩
theorem word_let {A : Al} {l : List Int} (hok : A.ok = true) (h : IsWord (rowL A) l) : LetFacts A (strOf (textL l)) l := by
  obtain ⟨h1, h2⟩ := word_rd (row_runes hok) h
  refine ⟨hok, h1, ?_, ?_, h2, h, rfl⟩
  · unfold letE; rw [hok, if_pos rfl]; exact h1
  · unfold letL rdL; rw [hok, if_pos rfl, if_pos h1]; exact h2
theorem IsWord.rev {row l : List Int} (h : IsWord row l) : IsWord row l.reverse := ⟨by rw [List.length_reverse]; exact h.len, fun r hr => h.mem r (List.mem_reverse.1 hr)⟩
theorem IsWord.take {row l : List Int} (h : IsWord row l) (k : Nat) : IsWord row (l.take k) := ⟨by rw [List.length_take]; have := h.len; omega, fun r hr => h.mem r (List.mem_of_mem_take hr)⟩
theorem IsWord.drop {row l : List Int} (h : IsWord row l) (k : Nat) : IsWord row (l.drop k) := ⟨by rw [List.length_drop]; have := h.len; omega, fun r hr => h.mem r (List.mem_of_mem_drop hr)⟩
theorem IsWord.app {row l m : List Int} (h : IsWord row l) (h' : IsWord row m) (hl : l.length + m.length ≤ 64) : IsWord row (l ++ m) := ⟨by rw [List.length_append]; exact hl, fun r hr => (List.mem_append.1 hr).elim (h.mem r) (h'.mem r)⟩

/-! ### comI -/
theorem comI_le : ∀ (l m : List Int), comI l m ≤ l.length ∧ comI l m ≤ m.length
  | [], _ => by simp [comI]
  | _ :: _, [] => by simp [comI]
  | x :: l, y :: m => by
    have := comI_le l m
    unfold comI
    split <;> simp <;> omega
theorem comI_take : ∀ (l m : List Int), l.take (comI l m) = m.take (comI l m)
  | [], _ => by simp [comI]
  | _ :: _, [] => by simp [comI]
  | x :: l, y :: m => by
    have ih := comI_take l m
    unfold comI
    split
    · rename_i h; subst h; simp [ih]
    · simp
theorem comI_ne : ∀ (l m : List Int), comI l m < l.length → comI l m < m.length → ¬ l.getD (comI l m) 0 = m.getD (comI l m) 0
  | [], _, h, _ => by simp at h
  | _ :: _, [], _, h => by simp at h
  | x :: l, y :: m, h1, h2 => by
    have ih := comI_ne l m
    unfold comI at h1 h2 ⊢
    by_cases h : x = y
    · rw [if_pos h] at h1 h2 ⊢
      simp only [List.length_cons] at h1 h2
      have := ih (by omega) (by omega)
      simpa using this
    · rw [if_neg h]
      simpa using h
theorem subL_zero (l : List Int) (k : Nat) : subL l 0 k = l.take k := by unfold subL; simp
theorem subL_end (l : List Int) (k : Nat) : subL l k l.length = l.drop k := by
  unfold subL
  exact List.take_of_length_le (by rw [List.length_drop]; omega)

/-! ### the calls -/
section
variable {A : Al} {s v : ByteArray} {l m : List Int} {W : World}
theorem c_let (h : LetFacts A s l) (hA : A.In W) (hT : Tabs W) : Calls Tryz.prog 34 #[A.v, .string s] W fun e w' => ∃ pr br cr, e = .returned (.tuple #[.slice pr l.length cr, .int .i64 0]) ∧ RsIn pr br 0 l w' ∧ Below W.heap.size W w' := by
  refine (letters_any A s W hA hT).mono ?_
  rintro e w' ⟨v, he, ho, hb⟩
  rw [h.ll] at ho
  rw [h.le] at he
  obtain ⟨pr, br, cr, rfl, hr⟩ := own_rs ho (by have := h.wd.len; omega)
  exact ⟨pr, br, cr, he, hr, hb⟩
theorem c_tur (h : LetFacts A s l) (hA : A.In W) (hT : Tabs W) : Calls Tryz.prog 16 #[A.v, .string s] W fun e w' => e = .returned (.tuple #[.string (strOf (textL l.reverse)), .int .i64 0]) ∧ Below W.heap.size W w' := by
  refine (turned_any A s W hA hT).mono ?_
  rintro e w' ⟨he, hb⟩
  have h2 : turR A s = strOf (textL l.reverse) := by unfold turR; rw [if_pos h.le, h.ll]
  rw [h.le, h2] at he
  exact ⟨he, hb⟩
theorem c_com (h : LetFacts A s l) (h' : LetFacts A v m) (hA : A.In W) (hT : Tabs W) : Calls Tryz.prog 8 #[A.v, .string s, .string v] W fun e w' => e = .returned (.tuple #[.int .i64 (comI l m : Nat), .int .i64 0]) ∧ Below W.heap.size W w' := by
  refine (wcommon_any A s v W hA hT).mono ?_
  rintro e w' ⟨he, hb⟩
  have h1 : bothE A s v = 0 := by unfold bothE; rw [h.ok, if_pos rfl, if_pos h.rd]; exact h'.rd
  have h2 : comN A s v = comI l m := by unfold comN; rw [if_pos h1, h.ru, h'.ru]
  rw [h1, h2] at he
  exact ⟨he, hb⟩
theorem c_join (h : LetFacts A s l) (h' : LetFacts A v m) (g cs : Nat) (hA : A.In W) (hT : Tabs W) (hc0 : W.cell? ⟨g, 0, none⟩ = some (.string s)) (hc1 : W.cell? ⟨g, 1, none⟩ = some (.string v)) :
    Calls Tryz.prog 12 #[A.v, .slice (some ⟨g, 0, none⟩) 2 cs] W fun e w' => e = .returned (.tuple #[.string (strOf (textL (l ++ m))), .int .i64 0]) ∧ Below W.heap.size W w' := by
  have hS : SsIn (some ⟨g, 0, none⟩) g 0 [s, v] W := ⟨fun _ => rfl, fun j hj => by
    have hj : j < 2 := hj
    match j, hj with
    | 0, _ => exact hc0
    | 1, _ => exact hc1, by show 2 ≤ 140737488355328; omega⟩
  refine (join_any A (some ⟨g, 0, none⟩) g 0 cs [s, v] W hA hT hS).mono ?_
  rintro e w' ⟨he, hb⟩
  have h0 : rdaE (rowL A) [s, v] = 0 := by
    unfold rdaE
    rw [if_neg (by show ¬ 4096 < 2; omega)]
    simp only [alE]
    rw [if_pos h.rd, if_pos h'.rd]
  have ha : alL [s, v] = l ++ m := by unfold alL; simp [h.ru, h'.ru]
  have h1 : joinE A [s, v] = 0 := by
    unfold joinE
    rw [h.ok, if_pos rfl, if_pos h0, ha, if_neg (by have := h.wd.len; have := h'.wd.len; rw [List.length_append]; omega)]
  have h2 : joinR A [s, v] = strOf (textL (l ++ m)) := by unfold joinR; rw [if_pos h1, ha]
  rw [h1, h2] at he
  exact ⟨he, hb⟩
end
end Go.Proofs.YtcibjgkifafohaaGreatDoor
