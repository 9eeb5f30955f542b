/-
  WALKS: runes.Plain; cognatelaw01.wrong.
-/
import Derived.Test.YtmbekgfbnapelaaDoorUnq
namespace Go.Proofs.YtmbekgfbnapelaaDoor
open Go.RowKit Go.Lib
set_option linter.unusedVariables false

theorem unqF_range (s : ByteArray) : ∀ f a acc, 0 ≤ (unqF s f a acc).2 ∨ (unqF s f a acc).2 = -1
  | 0, a, _ => .inl (by show (0 : Int) ≤ (a : Int); omega)
  | f + 1, a, acc => by
    by_cases h : a < s.size
    · rw [unqF_at s f a acc h]
      split
      · split
        · exact .inl (by show (0 : Int) ≤ (a : Int) + 1; omega)
        · exact .inr rfl
      · split
        · exact .inl (by show (0 : Int) ≤ (a : Int); omega)
        · exact unqF_range s f _ _
    · rw [unqF_out s (f + 1) a acc h]
      exact .inl (by show (0 : Int) ≤ (a : Int); omega)
theorem unq_range (s : ByteArray) : 0 ≤ (unq s).2 ∨ (unq s).2 = -1 := by
  unfold unq
  split
  · exact .inl (Int.le_refl _)
  · split
    · exact .inl (Int.le_refl _)
    · exact unqF_range s _ _ _

/-- What Plain answers, of a text that is not too long. -/
def plainT (s : ByteArray) : Value :=
  if 0 ≤ (unq s).2 then .tuple #[.string ByteArray.empty, .int .i64 (unq s).2, .int .i64 10]
  else if 65536 < (strOf (unq s).1).size then .tuple #[.string ByteArray.empty, .int .i64 0, .int .i64 3]
  else if (strOf (quoteL (strOf (unq s).1))).toList = s.toList then .tuple #[.string (strOf (unq s).1), .int .i64 0, .int .i64 0]
  else .tuple #[.string ByteArray.empty, .int .i64 0, .int .i64 10]

theorem quote_is (s : ByteArray) (b : ByteArray) (w : World) (hs : s.size ≤ 65536) (hT : Tabs2 w) (hb : strOf (quoteL s) = b) : Calls Tryd.prog 24 #[.string s] w fun e w' => e = .returned (.string b) ∧ Below w.heap.size w w' := by
  rw [← hb]; exact quoted_any s w hs hT

set_option maxRecDepth 100000 in
set_option maxHeartbeats 1000000 in
theorem plain_any (s : ByteArray) (w : World) (hs : s.size ≤ 1048576) (hT : Tabs2 w) : Calls Tryd.prog 9 #[.string s] w fun e w' => e = .returned (plainT s) ∧ Below w.heap.size w w' := by
  have hc : ¬ (1048576 : Int) < (s.size : Int) := by omega
  have HT := Lib.hid hT
  have hrg := unq_range s
  have HU : Hid (Calls Tryd.prog 26 #[.string s] w (UnqPost s w)) := unquoted_any s w hs
  obtain ⟨t, ht⟩ : ∃ t, t = strOf (unq s).1 := ⟨_, rfl⟩
  obtain ⟨p, hp⟩ : ∃ p, p = (unq s).2 := ⟨_, rfl⟩
  obtain ⟨q, hq⟩ : ∃ q, q = strOf (quoteL t) := ⟨_, rfl⟩
  have HP : Hid (plainT s = if 0 ≤ p then .tuple #[.string ByteArray.empty, .int .i64 p, .int .i64 10]
    else if 65536 < t.size then .tuple #[.string ByteArray.empty, .int .i64 0, .int .i64 3]
    else if q.toList = s.toList then .tuple #[.string t, .int .i64 0, .int .i64 0]
    else .tuple #[.string ByteArray.empty, .int .i64 0, .int .i64 10]) := by
    show plainT s = _
    rw [hp, hq, ht]; rfl
  have HU2 : Hid (∀ w', Below w.heap.size w w' → True) := fun _ _ => trivial
  unfold UnqPost at HU
  rw [← ht, ← hp] at HU
  rw [← hp] at hrg
  have HQ := Lib.hid hq
  obtain ⟨N, hN1, hN2⟩ : ∃ N : Int, (s.size : Int) ≤ N ∧ N ≤ 1048576 := ⟨s.size, by omega, by omega⟩
  clear hT hs hq ht hp HU2
  by_cases a1 : 0 ≤ p
  · have HR : Hid (plainT s = .tuple #[.string ByteArray.empty, .int .i64 p, .int .i64 10]) := by show plainT s = _; rw [HP.out, if_pos a1]
    go_enter Tryd.func9, Tryd.ntmps9
    go_wp2_with fail
    refine (HU.out).mono ?_
    rintro e w1 ⟨rfl, hb1⟩
    have HB1 := Lib.hid hb1
    clear hb1
    go_wp2_with fail
    go_ret3
    exact ⟨ret_vv HR.out.symm, HB1.out⟩
  have a1' : p = -1 := by omega
  subst a1'
  by_cases a2 : (65536 : Int) < (t.size : Int)
  · have HR : Hid (plainT s = .tuple #[.string ByteArray.empty, .int .i64 0, .int .i64 3]) := by show plainT s = _; rw [HP.out, if_neg a1, if_pos (by omega)]
    clear a1 hrg
    go_enter Tryd.func9, Tryd.ntmps9
    go_wp2_with fail
    refine (HU.out).mono ?_
    rintro e w1 ⟨rfl, hb1⟩
    have HB1 := Lib.hid hb1
    clear hb1
    go_wp2_with fail
    go_ret3
    exact ⟨ret_vv HR.out.symm, HB1.out⟩
  have HQ2 := Lib.hid (fun wx (hw : Tabs2 wx) => quote_is t q wx (by omega) hw HQ.out.symm)
  by_cases a3 : q.toList = s.toList
  · have HR : Hid (plainT s = .tuple #[.string t, .int .i64 0, .int .i64 0]) := by show plainT s = _; rw [HP.out, if_neg a1, if_neg (by omega), if_pos a3]
    have a3' : (q.toList == s.toList) = true := by rw [beq_iff_eq]; exact a3
    clear a1 hrg a3
    go_enter Tryd.func9, Tryd.ntmps9
    go_wp2_with fail
    refine (HU.out).mono ?_
    rintro e w1 ⟨rfl, hb1⟩
    have HB1 := Lib.hid hb1
    clear hb1
    go_wp2_with fail
    refine (HQ2.out _ (HT.out.next HB1.out)).mono ?_
    rintro e w2 ⟨rfl, hb2⟩
    have HB2 := Lib.hid (HB1.out.trans (hb2.mono (B' := w.heap.size) HB1.out.size))
    clear hb2
    go_wp2_with fail
    go_ret3
    exact ⟨ret_vv HR.out.symm, HB2.out⟩
  · have HR : Hid (plainT s = .tuple #[.string ByteArray.empty, .int .i64 0, .int .i64 10]) := by show plainT s = _; rw [HP.out, if_neg a1, if_neg (by omega), if_neg a3]
    have a3' : (q.toList == s.toList) = false := by rw [beq_eq_false_iff_ne]; exact a3
    clear a1 hrg a3
    go_enter Tryd.func9, Tryd.ntmps9
    go_wp2_with fail
    refine (HU.out).mono ?_
    rintro e w1 ⟨rfl, hb1⟩
    have HB1 := Lib.hid hb1
    clear hb1
    go_wp2_with fail
    refine (HQ2.out _ (HT.out.next HB1.out)).mono ?_
    rintro e w2 ⟨rfl, hb2⟩
    have HB2 := Lib.hid (HB1.out.trans (hb2.mono (B' := w.heap.size) HB1.out.size))
    clear hb2
    go_wp2_with fail
    go_ret3
    exact ⟨ret_vv HR.out.symm, HB2.out⟩

set_option maxRecDepth 100000 in
set_option maxHeartbeats 400000 in
theorem plain_long (s : ByteArray) (w : World) (hs : ¬ s.size ≤ 1048576) : Calls Tryd.prog 9 #[.string s] w fun e w' => e = .returned (.tuple #[.string ByteArray.empty, .int .i64 0, .int .i64 3]) ∧ Below w.heap.size w w' := by
  have hc : (1048576 : Int) < (s.size : Int) := by omega
  clear hs
  go_enter Tryd.func9, Tryd.ntmps9
  go_wp2_with fail
  go_ret3
  exact ⟨rfl, Below.refl _ _⟩

end Go.Proofs.YtmbekgfbnapelaaDoor
