/-
  PLAIN: a class's text is read as the class.
-/
import Derived.Test.YtmbekgfbnapelaaFarP
namespace Go.Proofs.Ytmbekgfbnapelaa
open Go.RowKit Go.Lib
set_option linter.unusedVariables false

theorem and_pow_iff (p k : Nat) : p &&& 2 ^ k = 0 ↔ p.testBit k = false := by
  constructor
  · intro h
    have e := congrArg (fun n => n.testBit k) h
    simpa [Nat.testBit_and, Nat.testBit_two_pow] using e
  · intro h
    apply Nat.eq_of_testBit_eq
    intro i
    rw [Nat.testBit_and, Nat.testBit_two_pow, Nat.zero_testBit]
    by_cases hi : k = i
    · subst hi; rw [h, Bool.false_and]
    · rw [decide_eq_false hi, Bool.and_false]
theorem mod_bit0 {p k : Nat} (h : p &&& 2 ^ k = 0) : p % 2 ^ (k + 1) = p % 2 ^ k := by
  have hb := (and_pow_iff p k).1 h
  apply Nat.eq_of_testBit_eq
  intro i
  rw [Nat.testBit_mod_two_pow, Nat.testBit_mod_two_pow]
  by_cases hi : i = k
  · subst hi; simp [hb]
  · have : decide (i < k + 1) = decide (i < k) := by simp; omega
    rw [this]
theorem mod_bit1 {p k : Nat} (h : ¬ p &&& 2 ^ k = 0) : p % 2 ^ (k + 1) = p % 2 ^ k ||| 2 ^ k := by
  have hb : p.testBit k = true := by
    cases hb : p.testBit k with
    | true => rfl
    | false => exact absurd ((and_pow_iff p k).2 hb) h
  apply Nat.eq_of_testBit_eq
  intro i
  rw [Nat.testBit_or, Nat.testBit_mod_two_pow, Nat.testBit_mod_two_pow, Nat.testBit_two_pow]
  by_cases hi : i = k
  · subst hi; simp [hb]
  · have e1 : decide (i < k + 1) = decide (i < k) := by simp; omega
    have e2 : decide (k = i) = false := by simp; omega
    rw [e1, e2, Bool.or_false]
theorem low_and (p m k : Nat) : (p % 2 ^ k ||| m % 2 ^ k) &&& 2 ^ k = 0 := by
  rw [and_pow_iff, Nat.testBit_or, Nat.testBit_mod_two_pow, Nat.testBit_mod_two_pow]
  simp

theorem txtF_head : ∀ (l : List ByteArray) (i p m : Nat), txtF l i p m = [] ∨ ∃ c tl, txtF l i p m = c :: tl ∧ azB c = false
  | [], _, _, _ => Or.inl rfl
  | f :: l, i, p, m => by
    rw [txtF]
    split
    · split
      · rw [List.nil_append]; exact txtF_head l (i + 1) p m
      · exact Or.inr ⟨_, _, rfl, by decide⟩
    · exact Or.inr ⟨_, _, rfl, by decide⟩
theorem runL_app (g rest : List UInt8) (hg : g.all azB = true) (hr : rest = [] ∨ ∃ c tl, rest = c :: tl ∧ azB c = false) : runL (g ++ rest) = g.length := by
  induction g with
  | nil =>
    rcases hr with rfl | ⟨c, tl, rfl, hc⟩
    · rfl
    · unfold runL; rw [List.nil_append, List.takeWhile_cons, hc]; rfl
  | cons c g ih =>
    rw [List.all_cons, Bool.and_eq_true] at hg
    have := ih hg.2
    unfold runL at this ⊢
    rw [List.cons_append, List.takeWhile_cons, hg.1]
    simp only [if_true, List.length_cons, this]
theorem bitF_first (fs : List ByteArray) (g : ByteArray) (k : Nat) (hk : k < fs.length) (h : fs.getD k ByteArray.empty = g) (hn : ∀ j, j < k → ¬ fs.getD j ByteArray.empty = g) : bitF fs g 0 = 2 ^ k := by
  have key : ∀ d j, j + d = k → bitF (fs.drop j) g j = 2 ^ k := by
    intro d
    induction d with
    | zero => intro j hj; obtain rfl : j = k := (by omega); exact bitF_yes fs g j hk h
    | succ d ih => intro j hj; rw [bitF_no fs g j (by omega) (hn j (by omega))]; exact ih (j + 1) (by omega)
  exact key k 0 (by omega)
theorem feats_ne {fs : List ByteArray} (h : featsB fs = true) {k : Nat} (hk : k < fs.length) : ∀ j, j < k → ¬ fs.getD j ByteArray.empty = fs.getD k ByteArray.empty := by
  intro j hj he
  have h2 := (((featsB_iff fs).1 h).2 k hk).2
  have hm : fs.getD j ByteArray.empty ∈ fs.take k := by
    rw [List.getD_eq_getElem?_getD, List.getElem?_eq_getElem (by omega)]
    simp only [Option.getD_some]
    exact List.mem_take_iff_getElem.2 ⟨j, by omega, rfl⟩
  rw [he] at hm
  rw [(Lib.containsS_iff _ _).2 hm] at h2
  exact absurd h2 (by decide)

/-- The bytes of a text, around a thing. -/
theorem thing_at (pre g rest : List UInt8) (c : UInt8) (s : ByteArray) (hs : s = ⟨(pre ++ (c :: g ++ rest)).toArray⟩) :
    s.size = pre.length + 1 + g.length + rest.length ∧ (∀ h : pre.length < s.size, s[pre.length]'h = c) ∧ s.data.toList.drop (pre.length + 1) = g ++ rest ∧ s.extract (pre.length + 1) (pre.length + 1 + g.length) = ⟨g.toArray⟩ := by
  subst hs
  refine ⟨?_, ?_, ?_, ?_⟩
  · show (pre ++ (c :: g ++ rest)).toArray.size = _
    simp; omega
  · intro h
    show (pre ++ (c :: g ++ rest)).toArray[pre.length]'(by simp) = c
    simp
  · show (pre ++ (c :: g ++ rest)).toArray.toList.drop _ = _
    rw [List.toList_toArray, ← List.drop_drop, List.drop_left]
    rfl
  · have e : ((⟨(pre ++ (c :: g ++ rest)).toArray⟩ : ByteArray).extract (pre.length + 1) (pre.length + 1 + g.length)).data = g.toArray := by
      rw [ByteArray.data_extract]
      apply Array.ext'
      simp
    calc _ = (⟨((⟨(pre ++ (c :: g ++ rest)).toArray⟩ : ByteArray).extract (pre.length + 1) (pre.length + 1 + g.length)).data⟩ : ByteArray) := rfl
      _ = _ := by rw [e]

/-- One feature of a text, read. -/
theorem parF_thing (fs : List ByteArray) (hfs : featsB fs = true) (k : Nat) (hk : k < fs.length) (pre rest : List UInt8) (c : UInt8) (hc : c = 43 ∨ c = 45) (hr : rest = [] ∨ ∃ c tl, rest = c :: tl ∧ azB c = false) (s : ByteArray)
    (hs : s = ⟨(pre ++ (c :: (fs.getD k ByteArray.empty).data.toList ++ rest)).toArray⟩) (P M n : Nat) (h0 : (P ||| M) &&& 2 ^ k = 0) :
    parF fs s (n + 1) pre.length P M = (if c = 45 then parF fs s n (pre ++ (c :: (fs.getD k ByteArray.empty).data.toList)).length P (M ||| 2 ^ k) else parF fs s n (pre ++ (c :: (fs.getD k ByteArray.empty).data.toList)).length (P ||| 2 ^ k) M) := by
  obtain ⟨hz, hb, hd, he⟩ := thing_at pre _ rest c s hs
  have hlt : pre.length < s.size := by omega
  have hb := hb hlt
  have hn := (((featsB_iff fs).1 hfs).2 k hk).1
  have hg : (fs.getD k ByteArray.empty).data.toList.all azB = true := by
    unfold nameB at hn; rw [Bool.and_eq_true] at hn; exact hn.2
  have hE : endOf s (pre.length + 1) = pre.length + 1 + (fs.getD k ByteArray.empty).data.toList.length := by
    unfold endOf; rw [hd, runL_app _ _ hg hr]
  have hB : bitF fs (s.extract (pre.length + 1) (endOf s (pre.length + 1))) 0 = 2 ^ k := by
    rw [hE, he]
    exact bitF_first fs _ k hk rfl (feats_ne hfs hk)
  have hsg : isSg (s[pre.length]'hlt).toNat = true := by
    rw [hb]; rcases hc with rfl | rfl <;> decide
  have hpos := Nat.two_pow_pos k
  rw [parF_go fs s n pre.length P M hlt (by rw [hB]; exact ⟨hsg, by omega, h0⟩), hB, hb, hE]
  have el : (pre ++ (c :: (fs.getD k ByteArray.empty).data.toList)).length = pre.length + 1 + (fs.getD k ByteArray.empty).data.toList.length := by simp; omega
  rw [el]
  rcases hc with rfl | rfl <;> rfl

theorem parF_text (fs : List ByteArray) (hfs : featsB fs = true) (p m : Nat) (hpm : p &&& m = 0) (s : ByteArray) :
    ∀ (d k : Nat) (pre : List UInt8) (n : Nat), k + d = fs.length → s = ⟨(pre ++ txtF (fs.drop k) k p m).toArray⟩ → s.size < n + pre.length → parF fs s n pre.length (p % 2 ^ k) (m % 2 ^ k) = (p % 2 ^ fs.length, m % 2 ^ fs.length, 0, 0) := by
  intro d
  induction d with
  | zero =>
    intro k pre n hkd hs hn
    obtain rfl : k = fs.length := by omega
    rw [List.drop_length, txtF, List.append_nil] at hs
    have hz : s.size = pre.length := by rw [hs]; exact List.size_toArray
    exact parF_end _ _ _ _ _ _ (by omega)
  | succ d ih =>
    intro k pre n hkd hs hn
    have hk : k < fs.length := by omega
    have hl := low_and p m k
    rw [txtF_at fs k p m hk] at hs
    have hr := txtF_head (fs.drop (k + 1)) (k + 1) p m
    by_cases hp : p &&& 2 ^ k = 0
    · by_cases hm : m &&& 2 ^ k = 0
      · rw [if_pos hp, if_pos hm, List.nil_append] at hs
        have := ih (k + 1) pre n (by omega) hs hn
        rw [mod_bit0 hp, mod_bit0 hm] at this
        exact this
      · rw [if_pos hp, if_neg hm] at hs
        have hz := (thing_at pre _ _ _ s hs).1
        obtain ⟨n, rfl⟩ : ∃ q, n = q + 1 := ⟨n - 1, by omega⟩
        rw [parF_thing fs hfs k hk pre _ 45 (Or.inr rfl) hr s hs _ _ n hl, if_pos rfl]
        have := ih (k + 1) (pre ++ (45 :: (fs.getD k ByteArray.empty).data.toList)) n (by omega) (by rw [hs, List.append_assoc]) (by simp only [List.length_append, List.length_cons]; omega)
        rw [mod_bit0 hp, mod_bit1 hm] at this
        exact this
    · have hm : m &&& 2 ^ k = 0 := by
        rw [and_pow_iff]
        have e := congrArg (fun n => n.testBit k) hpm
        simp only [Nat.testBit_and, Nat.zero_testBit] at e
        cases hb : p.testBit k with
        | false => exact absurd ((and_pow_iff p k).2 hb) hp
        | true => rw [hb, Bool.true_and] at e; exact e
      rw [if_neg hp] at hs
      have hz := (thing_at pre _ _ _ s hs).1
      obtain ⟨n, rfl⟩ : ∃ q, n = q + 1 := ⟨n - 1, by omega⟩
      rw [parF_thing fs hfs k hk pre _ 43 (Or.inl rfl) hr s hs _ _ n hl, if_neg (by decide)]
      have := ih (k + 1) (pre ++ (43 :: (fs.getD k ByteArray.empty).data.toList)) n (by omega) (by rw [hs, List.append_assoc]) (by simp only [List.length_append, List.length_cons]; omega)
      rw [mod_bit1 hp, mod_bit0 hm] at this
      exact this

theorem txtF_len (fs : List ByteArray) (hfs : featsB fs = true) (p m : Nat) : ∀ (d k : Nat), k + d = fs.length → (txtF (fs.drop k) k p m).length ≤ 33 * d := by
  intro d
  induction d with
  | zero => intro k hk; obtain rfl : k = fs.length := by omega
            rw [List.drop_length, txtF]; exact Nat.zero_le _
  | succ d ih =>
    intro k hk
    have := ih (k + 1) (by omega)
    have hz := nameB_size (((featsB_iff fs).1 hfs).2 k (by omega)).1
    have hz : (fs.getD k ByteArray.empty).data.toList.length ≤ 32 := by simpa using hz
    rw [txtF_at fs k p m (by omega), List.length_append]
    split
    · split
      · simp only [List.length_nil]; omega
      · simp only [List.length_cons]; omega
    · simp only [List.length_cons]; omega
/-- A class's text is read as the class. -/
theorem text_back {A : Al} {p m : Nat} (hp : p < 4294967296) (hm : m < 4294967296) (h : aacR A p m = 0) : parR A ⟨(textR A p m).1.toArray⟩ = (p, m, 0, 0) := by
  have hok := aacR_ok0 h
  rw [aacR_ok hok] at h
  have hc : clsB A.fs.length p m = true := by
    cases hc : clsB A.fs.length p m with
    | true => rfl
    | false => rw [hc] at h; exact absurd h (by decide)
  have h24 := Al.ok24 hok
  obtain ⟨q1, q2⟩ := cls_lt h24 hp hm hc
  have hpm : p &&& m = 0 := by
    unfold clsB at hc; simp only [Bool.and_eq_true, decide_eq_true_eq] at hc; exact hc.2
  have hfs : featsB A.fs = true := by rw [Al.ok_eq, Bool.and_eq_true] at hok; exact hok.1
  have ht : textR A p m = (txtF A.fs 0 p m, 0) := by unfold textR; rw [if_pos (by rw [aacR_ok hok, hc]; rfl)]
  rw [ht]
  have hlen := txtF_len A.fs hfs p m A.fs.length 0 (by omega)
  rw [List.drop_zero] at hlen
  have hz : (⟨(txtF A.fs 0 p m).toArray⟩ : ByteArray).size = (txtF A.fs 0 p m).length := List.size_toArray
  unfold parR
  rw [hok, if_pos rfl, if_neg (by rw [hz]; omega)]
  have := parF_text A.fs hfs p m hpm ⟨(txtF A.fs 0 p m).toArray⟩ A.fs.length 0 [] ((⟨(txtF A.fs 0 p m).toArray⟩ : ByteArray).size + 1) (by omega) rfl (by simp)
  rw [Nat.pow_zero, Nat.mod_one, Nat.mod_one, Nat.mod_eq_of_lt q1, Nat.mod_eq_of_lt q2] at this
  exact this
end Go.Proofs.Ytmbekgfbnapelaa
