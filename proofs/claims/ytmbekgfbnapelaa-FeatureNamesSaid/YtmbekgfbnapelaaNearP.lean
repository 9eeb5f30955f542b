/-
  PLAIN: the nearest letter.
-/
import Derived.Test.YtmbekgfbnapelaaNear
import Derived.Test.YtmbekgfbnapelaaBack
namespace Go.Proofs.Ytmbekgfbnapelaa
open Go.RowKit Go.Lib
set_option linter.unusedVariables false

theorem nearSt_spec (want : Ltr) : ∀ (ls : List Ltr) (b : Int) (n : Nat), (∀ l ∈ ls, n ≤ unl want l) ∧ nearSt want ls b n = (b, n) ∨
    ∃ j, j < ls.length ∧ nearSt want ls b n = ((ls.getD j default).r, unl want (ls.getD j default)) ∧ unl want (ls.getD j default) < n ∧ (∀ i, i < ls.length → unl want (ls.getD j default) ≤ unl want (ls.getD i default)) ∧ (∀ i, i < j → unl want (ls.getD j default) < unl want (ls.getD i default))
  | [], b, n => Or.inl ⟨fun l hl => absurd hl (by simp), rfl⟩
  | y :: ls, b, n => by
    rw [nearSt]
    by_cases h : unl want y < n
    · rw [if_pos h]
      rcases nearSt_spec want ls y.r (unl want y) with ⟨h1, h2⟩ | ⟨j, hj, h2, h3, h4, h5⟩
      · refine Or.inr ⟨0, by simp, by rw [h2]; rfl, h, fun i hi => ?_, fun i hi => absurd hi (by omega)⟩
        cases i with
        | zero => exact Nat.le_refl _
        | succ i =>
          simp only [List.length_cons] at hi
          show unl want y ≤ unl want (ls.getD i default)
          rw [List.getD_eq_getElem?_getD, List.getElem?_eq_getElem (by omega)]
          exact h1 _ (List.getElem_mem _)
      · refine Or.inr ⟨j + 1, by simp; omega, by rw [h2]; rfl, ?_, fun i hi => ?_, fun i hi => ?_⟩
        · show unl want (ls.getD j default) < n; omega
        · cases i with
          | zero => show unl want (ls.getD j default) ≤ unl want y; omega
          | succ i => exact h4 i (by simp only [List.length_cons] at hi; omega)
        · cases i with
          | zero => exact h3
          | succ i => exact h5 i (by omega)
    · rw [if_neg h]
      rcases nearSt_spec want ls b n with ⟨h1, h2⟩ | ⟨j, hj, h2, h3, h4, h5⟩
      · refine Or.inl ⟨fun l hl => ?_, h2⟩
        rcases List.mem_cons.1 hl with rfl | hl
        · omega
        · exact h1 l hl
      · refine Or.inr ⟨j + 1, by simp; omega, by rw [h2]; rfl, h3, fun i hi => ?_, fun i hi => ?_⟩
        · cases i with
          | zero => show unl want (ls.getD j default) ≤ unl want y; omega
          | succ i => exact h4 i (by simp only [List.length_cons] at hi; omega)
        · cases i with
          | zero => show unl want (ls.getD j default) < unl want y; omega
          | succ i => exact h5 i (by omega)
theorem nodup_r : ∀ (ls : List Ltr), (ls.map Ltr.r).Nodup → ∀ a ∈ ls, ∀ b ∈ ls, a.r = b.r → a = b := by
  intro ls
  induction ls with
  | nil => intro _ a ha; exact absurd ha (by simp)
  | cons y ls ih =>
    intro h a ha b hb e
    simp only [List.map_cons, List.nodup_cons] at h
    obtain ⟨hn, hd⟩ := h
    rcases List.mem_cons.1 ha with ea | ha'
    · rcases List.mem_cons.1 hb with eb | hb'
      · rw [ea, eb]
      · have hx : y.r ∈ ls.map Ltr.r := List.mem_map.2 ⟨b, hb', by rw [← e, ea]⟩
        exact absurd hx hn
    · rcases List.mem_cons.1 hb with eb | hb'
      · have hx : y.r ∈ ls.map Ltr.r := List.mem_map.2 ⟨a, ha', by rw [e, eb]⟩
        exact absurd hx hn
      · exact ih hd a ha' b hb' e
theorem sgn_unl (x w : Ltr) (h1 : x.p < 16777216) (h2 : x.m < 16777216) (h3 : w.p < 16777216) (h4 : w.m < 16777216) : sgn x w.p w.m 24 = unl w x := by
  unfold sgn unl
  have hv : ((x.p ^^^ w.p) ||| (x.m ^^^ w.m)) < 2 ^ 24 := Nat.or_lt_two_pow (Nat.xor_lt_two_pow h1 h3) (Nat.xor_lt_two_pow h2 h4)
  rw [Nat.xor_comm w.p, Nat.xor_comm w.m, show (32 : Nat) = 24 + 8 from rfl, popAux_add, Nat.div_eq_of_lt hv, popAux_zero, Nat.add_zero]
/-- Near: no answer; or the letter at place j, the first of the nearest. -/
theorem nearR_cases (A : Al) (r : Int) (p m : Nat) (hb : ∀ l ∈ A.ls, l.p < 4294967296 ∧ l.m < 4294967296 ∧ -2147483648 ≤ l.r ∧ l.r ≤ 2147483647) (hp : p < 4294967296) (hm : m < 4294967296) :
    (∃ e, e ≠ 0 ∧ nearR A r p m = (0, e)) ∨
    (∃ (lx : Ltr) (j : Nat), j < A.ls.length ∧ A.ok = true ∧ ofR A r = (lx, 0) ∧ ofR A (A.ls.getD j default).r = (A.ls.getD j default, 0) ∧ nearR A r p m = ((A.ls.getD j default).r, 0) ∧ LtrOk lx ∧
      (∀ i, i < A.ls.length → sgn (A.ls.getD j default) (trn lx p m).p (trn lx p m).m 24 ≤ sgn (A.ls.getD i default) (trn lx p m).p (trn lx p m).m 24) ∧
      (∀ i, i < j → sgn (A.ls.getD j default) (trn lx p m).p (trn lx p m).m 24 < sgn (A.ls.getD i default) (trn lx p m).p (trn lx p m).m 24) ∧
      (p ||| m = 0 → (A.ls.getD j default).p = lx.p ∧ (A.ls.getD j default).m = lx.m)) := by
  by_cases h0 : (lacR A r p m).2 = 0
  · have hof : (ofR A r).2 = 0 := by
      by_cases hof : (ofR A r).2 = 0
      · exact hof
      · rw [lacR_err hof] at h0; exact absurd h0 hof
    have hok : A.ok = true := by
      cases hok : A.ok with
      | true => rfl
      | false => unfold ofR at hof; rw [hok] at hof; simp at hof
    have hcls : clsB A.fs.length p m = true := by
      cases hc : clsB A.fs.length p m with
      | true => rfl
      | false => unfold lacR at h0; rw [if_pos hof, hc] at h0; simp at h0
    have h24 := Al.ok24 hok
    have hbig : 2 ^ A.fs.length ≤ 2 ^ 24 := Nat.pow_le_pow_right (by decide) h24
    obtain ⟨qp, qm⟩ := cls_lt h24 hp hm hcls
    have eof : ∀ q, ofR A q = lofR A.ls q := fun q => by unfold ofR; rw [hok]; rfl
    rw [eof] at hof
    obtain ⟨lx, _, ex, mx⟩ := lofR_yes hof
    obtain ⟨ox, _, px, qx⟩ := Al.in_ok hok hb mx
    have hlac : lacR A r p m = (lx, 0) := by rw [lacR_ok (by rw [eof]; exact hof) hcls, eof, ex]
    have hget : ∀ i, i < A.ls.length → A.ls.getD i default ∈ A.ls := fun i hi => by
      rw [List.getD_eq_getElem?_getD, List.getElem?_eq_getElem hi]; exact List.getElem_mem hi
    have wp : (trn lx p m).p < 16777216 := Nat.or_lt_two_pow (n := 24) (Nat.lt_of_le_of_lt Nat.and_le_left (by omega)) (by omega)
    have wm : (trn lx p m).m < 16777216 := Nat.or_lt_two_pow (n := 24) (Nat.lt_of_le_of_lt Nat.and_le_left (by omega)) (by omega)
    have hs : ∀ i, i < A.ls.length → sgn (A.ls.getD i default) (trn lx p m).p (trn lx p m).m 24 = unl (trn lx p m) (A.ls.getD i default) := fun i hi => by
      obtain ⟨_, _, a, b⟩ := Al.in_ok hok hb (hget i hi)
      exact sgn_unl _ _ (by omega) (by omega) wp wm
    have hle : ∀ i, i < A.ls.length → unl (trn lx p m) (A.ls.getD i default) ≤ 24 := fun i hi => by
      rw [← hs i hi]; exact popAux_le 24 _
    have hlen : 1 ≤ A.ls.length := by
      rw [Al.ok_eq, Bool.and_eq_true] at hok
      have h2 := hok.2
      unfold ltrsB at h2
      simp only [Bool.and_eq_true, decide_eq_true_eq] at h2
      exact h2.1.1.1
    have hnd : (A.ls.map Ltr.r).Nodup := by
      rw [Al.ok_eq, Bool.and_eq_true] at hok
      have h2 := hok.2
      unfold ltrsB at h2
      simp only [Bool.and_eq_true, decide_eq_true_eq] at h2
      exact h2.2
    rcases nearSt_spec (trn lx p m) A.ls 0 25 with ⟨h1, _⟩ | ⟨j, hj, e, h3, h4, h5⟩
    · have a := hle 0 hlen
      have b := h1 _ (hget 0 hlen)
      omega
    · refine Or.inr ⟨lx, j, hj, hok, by rw [eof, ex], ?_, ?_, ox, fun i hi => ?_, fun i hi => ?_, fun h => ?_⟩
      · rw [eof]
        unfold lofR
        cases hf : findL A.ls (A.ls.getD j default).r with
        | none => exact absurd hf (by
            unfold findL
            intro hn
            have := List.find?_eq_none.1 hn _ (hget j hj)
            exact this (by simp))
        | some l =>
          have hl := findL_mem hf
          have hr : l.r = (A.ls.getD j default).r := by
            unfold findL at hf
            have := List.find?_some hf
            simpa using this
          rw [nodup_r A.ls hnd l hl _ (hget j hj) hr]
      · unfold nearR
        rw [hlac, if_pos rfl, e]
      · rw [hs j hj, hs i hi]; exact h4 i hi
      · rw [hs j hj, hs i (by omega)]; exact h5 i hi
      · have hp0 : p = 0 := by have := Nat.left_le_or (n := p) (m := m); omega
        have hm0 : m = 0 := by have := Nat.right_le_or (n := p) (m := m); omega
        have et : trn lx p m = lx := by
          subst hp0 hm0
          unfold trn
          rw [Nat.or_zero, Nat.or_zero]
          have : ∀ q, q < 4294967296 → q &&& (4294967295 - 0) = q := fun q hq => by
            rw [show 4294967295 - 0 = 2 ^ 32 - 1 from rfl, Nat.and_two_pow_sub_one_eq_mod, Nat.mod_eq_of_lt hq]
          rw [this _ ox.1, this _ ox.2]
        rw [et] at h4
        obtain ⟨i, hi, hxi⟩ := List.getElem_of_mem mx
        have hxi' : A.ls.getD i default = lx := by rw [List.getD_eq_getElem?_getD, List.getElem?_eq_getElem hi]; exact hxi
        have hz := h4 i hi
        rw [hxi', (unl_zero lx lx ox ox).2 ⟨rfl, rfl⟩] at hz
        obtain ⟨oy, _, _, _⟩ := Al.in_ok hok hb (hget j hj)
        obtain ⟨a, b⟩ := (unl_zero lx _ ox oy).1 (by omega)
        exact ⟨a.symm, b.symm⟩
  · refine Or.inl ⟨(lacR A r p m).2, h0, ?_⟩
    unfold nearR
    rw [if_neg h0]
end Go.Proofs.Ytmbekgfbnapelaa
