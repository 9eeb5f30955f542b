/-
  WALKS: feature.areLetters at every list, Check.
-/
import Derived.Test.YtcibjgkifafohaaDoorFeat3
namespace Go.Proofs.YtcibjgkifafohaaDoor
open Go.RowKit Go.Lib
set_option linter.unusedVariables false

theorem ltrsB_none (nf : Nat) (ls : List Ltr) (h : ls.length < 1 ∨ 128 < ls.length) : ltrsB nf ls = false := by
  unfold ltrsB
  have : decide (1 ≤ ls.length ∧ ls.length ≤ 128) = false := decide_eq_false (by omega)
  rw [this]
  rfl

set_option maxHeartbeats 400000 in
theorem areLetters_any (pf : Option Addr) (cf nf : Nat) (pl : Option Addr) (bl l0 cl : Nat) (ls : List Ltr) (w : World) (hnf : nf ≤ 24) (hL : LsIn pl bl l0 ls w) :
    Calls Tryd.prog 131 #[.agg #[.slice pf nf cf, .slice pl ls.length cl]] w fun e w' => e = .returned (.bool (ltrsB nf ls)) ∧ Below w.heap.size w w' := by
  by_cases h1 : 1 ≤ ls.length
  · by_cases h2 : ls.length ≤ 128
    · obtain rfl := hL.at_ h1
      exact areLetters_yes pf cf nf bl l0 cl ls w hnf h1 h2 hL
    · rw [ltrsB_none nf ls (Or.inr (by omega))]
      have hbig := hL.big
      go_enter Tryd.func131, Tryd.ntmps131
      go_wp2
      go_ret
      exact ⟨rfl, (Below.refl _ _).alloc (Nat.le_refl _) _⟩
  · rw [ltrsB_none nf ls (Or.inl (by omega))]
    have h0 : ls.length = 0 := by omega
    rw [h0]
    clear hL h1 h0
    go_enter Tryd.func131, Tryd.ntmps131
    go_wp2
    go_ret
    exact ⟨rfl, (Below.refl _ _).alloc (Nat.le_refl _) _⟩

/-- Check's answer. -/
def chk (A : Al) : Int := if A.ok then 0 else 7
theorem Al.ok_eq (A : Al) : A.ok = (featsB A.fs && ltrsB A.fs.length A.ls) := rfl
theorem Al.ok24 {A : Al} (h : A.ok = true) : A.fs.length ≤ 24 := by
  rw [Al.ok_eq, Bool.and_eq_true] at h
  exact ((featsB_iff _).1 h.1).1

set_option maxHeartbeats 400000 in
theorem check_any (A : Al) (w : World) (hA : A.In w) :
    Calls Tryd.prog 116 #[A.v] w fun e w' => e = .returned (.int .i64 (chk A)) ∧ Below w.heap.size w w' := by
  unfold Al.v
  have hok := Al.ok_eq A
  obtain ⟨HF, HL⟩ := hA
  have hck : chk A = if A.ok then 0 else 7 := rfl
  rw [hok] at hck
  obtain ⟨c, hc⟩ : ∃ c, c = chk A := ⟨_, rfl⟩
  rw [← hc] at hck ⊢
  clear hok hc
  obtain ⟨pf, bf, f0, cf, fs, pl, bl, l0, cl, ls⟩ := A
  simp only [] at HF HL hck ⊢
  have hL1 := HL.next ((Below.refl w.heap.size w).alloc (Nat.le_refl _) (.cells #[.slice pf fs.length cf, .slice pl ls.length cl] 34))
  have hF1 := HF.next ((Below.refl w.heap.size w).alloc (Nat.le_refl _) (.cells #[.slice pf fs.length cf, .slice pl ls.length cl] 34))
  have HF1 := Lib.hid hF1; have HL1 := Lib.hid hL1
  clear HF HL hL1 hF1
  obtain ⟨nf, hnf⟩ : ∃ n, n = fs.length := ⟨_, rfl⟩
  obtain ⟨nl, hnl⟩ : ∃ n, n = ls.length := ⟨_, rfl⟩
  have c1 := areFeatures_any pf bf f0 cf fs
  have c2 := areLetters_any pf cf fs.length pl bl l0 cl ls
  rw [← hnf] at HF1 HL1 c1 c2 ⊢
  rw [← hnl] at HF1 HL1 c2 ⊢
  have C1 := Lib.hid c1; have C2 := Lib.hid c2; have HNF := Lib.hid hnf
  clear c1 c2 hnf hnl
  cases hb : featsB fs with
  | false =>
    obtain rfl : c = 7 := by rw [hck, hb]; rfl
    have HB := Lib.hid hb
    clear hb hck
    go_enter Tryd.func116, Tryd.ntmps116
    go_wp2_with fail
    refine (C1.out _ HF1.out).mono ?_
    rintro e w1 ⟨rfl, rfl⟩
    rw [HB.out]
    go_wp2_with fail
    go_ret
    exact ⟨rfl, (Below.refl _ _).alloc (Nat.le_refl _) _⟩
  | true =>
    have h24 : nf ≤ 24 := by rw [HNF.out]; exact ((featsB_iff fs).1 hb).1
    cases hc : ltrsB fs.length ls with
    | false =>
      obtain rfl : c = 7 := by rw [hck, hb, hc]; rfl
      have HB := Lib.hid hb; have HC := Lib.hid hc
      rw [← HNF.out] at HC
      clear hb hck hc
      go_enter Tryd.func116, Tryd.ntmps116
      go_wp2_with fail
      refine (C1.out _ HF1.out).mono ?_
      rintro e w1 ⟨rfl, rfl⟩
      rw [HB.out]
      go_wp2_with fail
      refine (C2.out _ h24 HL1.out).mono ?_
      rintro e w2 ⟨rfl, hb2⟩
      have HB2 := Lib.hid hb2
      clear hb2
      rw [HC.out]
      go_wp2_with fail
      go_ret
      exact ⟨rfl, ((Below.refl _ _).alloc (Nat.le_refl _) _).trans (HB2.out.mono (by simp))⟩
    | true =>
      obtain rfl : c = 0 := by rw [hck, hb, hc]; rfl
      have HB := Lib.hid hb; have HC := Lib.hid hc
      rw [← HNF.out] at HC
      clear hb hck hc
      go_enter Tryd.func116, Tryd.ntmps116
      go_wp2_with fail
      refine (C1.out _ HF1.out).mono ?_
      rintro e w1 ⟨rfl, rfl⟩
      rw [HB.out]
      go_wp2_with fail
      refine (C2.out _ h24 HL1.out).mono ?_
      rintro e w2 ⟨rfl, hb2⟩
      have HB2 := Lib.hid hb2
      clear hb2
      rw [HC.out]
      go_wp2_with fail
      go_ret
      exact ⟨rfl, ((Below.refl _ _).alloc (Nat.le_refl _) _).trans (HB2.out.mono (by simp))⟩

end Go.Proofs.YtcibjgkifafohaaDoor
