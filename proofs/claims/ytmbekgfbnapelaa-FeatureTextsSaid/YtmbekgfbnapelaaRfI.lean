/-
  WALKS: cognateref02.named, Bit, Text.
-/
import Derived.Test.YtmbekgfbnapelaaRfH
import Derived.Test.YtmbekgfbnapelaaFeat16
namespace Go.Proofs.Ytmbekgfbnapelaa
open Go.RowKit Go.Lib
set_option linter.unusedVariables false

/-- A feature's number, from i on; -1: there is none. -/
def nmF : List ByteArray → ByteArray → Nat → Int
  | [], _, _ => -1
  | f :: l, s, i => if f = s then (i : Int) else nmF l s (i + 1)
theorem nmF_bit : ∀ (l : List ByteArray) (s : ByteArray) (i : Nat), (nmF l s i = -1 ∧ bitF l s i = 0) ∨ ∃ j, i ≤ j ∧ j < i + l.length ∧ nmF l s i = (j : Int) ∧ bitF l s i = 2 ^ j
  | [], _, _ => Or.inl ⟨rfl, rfl⟩
  | f :: l, s, i => by
    unfold nmF bitF
    by_cases h : f = s
    · rw [if_pos h, if_pos h]
      exact Or.inr ⟨i, Nat.le_refl _, by simp, rfl, rfl⟩
    · rw [if_neg h, if_neg h]
      rcases nmF_bit l s (i + 1) with h1 | ⟨j, a, b, c, d⟩
      · exact Or.inl h1
      · exact Or.inr ⟨j, by omega, by simp; omega, c, d⟩
theorem nmF_yes (fs : List ByteArray) (s : ByteArray) (k : Nat) (hk : k < fs.length) (h : fs.getD k ByteArray.empty = s) : nmF (fs.drop k) s k = (k : Int) := by
  rw [List.getD_eq_getElem?_getD, List.getElem?_eq_getElem hk] at h
  simp only [Option.getD_some] at h
  rw [List.drop_eq_getElem_cons hk, nmF, if_pos h]
theorem nmF_no (fs : List ByteArray) (s : ByteArray) (k : Nat) (hk : k < fs.length) (h : ¬ fs.getD k ByteArray.empty = s) : nmF (fs.drop k) s k = nmF (fs.drop (k + 1)) s (k + 1) := by
  rw [List.getD_eq_getElem?_getD, List.getElem?_eq_getElem hk] at h
  simp only [Option.getD_some] at h
  rw [List.drop_eq_getElem_cons hk, nmF, if_neg h]

set_option maxHeartbeats 2000000 in
set_option maxRecDepth 100000 in
theorem rnamed_any (A : Al) (s : ByteArray) (w : World) (hA : A.In w) :
    Calls Try.prog 78 #[A.v, .string s] w fun e w' => e = .returned (.int .i64 (nmF A.fs s 0)) ∧ Below w.heap.size w w' := by
  have hat := hA.F.at_
  have hcl0 := (hA.F.next ((Below.refl _ _).alloc (Nat.le_refl _) (.cells #[.slice A.pf A.fs.length A.cf, .slice A.pl A.ls.length A.cl] 26))).cells
  have hbig := hA.F.big
  have hyes := fun k => nmF_yes A.fs s k
  have hno := fun k => nmF_no A.fs s k
  have hend : nmF (A.fs.drop A.fs.length) s A.fs.length = -1 := by rw [List.drop_length]; rfl
  obtain ⟨fs, hfs⟩ : ∃ f, f = A.fs := ⟨_, rfl⟩
  obtain ⟨bf, hbf⟩ : ∃ f, f = A.bf := ⟨_, rfl⟩
  obtain ⟨f0, hf0⟩ : ∃ f, f = A.f0 := ⟨_, rfl⟩
  obtain ⟨pf, pl, nf, cf, nl, cl, hv, hnf, hnl, hpl, hcl, hpf, hcf⟩ := A.parts
  rw [hv]
  rw [← hnf, ← hnl, ← hpl, ← hcl, ← hpf, ← hcf] at hcl0
  rw [← hpf] at hat
  rw [← hbf, ← hf0] at hat hcl0
  rw [← hnf] at hat hbig hend hyes hno
  rw [← hfs] at hcl0 hend hyes hno ⊢
  have HAT := Lib.hid hat; have HCL := Lib.hid hcl0; have HY := Lib.hid hyes; have HNo := Lib.hid hno; have HEND := Lib.hid hend
  clear hA hat hcl0 hyes hno hend hfs hbf hf0 hv hnf hnl hpl hcl hpf hcf
  go_enter Try.func78, Try.ntmps78
  go_wp2_with fail
  go_loop [5] (fun v => ∃ k : Nat, v = .int .i64 k ∧ k ≤ nf ∧ Hid (nmF (fs.drop k) s k = nmF fs s 0)) (fun v => nf - (intOf v).toNat)
  case atStart => exact ⟨0, rfl, Nat.zero_le _, rfl⟩
  case round =>
    obtain ⟨k, rfl, hk, HB⟩ := hrel
    by_cases hkn : k < nf
    · obtain rfl := HAT.out (by omega)
      have a0 := HCL.out k hkn
      have hy := HY.out k hkn
      have hn := HNo.out k hkn
      obtain ⟨g, hg⟩ : ∃ g, g = fs.getD k ByteArray.empty := ⟨_, rfl⟩
      rw [← hg] at a0 hy hn
      have hbe := bytes_eq (a := g) (b := s)
      have HYk := Lib.hid hy; have HNk := Lib.hid hn
      clear hy hn hg
      by_cases he : g = s
      · have hbt : (g.toList == s.toList) = true := by rw [hbe]; simp [he]
        have HE := Lib.hid he
        clear hbe he
        go_wp2_with fail
        go_ret
        exact ⟨by rw [← HB.out, HYk.out HE.out] <;> rfl, (Below.refl _ _).alloc (Nat.le_refl _) _⟩
      · have hbt : (g.toList == s.toList) = false := by rw [hbe]; simp [he]
        have HE := Lib.hid he
        clear hbe he
        go_wp2_with fail
        go_round
        case rel => exact ⟨k + 1, by go_num, by omega, (show _ = _ from by rw [← HB.out, HNk.out HE.out])⟩
        case measure => simp [intOf]; omega
    · obtain rfl : k = nf := by omega
      go_wp2_with fail
      go_ret
      exact ⟨by rw [← HB.out, HEND.out] <;> rfl, (Below.refl _ _).alloc (Nat.le_refl _) _⟩

set_option maxHeartbeats 2000000 in
set_option maxRecDepth 100000 in
theorem rbit_any (A : Al) (s : ByteArray) (w : World) (hA : A.In w) :
    Calls Try.prog 31 #[A.v, .string s] w fun e w' => e = .returned (.tuple #[.int .u32 (bitR A s).1, .int .i64 (bitR A s).2]) ∧ Below w.heap.size w w' := by
  have ka := fun W h => rasked_nil A W h
  unfold RchkPost at ka
  cases hok : A.ok with
  | false =>
    rw [chk_no hok] at ka
    have hx : bitR A s = (0, 7) := by unfold bitR; rw [hok]; rfl
    rw [hx]
    obtain ⟨pf, pl, nf, cf, nl, cl, hv, hnf, hnl, hpl, hcl, hpf, hcf⟩ := A.parts
    rw [hv] at ka ⊢
    have KA := Lib.hid ka; have HA := Lib.hid hA
    clear ka hA hv hnf hnl hpl hcl hpf hcf hok hx
    go_enter Try.func31, Try.ntmps31
    go_wp2_with fail
    refine (KA.out _ (HA.out.alloc _)).mono ?_
    rintro e w1 ⟨rfl, hb1⟩
    have HB := Lib.hid (show Below w.heap.size w w1 from ((Below.refl _ _).alloc (Nat.le_refl _) _).trans (hb1.mono (by simp)))
    clear hb1
    go_wp2_with fail
    go_ret2
    exact ⟨rfl, HB.out⟩
  | true =>
    rw [chk_ok hok] at ka
    have h24 := Al.ok24 hok
    have kn := fun W h => rnamed_any A s W h
    have hbr : bitR A s = if bitI A s = 0 then (0, 8) else (bitI A s, 0) := by unfold bitR; rw [hok]; rfl
    rw [hbr]
    unfold bitI
    have hcase := nmF_bit A.fs s 0
    obtain ⟨pf, pl, nf, cf, nl, cl, hv, hnf, hnl, hpl, hcl, hpf, hcf⟩ := A.parts
    rw [hv] at ka kn ⊢
    have hs : Bx A (.slice pf nf cf) (.slice pl nl cl) w w.heap.size (w.alloc (.cells #[.slice pf nf cf, .slice pl nl cl] 26)) := Bx.start hA
    rcases hcase with ⟨h1, h2⟩ | ⟨j, _, hj, h1, h2⟩
    · rw [h1] at kn
      rw [h2, if_pos rfl]
      have KA := Lib.hid ka; have KN := Lib.hid kn; have HS := Lib.hid hs
      clear ka kn hA hs hv hnf hnl hpl hcl hpf hcf hok hbr h1 h2 h24
      go_enter Try.func31, Try.ntmps31
      go_wp2_with fail
      refine (KA.out _ HS.out.i).mono ?_
      rintro e w1 ⟨rfl, hb1⟩
      have hx := HS.out.next hb1
      obtain ⟨c0, c1, hlt⟩ : w1.cell? ⟨w.heap.size, 0, none⟩ = some (.slice pf nf cf) ∧ w1.cell? ⟨w.heap.size, 1, none⟩ = some (.slice pl nl cl) ∧ w.heap.size < w1.heap.size := ⟨hx.c0, hx.c1, hx.lt⟩
      have HX := Lib.hid hx
      clear hx hb1
      go_wp2_with fail
      refine (KN.out _ HX.out.i).mono ?_
      rintro e w2 ⟨rfl, hb2⟩
      have HB := Lib.hid (HX.out.next hb2).below
      clear hb2
      go_wp2_with fail
      go_ret2
      exact ⟨rfl, HB.out⟩
    · rw [h1] at kn
      have hj24 : j < 24 := by omega
      obtain ⟨e1, e2, e3⟩ := pow_int j hj24
      rw [h2, if_neg (by omega)]
      obtain ⟨P2, hP2⟩ : ∃ P2, P2 = (2 : Nat) ^ j := ⟨_, rfl⟩
      rw [← hP2] at e1 e2 e3 ⊢
      have E1 := Lib.hid e1
      clear e1
      have KA := Lib.hid ka; have KN := Lib.hid kn; have HS := Lib.hid hs
      clear ka kn hA hs hv hnf hnl hpl hcl hpf hcf hok hbr h1 h2 h24 hP2 hj
      go_enter Try.func31, Try.ntmps31
      go_wp2_with fail
      refine (KA.out _ HS.out.i).mono ?_
      rintro e w1 ⟨rfl, hb1⟩
      have hx := HS.out.next hb1
      obtain ⟨c0, c1, hlt⟩ : w1.cell? ⟨w.heap.size, 0, none⟩ = some (.slice pf nf cf) ∧ w1.cell? ⟨w.heap.size, 1, none⟩ = some (.slice pl nl cl) ∧ w.heap.size < w1.heap.size := ⟨hx.c0, hx.c1, hx.lt⟩
      have HX := Lib.hid hx
      clear hx hb1
      go_wp2_with fail
      refine (KN.out _ HX.out.i).mono ?_
      rintro e w2 ⟨rfl, hb2⟩
      have HB := Lib.hid (HX.out.next hb2).below
      clear hb2
      go_wp2_with fail
      go_ret2
      exact ⟨by show Ending.returned (.tuple #[.int .u32 ((2 : Int) ^ j % 4294967296), .int .i64 0]) = _; rw [E1.out], HB.out⟩
end Go.Proofs.Ytmbekgfbnapelaa
