/-
  WALKS: cognateref02.Text.
-/
import Derived.Test.YtmbekgfbnapelaaRfI
namespace Go.Proofs.Ytmbekgfbnapelaa
open Go.RowKit Go.Lib
set_option linter.unusedVariables false

theorem cat_two (l : List UInt8) (c : UInt8) (g : ByteArray) : ((⟨l.toArray⟩ : ByteArray) ++ (⟨#[c]⟩ : ByteArray)) ++ g = ⟨(l ++ c :: g.data.toList).toArray⟩ := by
  apply ByteArray.ext
  simp
theorem size_of_l (l : List UInt8) : (⟨l.toArray⟩ : ByteArray).size = l.length := by show (l.toArray).size = _; simp
theorem not_both {n p m k : Nat} (hc : clsB n p m = true) : p &&& 2 ^ k = 0 ∨ m &&& 2 ^ k = 0 := by
  unfold clsB at hc
  rw [Bool.and_eq_true, decide_eq_true_eq, decide_eq_true_eq] at hc
  rw [and_pow_iff, and_pow_iff]
  have := congrArg (fun x => x.testBit k) hc.2
  simp only [Nat.testBit_and, Nat.zero_testBit] at this
  cases h1 : p.testBit k with
  | false => exact Or.inl rfl
  | true => rw [h1, Bool.true_and] at this; exact Or.inr this
set_option maxHeartbeats 4000000 in
set_option maxRecDepth 100000 in
theorem rtext2_any (A : Al) (p m : Nat) (w : World) (hA : A.In w) (hp : p < 4294967296) (hm : m < 4294967296) :
    Calls Try.prog 29 #[A.v, .int .u32 p, .int .u32 m] w (TextPost (textR A p m) w) := by
  unfold TextPost
  have ka := fun W h => rasked_nil A W h
  unfold RchkPost at ka
  cases hok : A.ok with
  | false =>
    rw [chk_no hok] at ka
    have hx : textR A p m = ([], 7) := by unfold textR; rw [aacR_no hok, if_neg (by decide)]
    rw [hx]
    obtain ⟨pf, pl, nf, cf, nl, cl, hv, hnf, hnl, hpl, hcl, hpf, hcf⟩ := A.parts
    rw [hv] at ka ⊢
    have KA := Lib.hid ka; have HA := Lib.hid hA
    clear ka hA hv hnf hnl hpl hcl hpf hcf hok hx
    go_enter Try.func29, Try.ntmps29
    go_wp2_with fail
    refine (KA.out _ (HA.out.alloc _)).mono ?_
    rintro e w1 ⟨rfl, hb1⟩
    have HB := Lib.hid (show Below w.heap.size w w1 from ((Below.refl _ _).alloc (Nat.le_refl _) _).trans (hb1.mono (by simp)))
    clear hb1
    go_wp2_with fail
    go_ret2
    exact ⟨rfl, HB.out⟩
  | true =>
    rw [chk_ok hok] at ka
    have h24 := Al.ok24 hok
    have km : ∀ W, Calls Try.prog 67 #[A.v, .int .u32 p, .int .u32 m] W fun e w' => e = .returned (.bool (clsB A.fs.length p m)) ∧ Below W.heap.size W w' := fun W => rmay_any A.pf A.pl A.cf A.fs.length A.ls.length A.cl p m W h24 hp hm
    have haac := aacR_ok (p := p) (m := m) hok
    cases hcb : clsB A.fs.length p m with
    | false =>
      rw [hcb] at km haac
      have hx : textR A p m = ([], 20) := by unfold textR; rw [haac]; rfl
      rw [hx]
      obtain ⟨pf, pl, nf, cf, nl, cl, hv, hnf, hnl, hpl, hcl, hpf, hcf⟩ := A.parts
      rw [hv] at ka km ⊢
      have hs : Bx A (.slice pf nf cf) (.slice pl nl cl) w w.heap.size (w.alloc (.cells #[.slice pf nf cf, .slice pl nl cl] 26)) := Bx.start hA
      have KA := Lib.hid ka; have KM := Lib.hid km; have HS := Lib.hid hs
      clear ka km hA hs hv hnf hnl hpl hcl hpf hcf hok hx h24 haac hcb
      go_enter Try.func29, Try.ntmps29
      go_wp2_with fail
      refine (KA.out _ HS.out.i).mono ?_
      rintro e w1 ⟨rfl, hb1⟩
      have hx := HS.out.next hb1
      obtain ⟨c0, c1, hlt⟩ : w1.cell? ⟨w.heap.size, 0, none⟩ = some (.slice pf nf cf) ∧ w1.cell? ⟨w.heap.size, 1, none⟩ = some (.slice pl nl cl) ∧ w.heap.size < w1.heap.size := ⟨hx.c0, hx.c1, hx.lt⟩
      have HX := Lib.hid hx
      clear hx hb1
      go_wp2_with fail
      refine (KM.out _).mono ?_
      rintro e w2 ⟨rfl, hb2⟩
      have HB := Lib.hid (HX.out.next hb2).below
      clear hb2
      go_wp2_with fail
      go_ret2
      exact ⟨rfl, HB.out⟩
    | true =>
      have hnb := fun k => not_both (k := k) hcb
      rw [hcb] at km haac
      have hx : textR A p m = (txtF A.fs 0 p m, 0) := by unfold textR; rw [haac]; rfl
      rw [hx]
      have hat := hA.F.at_
      have hcl0 := fun W (h : A.In W) => h.F.cells
      have hnm := fun k hk => nameB_size (Al.ok_name hok k hk)
      have htx := fun k hk => txtF_at A.fs k p m hk
      have hend : txtF (A.fs.drop A.fs.length) A.fs.length p m = [] := by rw [List.drop_length]; rfl
      obtain ⟨fs, hfs⟩ : ∃ f, f = A.fs := ⟨_, rfl⟩
      obtain ⟨bf, hbf⟩ : ∃ f, f = A.bf := ⟨_, rfl⟩
      obtain ⟨f0, hf0⟩ : ∃ f, f = A.f0 := ⟨_, rfl⟩
      obtain ⟨pf, pl, nf, cf, nl, cl, hv, hnf, hnl, hpl, hcl, hpf, hcf⟩ := A.parts
      rw [hv] at ka km ⊢
      rw [← hpf] at hat
      rw [← hbf, ← hf0] at hat hcl0
      rw [← hnf] at hat hcl0 hnm htx hend h24
      rw [← hfs] at hcl0 hnm htx hend ⊢
      obtain ⟨T, hT⟩ : ∃ T, T = txtF fs 0 p m := ⟨_, rfl⟩
      rw [← hT]
      have hs : Bx A (.slice pf nf cf) (.slice pl nl cl) w w.heap.size (w.alloc (.cells #[.slice pf nf cf, .slice pl nl cl] 26)) := Bx.start hA
      have KA := Lib.hid ka; have KM := Lib.hid km; have HS := Lib.hid hs; have HAT := Lib.hid hat; have HCL := Lib.hid hcl0; have HNM := Lib.hid hnm; have HTX0 := Lib.hid htx; have HEND := Lib.hid hend; have HT := Lib.hid hT; have HNB := Lib.hid hnb
      clear ka km hA hs hv hnf hnl hpl hcl hpf hcf hok hx haac hcb hat hcl0 hnm htx hend hT hfs hbf hf0 hnb
      go_enter Try.func29, Try.ntmps29
      go_wp2_with fail
      refine (KA.out _ HS.out.i).mono ?_
      rintro e w1 ⟨rfl, hb1⟩
      have hx := HS.out.next hb1
      obtain ⟨c0, c1, hlt⟩ : w1.cell? ⟨w.heap.size, 0, none⟩ = some (.slice pf nf cf) ∧ w1.cell? ⟨w.heap.size, 1, none⟩ = some (.slice pl nl cl) ∧ w.heap.size < w1.heap.size := ⟨hx.c0, hx.c1, hx.lt⟩
      have HX := Lib.hid hx
      clear hx hb1
      go_wp2_with fail
      refine (KM.out _).mono ?_
      rintro e w2 ⟨rfl, hb2⟩
      have hx2 := HX.out.next hb2
      clear c0 c1 hlt
      obtain ⟨c0, c1, hlt⟩ : w2.cell? ⟨w.heap.size, 0, none⟩ = some (.slice pf nf cf) ∧ w2.cell? ⟨w.heap.size, 1, none⟩ = some (.slice pl nl cl) ∧ w.heap.size < w2.heap.size := ⟨hx2.c0, hx2.c1, hx2.lt⟩
      have HX2 := Lib.hid hx2
      clear hx2 hb2 HX HS
      go_wp2_with fail
      go_loop [9, 10] (fun sv iv => ∃ (k : Nat) (pre : List UInt8), sv = .string ⟨pre.toArray⟩ ∧ iv = .int .i64 k ∧ k ≤ nf ∧ pre.length ≤ 33 * k ∧ Hid (pre ++ txtF (fs.drop k) k p m = T)) (fun _ iv => nf - (intOf iv).toNat)
      case atStart => exact ⟨0, [], rfl, rfl, Nat.zero_le _, Nat.le_refl _, HT.out.symm⟩
      case round =>
        obtain ⟨k, pre, rfl, rfl, hk, hpre, HR⟩ := hrel
        by_cases hkn : k < nf
        · obtain rfl := HAT.out (by omega)
          have a0 := HCL.out w2 HX2.out.i k hkn
          have hsz := HNM.out k hkn
          have htx := HTX0.out k hkn
          have hnb := HNB.out k
          obtain ⟨g, hg⟩ : ∃ g, g = fs.getD k ByteArray.empty := ⟨_, rfl⟩
          rw [← hg] at a0 hsz htx
          obtain ⟨e1, e2, e3⟩ := pow_int k (by omega)
          have ex := u32_and_nat p (2 ^ k) hp (by omega)
          have ey := u32_and_nat m (2 ^ k) hm (by omega)
          obtain ⟨P2, hP2⟩ : ∃ P2, P2 = (2 : Nat) ^ k := ⟨_, rfl⟩
          rw [← hP2] at e1 e2 e3 ex ey htx hnb
          obtain ⟨X, hX⟩ : ∃ X, X = p &&& P2 := ⟨_, rfl⟩
          obtain ⟨Y, hY⟩ : ∃ X, X = m &&& P2 := ⟨_, rfl⟩
          rw [← hX] at ex htx hnb
          rw [← hY] at ey htx hnb
          have HTX := Lib.hid htx
          have hps := size_of_l pre
          clear htx hg hP2 hX hY
          by_cases hx0 : X = 0
          · have hx1 : ((X : Int) == 0) = true := by simp [hx0]
            have hx2 : ((X : Int) != 0) = false := by simp [hx0]
            by_cases hy0 : Y = 0
            · have hy1 : ((Y : Int) == 0) = true := by simp [hy0]
              have hy2 : ((Y : Int) != 0) = false := by simp [hy0]
              have hst := HTX.out
              rw [if_pos hx0, if_pos hy0, List.nil_append] at hst
              have HST := Lib.hid hst
              clear hst hx0 hy0 hnb hps
              go_wp2_with fail
              go_round
              case rel => exact ⟨k + 1, pre, rfl, by go_num, by omega, by omega, (show _ = _ from by rw [← HR.out, HST.out])⟩
              case measure => simp [intOf]; omega
            · have hy1 : ((Y : Int) == 0) = false := by simp; omega
              have hy2 : ((Y : Int) != 0) = true := by simp; omega
              have hst := HTX.out
              rw [if_pos hx0, if_neg hy0] at hst
              have HST := Lib.hid hst
              have hc1 := fun W => run_string_add_sum (P := Try.prog) W ⟨pre.toArray⟩ ⟨#[45]⟩ (by rw [hps]; show pre.length + 1 ≤ _; omega)
              have hc2 := fun W => run_string_add_sum (P := Try.prog) W ((⟨pre.toArray⟩ : ByteArray) ++ (⟨#[45]⟩ : ByteArray)) g (by rw [ByteArray.size_append, hps]; show pre.length + 1 + g.size ≤ _; omega)
              rw [cat_two] at hc2
              obtain ⟨S1, hS1⟩ : ∃ S, S = (⟨pre.toArray⟩ : ByteArray) ++ (⟨#[45]⟩ : ByteArray) := ⟨_, rfl⟩
              rw [← hS1] at hc1 hc2
              clear hst hx0 hy0 hnb hps hS1
              go_wp2_with fail
              go_round
              case rel => exact ⟨k + 1, pre ++ 45 :: g.data.toList, rfl, by go_num, by omega, (by have : g.data.size = g.size := rfl; simp only [List.length_append, List.length_cons, Array.length_toList]; omega), (show _ = _ from by rw [← HR.out, HST.out, List.append_assoc])⟩
              case measure => simp [intOf]; omega
          · have hy0 : Y = 0 := by omega
            have hx1 : ((X : Int) == 0) = false := by simp; omega
            have hx2 : ((X : Int) != 0) = true := by simp; omega
            have hy1 : ((Y : Int) == 0) = true := by simp [hy0]
            have hy2 : ((Y : Int) != 0) = false := by simp [hy0]
            have hst := HTX.out
            rw [if_neg hx0] at hst
            have HST := Lib.hid hst
            have hc1 := fun W => run_string_add_sum (P := Try.prog) W ⟨pre.toArray⟩ ⟨#[43]⟩ (by rw [hps]; show pre.length + 1 ≤ _; omega)
            have hc2 := fun W => run_string_add_sum (P := Try.prog) W ((⟨pre.toArray⟩ : ByteArray) ++ (⟨#[43]⟩ : ByteArray)) g (by rw [ByteArray.size_append, hps]; show pre.length + 1 + g.size ≤ _; omega)
            rw [cat_two] at hc2
            obtain ⟨S1, hS1⟩ : ∃ S, S = (⟨pre.toArray⟩ : ByteArray) ++ (⟨#[43]⟩ : ByteArray) := ⟨_, rfl⟩
            rw [← hS1] at hc1 hc2
            clear hst hx0 hy0 hnb hps hS1
            go_wp2_with fail
            go_round
            case rel => exact ⟨k + 1, pre ++ 43 :: g.data.toList, rfl, by go_num, by omega, (by have : g.data.size = g.size := rfl; simp only [List.length_append, List.length_cons, Array.length_toList]; omega), (show _ = _ from by rw [← HR.out, HST.out, List.append_assoc])⟩
            case measure => simp [intOf]; omega
        · obtain rfl : k = nf := by omega
          have hx : pre = T := by rw [← HR.out, HEND.out, List.append_nil]
          have HXX := Lib.hid hx
          clear hx
          go_wp2_with fail
          go_ret2
          exact ⟨by rw [← HXX.out] <;> rfl, HX2.out.below⟩
end Go.Proofs.Ytmbekgfbnapelaa
