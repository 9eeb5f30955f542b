/-
  WALKS: cognateref02.Parse.
-/
import Derived.Test.YtmbekgfbnapelaaRfJ
import Derived.StillTailTactics
namespace Go.Proofs.Ytmbekgfbnapelaa
open Go.RowKit Go.Lib
set_option linter.unusedVariables false

theorem get_el2 (s : ByteArray) (p : Nat) (hp : p < s.size) : s.get! p = s[p] := by
  cases s with
  | mk d => show d[p]! = d[p]'hp; exact getElem!_pos d p hp
theorem get_run2 (s : ByteArray) (p : Nat) (hp : p < s.size) (wx : World) : (Instr.index 9 (.string s) (.int .i64 (p : Int))).run Try.prog wx = .ok (.int .u8 ((s.get! p).toNat : Nat)) wx := by
  have h2 : (0 : Int) ≤ (p : Int) ∧ (p : Int) < (s.size : Int) := ⟨by omega, by omega⟩
  rw [run_index_string (P := Try.prog) wx 9 _ .i64 (p : Int) Try.underlying9, dif_pos h2, get_el2 s p hp]
  simp
theorem azB_iff (c : UInt8) : azB c = true ↔ 97 ≤ c.toNat ∧ c.toNat ≤ 122 := by unfold azB; rw [decide_eq_true_iff]
set_option maxHeartbeats 8000000 in
set_option maxRecDepth 100000 in
theorem rparse_ok (A : Al) (s : ByteArray) (w : World) (hA : A.In w) (hok : A.ok = true) (hs : s.size ≤ 65536) :
    Calls Try.prog 30 #[A.v, .string s] w (ParPost (parF A.fs s (s.size + 1) 0 0 0) w) := by
  unfold ParPost
  have ka := fun W h => rasked_nil A W h
  unfold RchkPost at ka
  rw [chk_ok hok] at ka
  have kn := fun g W h => rnamed_any A g W h
  have h24 := Al.ok24 hok
  obtain ⟨fs, hfs⟩ : ∃ fs, fs = A.fs := ⟨_, rfl⟩
  rw [← hfs] at kn h24 ⊢
  obtain ⟨R, hR⟩ : ∃ R, R = parF fs s (s.size + 1) 0 0 0 := ⟨_, rfl⟩
  rw [← hR]
  obtain ⟨R1, R2, R3, R4⟩ := R
  simp only []
  obtain ⟨pf, pl, nf, cf, nl, cl, hv, hnf, hnl, hpl, hcl, hpf, hcf⟩ := A.parts
  rw [hv] at ka kn ⊢
  have hs0 : Bx A (.slice pf nf cf) (.slice pl nl cl) w w.heap.size (w.alloc (.cells #[.slice pf nf cf, .slice pl nl cl] 26)) := Bx.start hA
  have KA := Lib.hid ka; have KN := Lib.hid kn; have HX0 := Lib.hid hs0; have HR := Lib.hid hR; have H24 := Lib.hid h24; have HSZ := Lib.hid hs
  have hc1 : ¬ (65536 : Int) < (s.size : Int) := by omega
  obtain ⟨N, hN1, hN2⟩ : ∃ N : Int, (s.size : Int) ≤ N ∧ N ≤ 65536 := ⟨s.size, by omega, by omega⟩
  clear ka kn hA hs0 hv hnf hnl hpl hcl hpf hcf hok hR hfs h24 hs
  go_enter Try.func30, Try.ntmps30
  go_wp2_with fail
  refine (KA.out _ HX0.out.i).mono ?_
  rintro e w1 ⟨rfl, hb1⟩
  have HX1 := Lib.hid (HX0.out.next hb1)
  clear hb1 HX0
  go_wp2_with fail
  go_loopw [9, 10, 11] (fun pv mv tv wr => ∃ t n p m : Nat, pv = .int .u32 p ∧ mv = .int .u32 m ∧ tv = .int .i64 t ∧ t ≤ s.size ∧ s.size < n + t ∧ p < 16777216 ∧ m < 16777216 ∧ Hid (parF fs s n t p m = (R1, R2, R3, R4)) ∧ Hid (Bx A (.slice pf nf cf) (.slice pl nl cl) w w.heap.size wr)) (fun _ _ tv _ => s.size - (intOf tv).toNat)
  case atStart => exact ⟨0, s.size + 1, 0, 0, rfl, rfl, rfl, Nat.zero_le _, by omega, by omega, by omega, HR.out.symm, HX1⟩
  case round =>
    clear HX1
    obtain ⟨t, n, p, m, rfl, rfl, rfl, ht, hn, hp, hm, HP, HX⟩ := hrel
    by_cases htn : t < s.size
    · obtain ⟨n, rfl⟩ : ∃ q, n = q + 1 := ⟨n - 1, by omega⟩
      have hE1 := endOf_ge s (t + 1)
      have hE2 := endOf_le s (t + 1) (by omega)
      have hbad := parF_bad fs s n t p m htn
      have hgo := parF_go fs s n t p m htn
      have hEg := fun q (h1 : q < s.size) => endOf_go s q h1
      have hEn := fun q (h1 : q < s.size) => endOf_no s q h1
      have hEe := fun q => endOf_end s q
      obtain ⟨E, hE⟩ : ∃ E, E = endOf s (t + 1) := ⟨_, rfl⟩
      rw [← hE] at hE1 hE2 hbad hgo
      have hnb := nmF_bit fs (s.extract (t + 1) E) 0
      have kn := KN.out (s.extract (t + 1) E)
      obtain ⟨B, hB⟩ : ∃ B, B = bitF fs (s.extract (t + 1) E) 0 := ⟨_, rfl⟩
      obtain ⟨nm, hnm⟩ : ∃ B, B = nmF fs (s.extract (t + 1) E) 0 := ⟨_, rfl⟩
      rw [← hB] at hbad hgo hnb
      rw [← hnm] at kn hnb
      have hgt := get_run2 s t htn
      rw [← get_el2 s t htn] at hbad hgo
      obtain ⟨C, hC⟩ : ∃ C, C = (s.get! t).toNat := ⟨_, rfl⟩
      have hC2 : C < 256 := by rw [hC]; exact (s.get! t).toNat_lt
      rw [← hC] at hgt hbad hgo
      rw [HP.out] at hbad hgo
      have KNN := Lib.hid kn; have HBAD := Lib.hid hbad; have HGO := Lib.hid hgo; have HNB := Lib.hid hnb; have HE := Lib.hid hE; have HEG := Lib.hid hEg; have HEN := Lib.hid hEn; have HEE := Lib.hid hEe
      have HC2 := Lib.hid hC2
      clear kn hbad hgo hnb hB hnm hC hE hEg hEn hEe hC2
      obtain ⟨wo, hwo⟩ : ∃ wo, wo = wr := ⟨_, rfl⟩
      rw [← hwo] at HX ⊢
      clear hwo
      go_wp2_with fail
      go_loop [12] (fun v => ∃ q : Nat, v = .int .i64 q ∧ t + 1 ≤ q ∧ q ≤ E ∧ Hid (endOf s q = E)) (fun v => s.size - (intOf v).toNat)
      case atStart => exact ⟨t + 1, by go_num, Nat.le_refl _, hE1, HE.out.symm⟩
      case round =>
        obtain ⟨q, rfl, hq1, hq2, HQ⟩ := hrel
        by_cases hqE : q < E
        · have hqs : q < s.size := by omega
          have hgq := get_run2 s q hqs
          have haz : azB s[q] = true := by
            cases ha : azB s[q] with
            | true => rfl
            | false => have := HEN.out q hqs ha; rw [HQ.out] at this; omega
          have HAZ := Lib.hid (HEG.out q hqs haz)
          rw [azB_iff, ← get_el2 s q hqs] at haz
          obtain ⟨x, hx⟩ : ∃ x, x = (s.get! q).toNat := ⟨_, rfl⟩
          rw [← hx] at haz hgq
          have z1 : (97 : Int) ≤ (x : Int) := by omega
          have z2 : (x : Int) ≤ 122 := by omega
          clear hx haz
          go_wp2_with fail
          go_round
          case rel => exact ⟨q + 1, by go_num, by omega, by omega, (show _ = _ from by rw [← HAZ.out, HQ.out])⟩
          case measure => simp [intOf]; omega
        · obtain rfl : q = E := by omega
          have hways : ¬ (q : Int) < (s.size : Int) ∨ ((q : Int) < (s.size : Int) ∧ ∃ x : Nat, (∀ wx, (Instr.index 9 (.string s) (.int .i64 (q : Int))).run Try.prog wx = .ok (.int .u8 (x : Int)) wx) ∧ (¬ (97 : Int) ≤ (x : Int) ∨ ((97 : Int) ≤ (x : Int) ∧ ¬ (x : Int) ≤ 122))) := by
            by_cases hqs : q < s.size
            · right
              refine ⟨by omega, (s.get! q).toNat, get_run2 s q hqs, ?_⟩
              have haz : azB s[q] = false := by
                cases ha : azB s[q] with
                | false => rfl
                | true =>
                  have h1 := HEG.out q hqs ha
                  rw [HQ.out] at h1
                  have := endOf_ge s (q + 1)
                  omega
              have h2 : ¬ (97 ≤ (s.get! q).toNat ∧ (s.get! q).toNat ≤ 122) := by
                rw [get_el2 s q hqs, ← azB_iff, haz]; decide
              omega
            · left; omega
          have hsl : ∀ wx, (Instr.slice 9 (.string s) (some (.int .i64 (IntKind.i64.wrap ((t : Int) + 1)))) (some (.int .i64 (q : Int))) none).run Try.prog wx = .ok (.string (s.extract (t + 1) q)) wx := fun wx => by
            have e := run_slice_string (P := Try.prog) wx 9 s .i64 .i64 ((t : Int) + 1) (q : Int) Try.underlying9 (by omega) (by omega) (by omega)
            rw [show IntKind.i64.wrap ((t : Int) + 1) = (t : Int) + 1 from by simp [IntKind.wrap, IntKind.signed, IntKind.bits]; omega, e]
            rfl
          obtain ⟨c0, c1, hlt⟩ : wo.cell? ⟨w.heap.size, 0, none⟩ = some (.slice pf nf cf) ∧ wo.cell? ⟨w.heap.size, 1, none⟩ = some (.slice pl nl cl) ∧ w.heap.size < wo.heap.size := ⟨HX.out.c0, HX.out.c1, HX.out.lt⟩
          have hfin : ∀ (a b c d : Int) (w' : World), (a, b, c, d) = ((R1 : Int), (R2 : Int), (R3 : Int), R4) → Below w.heap.size w w' → (Ending.returned (.tuple #[.int .u32 a, .int .u32 b, .int .i64 c, .int .i64 d]) = Ending.returned (.tuple #[.int .u32 R1, .int .u32 R2, .int .i64 R3, .int .i64 R4]) ∧ Below w.heap.size w w') := fun a b c d w' h hb => by
            simp only [Prod.mk.injEq] at h
            obtain ⟨rfl, rfl, rfl, rfl⟩ := h
            exact ⟨rfl, hb⟩
          have HFIN := Lib.hid hfin
          have HSL := Lib.hid hsl
          clear hfin hsl
          rcases hways with h1 | ⟨h1, x, hx, h2 | ⟨h2, h3⟩⟩
          all_goals
            have hsl := HSL.out
            go_wp2_with fail
            go_still_tail 6, (by kernel_rfl)
            clear hsl
            change wpList _ _ _ _ _ wo.drew
            have hdr : Below wo.heap.size wo wo.drew := (Below.refl _ _).drew
            have HXd := Lib.hid (HX.out.next hdr)
            obtain ⟨W1, hW1⟩ : ∃ W1, W1 = wo.drew := ⟨_, rfl⟩
            rw [← hW1] at HXd ⊢
            clear hW1 hdr c0 c1 hlt
            go_wp2_with fail
            refine (KNN.out _ HXd.out.i).mono ?_
            rintro e w3 ⟨rfl, hb3⟩
            have HX3 := Lib.hid (HXd.out.next hb3)
            have HB3 := Lib.hid HX3.out.below
            clear hb3
            have hbadv : (R1, R2, R3, R4) = (0, 0, t, 20) → ((0 : Int), (0 : Int), (t : Int), (20 : Int)) = ((R1 : Int), (R2 : Int), (R3 : Int), R4) := fun h => by
              simp only [Prod.mk.injEq] at h ⊢
              omega
            have HBV := Lib.hid hbadv
            clear hbadv
            by_cases hsg : isSg C = true
            · have hC3 : C = 43 ∨ C = 45 := by
                unfold isSg at hsg
                rw [Bool.or_eq_true, decide_eq_true_eq, decide_eq_true_eq] at hsg
                exact hsg
              rcases HNB.out with ⟨hn1, hn2⟩ | ⟨j, _, hj, hn1, hn2⟩
              · have HF := Lib.hid (HFIN.out _ _ _ _ w3 (HBV.out (HBAD.out (fun h => h.2.1 hn2))) HB3.out)
                subst hn1
                clear hn2
                rcases hC3 with hC3 | hC3
                · have s1 : ((C : Int) == 43) = true := by simp [hC3]
                  have s1n : ((C : Int) != 43) = false := by simp [hC3]
                  clear hC3 hsg
                  go_wp2_with fail
                  refine bodyPost_ret (v := .tuple #[.int .u32 0, .int .u32 0, .int .i64 t, .int .i64 20]) (by simp [results, Try.results30, go_sem, *]) rfl HF.out
                · have s1 : ((C : Int) == 43) = false := by simp [hC3]
                  have s1n : ((C : Int) != 43) = true := by simp [hC3]
                  have s2 : ((C : Int) == 45) = true := by simp [hC3]
                  have s2n : ((C : Int) != 45) = false := by simp [hC3]
                  clear hC3 hsg
                  go_wp2_with fail
                  refine bodyPost_ret (v := .tuple #[.int .u32 0, .int .u32 0, .int .i64 t, .int .i64 20]) (by simp [results, Try.results30, go_sem, *]) rfl HF.out
              · have hj24 : j < 24 := by have := H24.out; omega
                obtain ⟨e1, e2, e3⟩ := pow_int j hj24
                obtain ⟨P2, hP2⟩ : ∃ P2, P2 = (2 : Nat) ^ j := ⟨_, rfl⟩
                rw [← hP2] at e1 e2 e3
                have hBP : B = P2 := by rw [hn2, hP2]
                have hor := u32_or_nat p m (by omega) (by omega)
                have hX2 : (p ||| m) < 2 ^ 24 := Nat.or_lt_two_pow hp hm
                obtain ⟨X, hXd⟩ : ∃ X, X = p ||| m := ⟨_, rfl⟩
                have hgo := HGO.out
                have hbad := HBAD.out
                rw [hBP] at hgo hbad
                rw [← hXd] at hor hX2 hgo hbad
                have hand := u32_and_nat X P2 (by omega) (by omega)
                obtain ⟨Y, hYd⟩ : ∃ Y, Y = X &&& P2 := ⟨_, rfl⟩
                rw [← hYd] at hand hgo hbad
                subst hn1
                have hb0 : P2 ≠ 0 := by omega
                have HGO2 := Lib.hid hgo; have HBAD2 := Lib.hid hbad; have HB0 := Lib.hid hb0; have HSG := Lib.hid hsg
                clear hn2 hP2 hBP hXd hYd hgo hbad hb0 hj hsg
                by_cases hy0 : Y = 0
                · have hy1 : ((Y : Int) == 0) = true := by simp [hy0]
                  have hy2 : ((Y : Int) != 0) = false := by simp [hy0]
                  have hgo := HGO2.out ⟨HSG.out, HB0.out, hy0⟩
                  have hor2 := u32_or_nat m P2 (by omega) (by omega)
                  have hor3 := u32_or_nat p P2 (by omega) (by omega)
                  have hm2 : (m ||| P2) < 2 ^ 24 := Nat.or_lt_two_pow hm e2
                  have hp2 : (p ||| P2) < 2 ^ 24 := Nat.or_lt_two_pow hp e2
                  obtain ⟨M2, hM2⟩ : ∃ M2, M2 = m ||| P2 := ⟨_, rfl⟩
                  obtain ⟨Q2, hQ2⟩ : ∃ M2, M2 = p ||| P2 := ⟨_, rfl⟩
                  rw [← hM2] at hor2 hm2 hgo
                  rw [← hQ2] at hor3 hp2 hgo
                  rcases hC3 with hC3 | hC3
                  · rw [if_neg (by omega)] at hgo
                    have HG := Lib.hid hgo
                    have s1 : ((C : Int) == 43) = true := by simp [hC3]
                    have s1n : ((C : Int) != 43) = false := by simp [hC3]
                    clear hgo hy0 hC3 hM2 hQ2
                    go_wp2_with fail
                    go_roundw
                    case rel => exact ⟨q, n, Q2, m, rfl, rfl, rfl, by omega, by omega, hp2, hm, HG.out.symm, HX3⟩
                    case measure => simp [intOf]; omega
                  · rw [if_pos hC3] at hgo
                    have HG := Lib.hid hgo
                    have s1 : ((C : Int) == 43) = false := by simp [hC3]
                    have s2 : ((C : Int) == 45) = true := by simp [hC3]
                    have s1n : ((C : Int) != 43) = true := by simp [hC3]
                    have s2n : ((C : Int) != 45) = false := by simp [hC3]
                    clear hgo hy0 hC3 hM2 hQ2
                    go_wp2_with fail
                    go_roundw
                    case rel => exact ⟨q, n, p, M2, rfl, rfl, rfl, by omega, by omega, hp, hm2, HG.out.symm, HX3⟩
                    case measure => simp [intOf]; omega
                · have hy1 : ((Y : Int) == 0) = false := by simp; omega
                  have hy2 : ((Y : Int) != 0) = true := by simp; omega
                  have HF := Lib.hid (HFIN.out _ _ _ _ w3 (HBV.out (HBAD2.out (fun h => hy0 h.2.2))) HB3.out)
                  rcases hC3 with hC3 | hC3
                  · have s1 : ((C : Int) == 43) = true := by simp [hC3]
                    have s1n : ((C : Int) != 43) = false := by simp [hC3]
                    clear hy0 hC3
                    go_wp2_with fail
                    refine bodyPost_ret (v := .tuple #[.int .u32 0, .int .u32 0, .int .i64 t, .int .i64 20]) (by simp [results, Try.results30, go_sem, *]) rfl HF.out
                  · have s1 : ((C : Int) == 43) = false := by simp [hC3]
                    have s2 : ((C : Int) == 45) = true := by simp [hC3]
                    have s1n : ((C : Int) != 43) = true := by simp [hC3]
                    have s2n : ((C : Int) != 45) = false := by simp [hC3]
                    clear hy0 hC3
                    go_wp2_with fail
                    refine bodyPost_ret (v := .tuple #[.int .u32 0, .int .u32 0, .int .i64 t, .int .i64 20]) (by simp [results, Try.results30, go_sem, *]) rfl HF.out
            · have HF := Lib.hid (HFIN.out _ _ _ _ w3 (HBV.out (HBAD.out (fun h => hsg h.1))) HB3.out)
              have hC3 : C ≠ 43 ∧ C ≠ 45 := by
                unfold isSg at hsg
                rw [Bool.or_eq_true, decide_eq_true_eq, decide_eq_true_eq] at hsg
                omega
              have s1 : ((C : Int) == 43) = false := by rw [beq_eq_false_iff_ne]; omega
              have s2 : ((C : Int) == 45) = false := by rw [beq_eq_false_iff_ne]; omega
              have s1n : ((C : Int) != 43) = true := by rw [bne, s1]; rfl
              have s2n : ((C : Int) != 45) = true := by rw [bne, s2]; rfl
              clear hC3 hsg
              go_wp2_with fail
              refine bodyPost_ret (v := .tuple #[.int .u32 0, .int .u32 0, .int .i64 t, .int .i64 20]) (by simp [results, Try.results30, go_sem, *]) rfl HF.out
    · obtain rfl : t = s.size := by omega
      have hr := HP.out
      rw [parF_end _ _ _ _ _ _ htn] at hr
      simp only [Prod.mk.injEq] at hr
      obtain ⟨r1, r2, r3, r4⟩ := hr
      have HF := Lib.hid (show Ending.returned (.tuple #[.int .u32 p, .int .u32 m, .int .i64 0, .int .i64 0]) = Ending.returned (.tuple #[.int .u32 R1, .int .u32 R2, .int .i64 R3, .int .i64 R4]) ∧ Below w.heap.size w wr from ⟨by rw [← r1, ← r2, ← r3, ← r4]; rfl, HX.out.below⟩)
      clear r1 r2 r3 r4
      go_wp2_with fail
      refine bodyPost_ret (v := .tuple #[.int .u32 p, .int .u32 m, .int .i64 0, .int .i64 0]) (by simp [results, Try.results30, go_sem, *]) rfl HF.out
end Go.Proofs.Ytmbekgfbnapelaa
