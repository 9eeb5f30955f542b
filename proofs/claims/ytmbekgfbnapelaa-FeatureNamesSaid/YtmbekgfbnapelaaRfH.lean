/-
  WALKS: cognateref02.Near.
-/
import Derived.Test.YtmbekgfbnapelaaRfG
namespace Go.Proofs.Ytmbekgfbnapelaa
open Go.RowKit Go.Lib
set_option linter.unusedVariables false

theorem near2_cases (A : Al) (r : Int) (p m : Nat) (hb : ∀ l ∈ A.ls, l.p < 4294967296 ∧ l.m < 4294967296 ∧ -2147483648 ≤ l.r ∧ l.r ≤ 2147483647) (hp : p < 4294967296) (hm : m < 4294967296) : (∃ E : Int, E ≠ 0 ∧ askE A [r] = E ∧ nearR A r p m = (0, E)) ∨
    (∃ j, j < A.ls.length ∧ A.ok = true ∧ askE A [r] = 0 ∧ fnd A.ls r 0 = (j : Int) ∧ ((clsB A.fs.length p m = false ∧ nearR A r p m = (0, 20)) ∨ (clsB A.fs.length p m = true ∧ ∃ J, J < A.ls.length ∧ nearR A r p m = ((A.ls.getD J default).r, 0) ∧
      (∀ i, i < A.ls.length → sgn (A.ls.getD J default) (trn (A.ls.getD j default) p m).p (trn (A.ls.getD j default) p m).m 24 ≤ sgn (A.ls.getD i default) (trn (A.ls.getD j default) p m).p (trn (A.ls.getD j default) p m).m 24) ∧
      (∀ i, i < J → sgn (A.ls.getD J default) (trn (A.ls.getD j default) p m).p (trn (A.ls.getD j default) p m).m 24 < sgn (A.ls.getD i default) (trn (A.ls.getD j default) p m).p (trn (A.ls.getD j default) p m).m 24)))) := by
  rcases of_cases A r with ⟨E, hE, ha, ho⟩ | ⟨j, hj, hok, ha, hf, ho⟩
  · refine Or.inl ⟨E, hE, ha, ?_⟩
    have h2 : (ofR A r).2 = E := by rw [ho]
    have hl : lacR A r p m = (zeroL, E) := by rw [lacR_err (by rw [h2]; exact hE), h2]
    unfold nearR
    rw [hl, if_neg hE]
  · refine Or.inr ⟨j, hj, hok, ha, hf, ?_⟩
    have h2 : (ofR A r).2 = 0 := by rw [ho]
    cases hc : clsB A.fs.length p m with
    | false =>
      have hl : lacR A r p m = (zeroL, 20) := lacR_cls h2 hc
      refine Or.inl ⟨rfl, ?_⟩
      unfold nearR
      rw [hl, if_neg (by decide)]
    | true =>
      have hl : lacR A r p m = (A.ls.getD j default, 0) := by rw [lacR_ok h2 hc, ho]
      refine Or.inr ⟨rfl, ?_⟩
      rcases nearR_cases A r p m hb hp hm with ⟨e, he, hn⟩ | ⟨lx, J, hJ, _, hx, _, hn, _, h3, h4, _⟩
      · have : nearR A r p m = ((nearSt (trn (lacR A r p m).1 p m) A.ls 0 25).1, 0) := by unfold nearR; rw [if_pos (by rw [hl])]
        rw [this] at hn
        exact absurd (congrArg Prod.snd hn).symm he
      · rw [ho] at hx
        obtain rfl : A.ls.getD j default = lx := congrArg Prod.fst hx
        exact ⟨J, hJ, hn, h3, h4⟩

set_option maxHeartbeats 4000000 in
set_option maxRecDepth 100000 in
theorem rnear_any (A : Al) (r : Int) (p m : Nat) (w : World) (hA : A.In w) (hp : p < 4294967296) (hm : m < 4294967296) :
    Calls Try.prog 21 #[A.v, .int .i32 r, .int .u32 p, .int .u32 m] w fun e w' => e = .returned (.tuple #[.int .i32 (nearR A r p m).1, .int .i64 (nearR A r p m).2]) ∧ Below w.heap.size w w' := by
  have ka : ∀ b W, A.In W → W.cell? ⟨b, 0, none⟩ = some (.int .i32 r) → Calls Try.prog 65 #[A.v, .slice (some ⟨b, 0, none⟩) 1 1] W (RchkPost (askE A [r]) W) := fun b W h1 h2 => rasked_any A _ b 0 1 [r] W h1 (rs_at h2)
  unfold RchkPost at ka
  rcases near2_cases A r p m hA.L.bits hp hm with ⟨E, hE, ha, ho⟩ | ⟨j, hj, hok, ha, hf, hcase⟩
  · rw [ha] at ka
    rw [ho]
    obtain ⟨pf, pl, nf, cf, nl, cl, hv, hnf, hnl, hpl, hcl, hpf, hcf⟩ := A.parts
    rw [hv] at ka ⊢
    have hE' : (E == 0) = false := by rw [beq_eq_false_iff_ne]; exact hE
    have KA := Lib.hid ka; have HA := Lib.hid hA
    clear ka hA hv hnf hnl hpl hcl hpf hcf ha ho hE
    go_enter Try.func21, Try.ntmps21
    go_wp2_with fail
    refine (KA.out _ _ ((HA.out.alloc _).alloc _) (cell_new _ _ (by simp) _ _)).mono ?_
    rintro e w1 ⟨rfl, hb1⟩
    have HB1 := Lib.hid ((((Below.refl _ _).alloc (Nat.le_refl _) _).alloc (by simp) _).trans (hb1.mono (B' := w.heap.size) (by simp; omega)))
    clear hb1
    go_wp2_with fail
    go_ret2
    exact ⟨rfl, HB1.out⟩
  · rw [ha] at ka
    have h24 := Al.ok24 hok
    have km : ∀ W, Calls Try.prog 67 #[A.v, .int .u32 p, .int .u32 m] W fun e w' => e = .returned (.bool (clsB A.fs.length p m)) ∧ Below W.heap.size W w' := fun W => rmay_any A.pf A.pl A.cf A.fs.length A.ls.length A.cl p m W h24 hp hm
    rcases hcase with ⟨hc, ho⟩ | ⟨hc, J, hJ, ho, h3, h4⟩
    · rw [ho]
      rw [hc] at km
      obtain ⟨pf, pl, nf, cf, nl, cl, hv, hnf, hnl, hpl, hcl, hpf, hcf⟩ := A.parts
      rw [hv] at ka km ⊢
      have hs : Bx A (.slice pf nf cf) (.slice pl nl cl) w w.heap.size (w.alloc (.cells #[.slice pf nf cf, .slice pl nl cl] 26)) := Bx.start hA
      have KA := Lib.hid ka; have KM := Lib.hid km; have HS := Lib.hid hs
      clear ka km hA hv hnf hnl hpl hcl hpf hcf ha ho hs hc hok h24 hf hj
      go_enter Try.func21, Try.ntmps21
      go_wp2_with fail
      refine (KA.out _ _ (HS.out.alloc _).i (cell_new _ _ (by simp) _ _)).mono ?_
      rintro e w1 ⟨rfl, hb1⟩
      have hx1 := (HS.out.alloc _).next hb1
      obtain ⟨c0, c1, hltb⟩ : w1.cell? ⟨w.heap.size, 0, none⟩ = some (.slice pf nf cf) ∧ w1.cell? ⟨w.heap.size, 1, none⟩ = some (.slice pl nl cl) ∧ w.heap.size < w1.heap.size := ⟨hx1.c0, hx1.c1, hx1.lt⟩
      have HB1 := Lib.hid hx1.below
      clear hb1 hx1
      go_wp2_with fail
      refine (KM.out _).mono ?_
      rintro e w2 ⟨rfl, hb2⟩
      have HB2 := Lib.hid (HB1.out.trans (hb2.mono HB1.out.size))
      clear hb2
      go_wp2_with fail
      go_ret2
      exact ⟨rfl, HB2.out⟩
    · rw [ho]
      rw [hc] at km
      have h128 := (Al.ok_ltrs hok).2
      have kf := fun W h => rfind_any A r W h h128
      rw [hf] at kf
      have hat := hA.L.at_
      have hL := fun W (h : A.In W) => h.L
      have hbits := hA.L.get j hj
      have klk := fun W (h : A.In W) => rnearest_any A (A.ls.getD j default) p m J W h ⟨hbits.1, hbits.2.1⟩ hp hm hok hJ h3 h4
      obtain ⟨ls, hls⟩ : ∃ l, l = A.ls := ⟨_, rfl⟩
      obtain ⟨bl, hbl⟩ : ∃ l, l = A.bl := ⟨_, rfl⟩
      obtain ⟨l0, hl0⟩ : ∃ l, l = A.l0 := ⟨_, rfl⟩
      obtain ⟨pf, pl, nf, cf, nl, cl, hv, hnf, hnl, hpl, hcl, hpf, hcf⟩ := A.parts
      rw [hv] at ka kf km klk ⊢
      have hcells : ∀ W, A.In W → W.cell? ⟨bl, l0 + j * 3, none⟩ = some (.int .i32 (ls.getD j default).r) ∧ W.cell? ⟨bl, l0 + j * 3 + 1, none⟩ = some (.int .u32 (ls.getD j default).p) ∧ W.cell? ⟨bl, l0 + j * 3 + 2, none⟩ = some (.int .u32 (ls.getD j default).m) := fun W h => by
        rw [hls, hbl, hl0]; exact ⟨(hL W h).cr j hj, (hL W h).cp j hj, (hL W h).cm j hj⟩
      obtain rfl : pl = some ⟨bl, l0, none⟩ := by rw [hpl, hbl, hl0]; exact hat (by omega)
      have hjn : j < nl := by rw [hnl]; exact hj
      rw [← hls] at klk ⊢
      obtain ⟨HBq, hHB⟩ : ∃ b, b = (ls.getD J default).r := ⟨_, rfl⟩
      rw [← hHB] at klk ⊢
      obtain ⟨q, hq⟩ : ∃ q, q = ls.getD j default := ⟨_, rfl⟩
      rw [← hq] at hcells klk
      obtain ⟨q, qp, qm⟩ := q
      simp only [] at hcells klk
      have hs : Bx A (.slice pf nf cf) (.slice (some ⟨bl, l0, none⟩) nl cl) w w.heap.size (w.alloc (.cells #[.slice pf nf cf, .slice (some ⟨bl, l0, none⟩) nl cl] 26)) := Bx.start hA
      have KA := Lib.hid ka; have KF := Lib.hid kf; have KM := Lib.hid km; have HS := Lib.hid hs; have HC := Lib.hid hcells; have KLK := Lib.hid klk
      clear ka kf km klk hA hs hv hnf hnl hpl hcl hpf hcf ha ho hok hf hat hL hls hbl hl0 hcells hj hq h128 h24 hc hHB hbits hJ h3 h4
      go_enter Try.func21, Try.ntmps21
      go_wp2_with fail
      refine (KA.out _ _ (HS.out.alloc _).i (cell_new _ _ (by simp) _ _)).mono ?_
      rintro e w1 ⟨rfl, hb1⟩
      have hx1 := (HS.out.alloc _).next hb1
      obtain ⟨c0, c1, hltb⟩ : w1.cell? ⟨w.heap.size, 0, none⟩ = some (.slice pf nf cf) ∧ w1.cell? ⟨w.heap.size, 1, none⟩ = some (.slice (some ⟨bl, l0, none⟩) nl cl) ∧ w.heap.size < w1.heap.size := ⟨hx1.c0, hx1.c1, hx1.lt⟩
      have HX1 := Lib.hid hx1
      clear hb1 hx1
      go_wp2_with fail
      refine (KM.out _).mono ?_
      rintro e w2 ⟨rfl, hb2⟩
      have hx2 := HX1.out.next hb2
      have HX2 := Lib.hid hx2
      clear c0 c1 hltb
      obtain ⟨c0, c1, hltb⟩ : w2.cell? ⟨w.heap.size, 0, none⟩ = some (.slice pf nf cf) ∧ w2.cell? ⟨w.heap.size, 1, none⟩ = some (.slice (some ⟨bl, l0, none⟩) nl cl) ∧ w.heap.size < w2.heap.size := ⟨hx2.c0, hx2.c1, hx2.lt⟩
      clear hb2 hx2
      go_wp2_with fail
      have C := Lib.hid (fun W (hb : Below w2.heap.size w2 W) => (KF.out W (HX2.out.i.next hb)).mono fun e w' (h : e = _ ∧ Below W.heap.size W w') => (⟨h.1, hb.trans (h.2.mono hb.size)⟩ : e = _ ∧ Below w2.heap.size w2 w'))
      have CL := Lib.hid (fun W (hb : Below w2.heap.size w2 W) => (KLK.out W (HX2.out.i.next hb)).mono fun e w' (h : e = _ ∧ Below W.heap.size W w') => (⟨h.1, hb.trans (h.2.mono hb.size)⟩ : e = _ ∧ Below w2.heap.size w2 w'))
      obtain ⟨a0, a1, a2⟩ := HC.out w2 HX2.out.i
      have hbl1 : bl < w2.heap.size := lt_of_cell a0
      have HBW := Lib.hid HX2.out.below
      go_region_held3 (fun w' => Below w2.heap.size w2 w' ∧ w'.cell? ⟨w.heap.size, 0, none⟩ = some (.slice pf nf cf) ∧ w'.cell? ⟨w.heap.size, 1, none⟩ = some (.slice (some ⟨bl, l0, none⟩) nl cl) ∧ w'.cell? ⟨bl, l0 + j * 3, none⟩ = some (.int .i32 q) ∧ w'.cell? ⟨bl, l0 + j * 3 + 1, none⟩ = some (.int .u32 qp) ∧ w'.cell? ⟨bl, l0 + j * 3 + 2, none⟩ = some (.int .u32 qm)) (first | exact ⟨(Below.refl _ _).drew, c0, c1, a0, a1, a2⟩ | exact ⟨hacc, (hacc.cell (p := ⟨w.heap.size, 0, none⟩) hltb).trans c0, (hacc.cell (p := ⟨w.heap.size, 1, none⟩) hltb).trans c1, (hacc.cell (p := ⟨bl, l0 + j * 3, none⟩) hbl1).trans a0, (hacc.cell (p := ⟨bl, l0 + j * 3 + 1, none⟩) hbl1).trans a1, (hacc.cell (p := ⟨bl, l0 + j * 3 + 2, none⟩) hbl1).trans a2⟩) (first | (go_at_call 66; refine (C.out _ (by first | exact (Below.refl _ _).drew | exact hacc | exact hacc.drew)).mono ?_; rintro _ w3 ⟨rfl, hacc⟩) | (go_at_call 70; refine (CL.out _ (by first | exact (Below.refl _ _).drew | exact hacc | exact hacc.drew)).mono ?_; rintro _ w4 ⟨rfl, hacc⟩))
      all_goals
        (try go_wp2_with fail)
        go_ret2
        exact ⟨rfl, HBW.out.trans (hacc.mono HBW.out.size)⟩
end Go.Proofs.Ytmbekgfbnapelaa
