/-
  WALKS: cognateref02.Far.
-/
import Derived.Test.YtmbekgfbnapelaaRfE
namespace Go.Proofs.Ytmbekgfbnapelaa
open Go.RowKit Go.Lib
set_option linter.unusedVariables false

theorem rs_two {W : World} {b : Nat} {x y : Int} (h : W.cell? ⟨b, 0, none⟩ = some (.int .i32 x)) (h2 : W.cell? ⟨b, 1, none⟩ = some (.int .i32 y)) : RsIn (some ⟨b, 0, none⟩) b 0 [x, y] W :=
  ⟨fun _ => rfl, fun j hj => by
    have : j = 0 ∨ j = 1 := by simp at hj; omega
    rcases this with rfl | rfl
    · exact h
    · exact h2, by simp⟩
theorem cell_new2 (W : World) (b : Nat) (hb : b = W.heap.size) (v u : Value) (t : TypeId) : (W.alloc (.cells #[v, u] t)).cell? ⟨b, 0, none⟩ = some v ∧ (W.alloc (.cells #[v, u] t)).cell? ⟨b, 1, none⟩ = some u := by subst hb; simp
theorem getD_mem {ls : List Ltr} {j : Nat} (hj : j < ls.length) : ls.getD j default ∈ ls := by
  rw [List.getD_eq_getElem?_getD, List.getElem?_eq_getElem hj]; exact List.getElem_mem hj
theorem far2_cases (A : Al) (x y : Int) (hb : ∀ l ∈ A.ls, l.p < 4294967296 ∧ l.m < 4294967296 ∧ -2147483648 ≤ l.r ∧ l.r ≤ 2147483647) : (∃ E : Int, E ≠ 0 ∧ askE A [x, y] = E ∧ farR A x y = (0, E)) ∨
    (∃ j k, j < A.ls.length ∧ k < A.ls.length ∧ A.ok = true ∧ askE A [x, y] = 0 ∧ fnd A.ls x 0 = (j : Int) ∧ fnd A.ls y 0 = (k : Int) ∧ farR A x y = (sgn (A.ls.getD j default) (A.ls.getD k default).p (A.ls.getD k default).m 24, 0)) := by
  rcases of_cases A x with ⟨E, hE, ha, ho⟩ | ⟨j, hj, hok, ha, hf, ho⟩
  · refine Or.inl ⟨E, hE, ?_, ?_⟩
    · cases hok : A.ok with
      | false => unfold askE at ha ⊢; rw [hok] at ha ⊢; exact ha
      | true =>
        unfold askE at ha ⊢
        rw [hok] at ha ⊢
        have hb1 : askB A.ls [x] = false := by
          cases hb : askB A.ls [x] with
          | false => rfl
          | true => rw [hb] at ha; exact absurd ha.symm hE
        have hb2 : askB A.ls [x, y] = false := by
          unfold askB at hb1 ⊢
          rw [List.all_cons] at hb1 ⊢
          simp only [List.all_nil, Bool.and_true] at hb1
          rw [hb1]; rfl
        rw [hb1] at ha
        rw [hb2]; exact ha
    · have h2 : (ofR A x).2 = E := by rw [ho]
      unfold farR
      rw [if_neg (by rw [h2]; exact hE), h2]
  · have h2 : (ofR A x).2 = 0 := by rw [ho]
    have hx0 : decide (0 ≤ fnd A.ls x 0) = true := decide_eq_true (by omega)
    rcases fnd_findL A.ls y with ⟨h1, h3⟩ | ⟨k, hk, h1, h3⟩
    · refine Or.inl ⟨5, by decide, ?_, ?_⟩
      · unfold askE askB; rw [hok]; simp [h3]
      · have hl : lofR A.ls y = (zeroL, 5) := by unfold lofR; rw [h1]
        unfold farR
        rw [if_pos h2, hl, if_neg (by decide)]
    · refine Or.inr ⟨j, k, hj, hk, hok, ?_, hf, h3, ?_⟩
      · unfold askE askB; rw [hok]; simp [hf, h3]
      · have hl : lofR A.ls y = (A.ls.getD k default, 0) := by unfold lofR; rw [h1]
        have h24 := Al.ok24 hok
        have hbig : 2 ^ A.fs.length ≤ 2 ^ 24 := Nat.pow_le_pow_right (by decide) h24
        obtain ⟨_, _, a1, a2⟩ := Al.in_ok hok hb (getD_mem hj)
        obtain ⟨_, _, b1, b2⟩ := Al.in_ok hok hb (getD_mem hk)
        unfold farR
        rw [if_pos h2, hl, if_pos rfl, ho, unl_symm, sgn_unl _ _ (by omega) (by omega) (by omega) (by omega)]

set_option maxHeartbeats 4000000 in
set_option maxRecDepth 100000 in
theorem rfar_any (A : Al) (x y : Int) (w : World) (hA : A.In w) :
    Calls Try.prog 20 #[A.v, .int .i32 x, .int .i32 y] w fun e w' => e = .returned (.tuple #[.int .i64 (farR A x y).1, .int .i64 (farR A x y).2]) ∧ Below w.heap.size w w' := by
  have ka : ∀ b W, A.In W → W.cell? ⟨b, 0, none⟩ = some (.int .i32 x) ∧ W.cell? ⟨b, 1, none⟩ = some (.int .i32 y) → Calls Try.prog 65 #[A.v, .slice (some ⟨b, 0, none⟩) 2 2] W (RchkPost (askE A [x, y]) W) := fun b W h1 h2 => rasked_any A _ b 0 2 [x, y] W h1 (rs_two h2.1 h2.2)
  unfold RchkPost at ka
  rcases far2_cases A x y hA.L.bits with ⟨E, hE, ha, ho⟩ | ⟨j, k, hj, hk, hok, ha, hf, hg, ho⟩
  · rw [ha] at ka
    rw [ho]
    obtain ⟨pf, pl, nf, cf, nl, cl, hv, hnf, hnl, hpl, hcl, hpf, hcf⟩ := A.parts
    rw [hv] at ka ⊢
    have hE' : (E == 0) = false := by rw [beq_eq_false_iff_ne]; exact hE
    have KA := Lib.hid ka; have HA := Lib.hid hA
    clear ka hA hv hnf hnl hpl hcl hpf hcf ha ho hE
    go_enter Try.func20, Try.ntmps20
    go_wp2_with fail
    refine (KA.out _ _ ((HA.out.alloc _).alloc _) (cell_new2 _ _ (by simp) _ _ _)).mono ?_
    rintro e w1 ⟨rfl, hb1⟩
    have HB1 := Lib.hid ((((Below.refl _ _).alloc (Nat.le_refl _) _).alloc (by simp) _).trans (hb1.mono (B' := w.heap.size) (by simp; omega)))
    clear hb1
    go_wp2_with fail
    go_ret2
    exact ⟨rfl, HB1.out⟩
  · rw [ha] at ka
    rw [ho]
    have h128 := (Al.ok_ltrs hok).2
    have kf := fun W h => rfind_any A x W h h128
    have kg := fun W h => rfind_any A y W h h128
    rw [hf] at kf
    rw [hg] at kg
    have hat := hA.L.at_
    have hL := fun W (h : A.In W) => h.L
    have hbx := hA.L.get j hj
    have hby := hA.L.get k hk
    have ku := fun W => runlike_any (A.ls.getD j default) (A.ls.getD k default) W ⟨hbx.1, hbx.2.1⟩ ⟨hby.1, hby.2.1⟩
    obtain ⟨ls, hls⟩ : ∃ l, l = A.ls := ⟨_, rfl⟩
    obtain ⟨bl, hbl⟩ : ∃ l, l = A.bl := ⟨_, rfl⟩
    obtain ⟨l0, hl0⟩ : ∃ l, l = A.l0 := ⟨_, rfl⟩
    obtain ⟨pf, pl, nf, cf, nl, cl, hv, hnf, hnl, hpl, hcl, hpf, hcf⟩ := A.parts
    rw [hv] at ka kf kg ⊢
    have hcells : ∀ i, i < A.ls.length → ∀ W, A.In W → W.cell? ⟨bl, l0 + i * 3, none⟩ = some (.int .i32 (ls.getD i default).r) ∧ W.cell? ⟨bl, l0 + i * 3 + 1, none⟩ = some (.int .u32 (ls.getD i default).p) ∧ W.cell? ⟨bl, l0 + i * 3 + 2, none⟩ = some (.int .u32 (ls.getD i default).m) := fun i hi W h => by
      rw [hls, hbl, hl0]; exact ⟨(hL W h).cr i hi, (hL W h).cp i hi, (hL W h).cm i hi⟩
    have hcx := hcells j hj
    have hcy := hcells k hk
    obtain rfl : pl = some ⟨bl, l0, none⟩ := by rw [hpl, hbl, hl0]; exact hat (by omega)
    have hjn : j < nl := by rw [hnl]; exact hj
    have hkn : k < nl := by rw [hnl]; exact hk
    rw [← hls] at ku ⊢
    obtain ⟨U, hU⟩ : ∃ b, b = sgn (ls.getD j default) (ls.getD k default).p (ls.getD k default).m 24 := ⟨_, rfl⟩
    rw [← hU] at ku ⊢
    obtain ⟨q, hq⟩ : ∃ q, q = ls.getD j default := ⟨_, rfl⟩
    obtain ⟨t, ht⟩ : ∃ q, q = ls.getD k default := ⟨_, rfl⟩
    rw [← hq] at hcx ku
    rw [← ht] at hcy ku
    obtain ⟨q, qp, qm⟩ := q
    obtain ⟨t, tp, tm⟩ := t
    simp only [] at hcx hcy ku
    have hs : Bx A (.slice pf nf cf) (.slice (some ⟨bl, l0, none⟩) nl cl) w w.heap.size (w.alloc (.cells #[.slice pf nf cf, .slice (some ⟨bl, l0, none⟩) nl cl] 26)) := Bx.start hA
    have KA := Lib.hid ka; have KF := Lib.hid kf; have KG := Lib.hid kg; have HS := Lib.hid hs; have HCX := Lib.hid hcx; have HCY := Lib.hid hcy; have KU := Lib.hid ku
    clear ka kf kg ku hA hs hv hnf hnl hpl hcl hpf hcf ha ho hok hf hg hat hL hls hbl hl0 hcells hcx hcy hj hk hq ht h128 hU hbx hby
    go_enter Try.func20, Try.ntmps20
    go_wp2_with fail
    refine (KA.out _ _ (HS.out.alloc _).i (cell_new2 _ _ (by simp) _ _ _)).mono ?_
    rintro e w2 ⟨rfl, hb1⟩
    have hx1 := (HS.out.alloc _).next hb1
    obtain ⟨c0, c1, hltb⟩ : w2.cell? ⟨w.heap.size, 0, none⟩ = some (.slice pf nf cf) ∧ w2.cell? ⟨w.heap.size, 1, none⟩ = some (.slice (some ⟨bl, l0, none⟩) nl cl) ∧ w.heap.size < w2.heap.size := ⟨hx1.c0, hx1.c1, hx1.lt⟩
    have HX2 := Lib.hid hx1
    clear hb1 hx1
    go_wp2_with fail
    have C := Lib.hid (fun W (hb : Below w2.heap.size w2 W) => (KF.out W (HX2.out.i.next hb)).mono fun e w' (h : e = _ ∧ Below W.heap.size W w') => (⟨h.1, hb.trans (h.2.mono hb.size)⟩ : e = _ ∧ Below w2.heap.size w2 w'))
    have CG := Lib.hid (fun W (hb : Below w2.heap.size w2 W) => (KG.out W (HX2.out.i.next hb)).mono fun e w' (h : e = _ ∧ Below W.heap.size W w') => (⟨h.1, hb.trans (h.2.mono hb.size)⟩ : e = _ ∧ Below w2.heap.size w2 w'))
    have CU := Lib.hid (fun W (hb : Below w2.heap.size w2 W) => (KU.out W).mono fun e w' (h : e = _ ∧ Below W.heap.size W w') => (⟨h.1, hb.trans (h.2.mono hb.size)⟩ : e = _ ∧ Below w2.heap.size w2 w'))
    obtain ⟨a0, a1, a2⟩ := HCX.out w2 HX2.out.i
    obtain ⟨b0, b1, b2⟩ := HCY.out w2 HX2.out.i
    have hbl1 : bl < w2.heap.size := lt_of_cell a0
    have HBW := Lib.hid HX2.out.below
    go_region_held3 (fun w' => Below w2.heap.size w2 w' ∧ w'.cell? ⟨w.heap.size, 0, none⟩ = some (.slice pf nf cf) ∧ w'.cell? ⟨w.heap.size, 1, none⟩ = some (.slice (some ⟨bl, l0, none⟩) nl cl) ∧ w'.cell? ⟨bl, l0 + j * 3, none⟩ = some (.int .i32 q) ∧ w'.cell? ⟨bl, l0 + j * 3 + 1, none⟩ = some (.int .u32 qp) ∧ w'.cell? ⟨bl, l0 + j * 3 + 2, none⟩ = some (.int .u32 qm) ∧ w'.cell? ⟨bl, l0 + k * 3, none⟩ = some (.int .i32 t) ∧ w'.cell? ⟨bl, l0 + k * 3 + 1, none⟩ = some (.int .u32 tp) ∧ w'.cell? ⟨bl, l0 + k * 3 + 2, none⟩ = some (.int .u32 tm)) (first | exact ⟨(Below.refl _ _).drew, c0, c1, a0, a1, a2, b0, b1, b2⟩ | exact ⟨hacc, (hacc.cell (p := ⟨w.heap.size, 0, none⟩) hltb).trans c0, (hacc.cell (p := ⟨w.heap.size, 1, none⟩) hltb).trans c1, (hacc.cell (p := ⟨bl, l0 + j * 3, none⟩) hbl1).trans a0, (hacc.cell (p := ⟨bl, l0 + j * 3 + 1, none⟩) hbl1).trans a1, (hacc.cell (p := ⟨bl, l0 + j * 3 + 2, none⟩) hbl1).trans a2, (hacc.cell (p := ⟨bl, l0 + k * 3, none⟩) hbl1).trans b0, (hacc.cell (p := ⟨bl, l0 + k * 3 + 1, none⟩) hbl1).trans b1, (hacc.cell (p := ⟨bl, l0 + k * 3 + 2, none⟩) hbl1).trans b2⟩) (first | (go_at_call 66; (with_reducible first | refine (C.out _ (by first | exact (Below.refl _ _).drew | exact hacc | exact hacc.drew)).mono ?_ | refine (CG.out _ (by first | exact (Below.refl _ _).drew | exact hacc | exact hacc.drew)).mono ?_); rintro _ w3 ⟨rfl, hacc⟩) | (go_at_call 69; refine (CU.out _ (by first | exact (Below.refl _ _).drew | exact hacc | exact hacc.drew)).mono ?_; rintro _ w4 ⟨rfl, hacc⟩))
    all_goals
      (try go_wp2_with fail)
      go_ret2
      exact ⟨rfl, HBW.out.trans (hacc.mono HBW.out.size)⟩
end Go.Proofs.Ytmbekgfbnapelaa
