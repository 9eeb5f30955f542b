/-
  WALKS: cognateref02.Parse whole, Least.
-/
import Derived.Test.YtmbekgfbnapelaaRfK
import Derived.Deep.CutRange
namespace Go.Proofs.Ytmbekgfbnapelaa
open Go.RowKit Go.Lib
set_option linter.unusedVariables false

set_option maxHeartbeats 1000000 in
set_option maxRecDepth 100000 in
theorem rparse_any (A : Al) (s : ByteArray) (w : World) (hA : A.In w) :
    Calls Try.prog 30 #[A.v, .string s] w (ParPost (parR A s) w) := by
  cases hok : A.ok with
  | false =>
    have hx : parR A s = (0, 0, 0, 7) := by unfold parR; rw [hok]; rfl
    rw [hx]
    unfold ParPost
    have ka := fun W h => rasked_nil A W h
    unfold RchkPost at ka
    rw [chk_no hok] at ka
    obtain ⟨pf, pl, nf, cf, nl, cl, hv, hnf, hnl, hpl, hcl, hpf, hcf⟩ := A.parts
    rw [hv] at ka ⊢
    have KA := Lib.hid ka; have HA := Lib.hid hA
    clear ka hA hv hnf hnl hpl hcl hpf hcf hok hx
    go_enter Try.func30, Try.ntmps30
    go_wp2_with fail
    refine (KA.out _ (HA.out.alloc _)).mono ?_
    rintro e w1 ⟨rfl, hb1⟩
    have HB := Lib.hid (show Below w.heap.size w w1 from ((Below.refl _ _).alloc (Nat.le_refl _) _).trans (hb1.mono (by simp)))
    clear hb1
    go_wp2_with fail
    refine bodyPost_ret (v := .tuple #[.int .u32 0, .int .u32 0, .int .i64 0, .int .i64 7]) (by simp [results, Try.results30, go_sem, *]) rfl ⟨rfl, HB.out⟩
  | true =>
    by_cases hs : 65536 < s.size
    · have hx : parR A s = (0, 0, 0, 3) := by unfold parR; rw [hok, if_pos rfl, if_pos hs]
      rw [hx]
      unfold ParPost
      have ka := fun W h => rasked_nil A W h
      unfold RchkPost at ka
      rw [chk_ok hok] at ka
      obtain ⟨pf, pl, nf, cf, nl, cl, hv, hnf, hnl, hpl, hcl, hpf, hcf⟩ := A.parts
      rw [hv] at ka ⊢
      have KA := Lib.hid ka; have HA := Lib.hid hA
      have hc1 : (65536 : Int) < (s.size : Int) := by omega
      clear ka hA hv hnf hnl hpl hcl hpf hcf hok hx hs
      go_enter Try.func30, Try.ntmps30
      go_wp2_with fail
      refine (KA.out _ (HA.out.alloc _)).mono ?_
      rintro e w1 ⟨rfl, hb1⟩
      have HB := Lib.hid (show Below w.heap.size w w1 from ((Below.refl _ _).alloc (Nat.le_refl _) _).trans (hb1.mono (by simp)))
      clear hb1
      go_wp2_with fail
      refine bodyPost_ret (v := .tuple #[.int .u32 0, .int .u32 0, .int .i64 0, .int .i64 3]) (by simp [results, Try.results30, go_sem, *]) rfl ⟨rfl, HB.out⟩
    · have hx : parR A s = parF A.fs s (s.size + 1) 0 0 0 := by unfold parR; rw [hok, if_pos rfl, if_neg hs]
      rw [hx]
      exact rparse_ok A s w hA hok (by omega)

theorem lof_fnd (ls : List Ltr) (r : Int) : (fnd ls r 0 < 0 ∧ (lofR ls r).2 = 5) ∨ ∃ j, j < ls.length ∧ fnd ls r 0 = (j : Int) ∧ lofR ls r = (ls.getD j default, 0) := by
  rcases fnd_findL ls r with ⟨h1, h2⟩ | ⟨j, hj, h1, h2⟩
  · exact Or.inl ⟨by omega, by unfold lofR; rw [h1]⟩
  · exact Or.inr ⟨j, hj, h2, by unfold lofR; rw [h1]⟩
theorem lstS_bad (ls : List Ltr) : ∀ (l : List Int) (P M : Nat), askB ls l = false → lstS ls l P M = (0, 0, 5)
  | [], _, _, h => by unfold askB at h; cases h
  | r :: l, P, M, h => by
    unfold lstS
    rcases lof_fnd ls r with ⟨h1, h2⟩ | ⟨j, hj, h1, h2⟩
    · rw [if_neg (by rw [h2]; decide), h2]
    · rw [if_pos (by rw [h2])]
      apply lstS_bad ls l
      unfold askB at h ⊢
      rw [List.all_cons, h1] at h
      rw [← h, decide_eq_true (by omega), Bool.true_and]
theorem ask_mem {ls : List Ltr} {l : List Int} (h : askB ls l = true) {k : Nat} (hk : k < l.length) : ∃ j, j < ls.length ∧ fnd ls (l.getD k 0) 0 = (j : Int) ∧ lofR ls (l.getD k 0) = (ls.getD j default, 0) := by
  unfold askB at h
  have := List.all_eq_true.1 h _ (List.getElem_mem hk)
  rw [decide_eq_true_eq] at this
  rw [getD_at hk]
  rcases lof_fnd ls l[k] with ⟨h1, h2⟩ | h
  · omega
  · exact h
/-- A letter in a block. -/
structure L3 (b : Nat) (r : Int) (p m : Nat) (w : World) : Prop where
  c0 : w.cell? ⟨b, 0, none⟩ = some (.int .i32 r)
  c1 : w.cell? ⟨b, 1, none⟩ = some (.int .u32 p)
  c2 : w.cell? ⟨b, 2, none⟩ = some (.int .u32 m)
  lt : b < w.heap.size
theorem L3.made (w : World) (r : Int) (p m : Nat) (t : TypeId) : L3 w.heap.size r p m (w.alloc (.cells #[.int .i32 r, .int .u32 p, .int .u32 m] t)) := ⟨by simp, by simp, by simp, by simp⟩
theorem L3.set {w : World} {b : Nat} {x y z : Value} (h0 : w.cell? ⟨b, 0, none⟩ = some x) (h1 : w.cell? ⟨b, 1, none⟩ = some y) (h2 : w.cell? ⟨b, 2, none⟩ = some z) (r : Int) (p m : Nat) :
    L3 b r p m (((w.setCell ⟨b, 0, none⟩ (.int .i32 r)).setCell ⟨b, 1, none⟩ (.int .u32 p)).setCell ⟨b, 2, none⟩ (.int .u32 m)) := by
  have hlt : b < w.heap.size := lt_of_cell h0
  refine ⟨?_, ?_, ?_, by simpa [World.setCell] using hlt⟩
  · rw [World.cell?_setCell_other _ _ _ _ (by simp), World.cell?_setCell_other _ _ _ _ (by simp)]
    exact World.cell?_setCell_same _ _ _ h0
  · rw [World.cell?_setCell_other _ _ _ _ (by simp)]
    exact World.cell?_setCell_same _ _ _ ((World.cell?_setCell_other _ _ _ _ (by simp)).trans h1)
  · exact World.cell?_setCell_same _ _ _ ((World.cell?_setCell_other _ _ _ _ (by simp)).trans ((World.cell?_setCell_other _ _ _ _ (by simp)).trans h2))
theorem allN_24 {n : Nat} (h : n ≤ 24) : allN n < 4294967296 := Nat.lt_trans (allN_lt h) (by decide)

set_option maxHeartbeats 8000000 in
set_option maxRecDepth 100000 in
theorem rleast_any (A : Al) (pr : Option Addr) (br r0 cr : Nat) (l : List Int) (w : World) (hA : A.In w) (hR : RsIn pr br r0 l w) :
    Calls Try.prog 28 #[A.v, .slice pr l.length cr] w (LstPost (leastR A l) w) := by
  unfold LstPost
  have ka := fun W h => rasked_nil A W h
  have kb := fun W h hb => rasked_any A pr br r0 cr l W h ((hR.next hb) : RsIn pr br r0 l W)
  unfold RchkPost at ka kb
  have hs0 : Bx A (.slice A.pf A.fs.length A.cf) (.slice A.pl A.ls.length A.cl) w w.heap.size (w.alloc (.cells #[.slice A.pf A.fs.length A.cf, .slice A.pl A.ls.length A.cl] 26)) := Bx.start hA
  cases hok : A.ok with
  | false =>
    have hx : leastR A l = (0, 0, 7) := by unfold leastR; rw [hok]; rfl
    rw [hx]
    rw [chk_no hok] at ka
    obtain ⟨n, hn⟩ : ∃ n, n = l.length := ⟨_, rfl⟩
    rw [← hn]
    obtain ⟨pf, pl, nf, cf, nl, cl, hv, hnf, hnl, hpl, hcl, hpf, hcf⟩ := A.parts
    rw [hv] at ka ⊢
    have KA := Lib.hid ka; have HA := Lib.hid hA
    clear ka kb hA hv hnf hnl hpl hcl hpf hcf hok hx hs0 hR hn
    go_enter Try.func28, Try.ntmps28
    go_wp2_with fail
    refine (KA.out _ (HA.out.alloc _)).mono ?_
    rintro e w1 ⟨rfl, hb1⟩
    have HB := Lib.hid (show Below w.heap.size w w1 from ((Below.refl _ _).alloc (Nat.le_refl _) _).trans (hb1.mono (by simp)))
    clear hb1
    go_wp2_with fail
    go_ret3
    exact ⟨rfl, HB.out⟩
  | true =>
    rw [chk_ok hok] at ka
    have hae : askE A l = if askB A.ls l then 0 else 5 := by unfold askE; rw [hok]; rfl
    rw [hae] at kb
    have hlr : leastR A l = if 128 < l.length then (0, 0, 4) else if l.length = 0 then (0, 0, 8) else lstS A.ls l (allN A.fs.length) (allN A.fs.length) := by unfold leastR; rw [hok]; rfl
    rw [hlr]
    have h24 := Al.ok24 hok
    have h128 := (Al.ok_ltrs hok).2
    by_cases hbig : 128 < l.length
    · rw [if_pos hbig]
      obtain ⟨n, hn⟩ : ∃ n, n = l.length := ⟨_, rfl⟩
      rw [← hn] at hbig ⊢
      have z : (128 : Int) < (n : Int) := by omega
      obtain ⟨pf, pl, nf, cf, nl, cl, hv, hnf, hnl, hpl, hcl, hpf, hcf⟩ := A.parts
      rw [hv] at ka ⊢
      have KA := Lib.hid ka; have HA := Lib.hid hA
      clear ka kb hA hv hnf hnl hpl hcl hpf hcf hok hs0 hR hn hbig hae hlr h24 h128
      go_enter Try.func28, Try.ntmps28
      go_wp2_with fail
      refine (KA.out _ (HA.out.alloc _)).mono ?_
      rintro e w1 ⟨rfl, hb1⟩
      have HB := Lib.hid (show Below w.heap.size w w1 from ((Below.refl _ _).alloc (Nat.le_refl _) _).trans (hb1.mono (by simp)))
      clear hb1
      go_wp2_with fail
      go_ret3
      exact ⟨rfl, HB.out⟩
    · rw [if_neg hbig]
      cases hab : askB A.ls l with
      | false =>
        rw [hab] at kb
        have hl0 : l.length ≠ 0 := fun h => by
          rw [List.length_eq_zero_iff.1 h] at hab
          cases hab
        rw [if_neg hl0, lstS_bad _ _ _ _ hab]
        obtain ⟨n, hn⟩ : ∃ n, n = l.length := ⟨_, rfl⟩
        rw [← hn] at hbig kb ⊢
        have z : ¬ (128 : Int) < (n : Int) := by omega
        obtain ⟨pf, pl, nf, cf, nl, cl, hv, hnf, hnl, hpl, hcl, hpf, hcf⟩ := A.parts
        rw [← hnf, ← hnl, ← hpl, ← hcl, ← hpf, ← hcf] at hs0
        rw [hv] at ka kb ⊢
        have KA := Lib.hid ka; have KB := Lib.hid kb; have HX0 := Lib.hid hs0
        clear ka kb hA hv hnf hnl hpl hcl hpf hcf hok hs0 hR hn hbig hae hlr h24 h128 hab hl0
        go_enter Try.func28, Try.ntmps28
        go_wp2_with fail
        refine (KA.out _ HX0.out.i).mono ?_
        rintro e w1 ⟨rfl, hb1⟩
        have hx := HX0.out.next hb1
        obtain ⟨c0, c1, hlt⟩ : w1.cell? ⟨w.heap.size, 0, none⟩ = some (.slice pf nf cf) ∧ w1.cell? ⟨w.heap.size, 1, none⟩ = some (.slice pl nl cl) ∧ w.heap.size < w1.heap.size := ⟨hx.c0, hx.c1, hx.lt⟩
        have HX := Lib.hid hx
        clear hx hb1
        go_wp2_with fail
        refine (KB.out _ HX.out.i HX.out.below).mono ?_
        rintro e w2 ⟨rfl, hb2⟩
        have HB := Lib.hid (HX.out.next hb2).below
        clear hb2
        go_wp2_with fail
        go_ret3
        exact ⟨rfl, HB.out⟩
      | true =>
        rw [hab] at kb
        by_cases hl0 : l.length = 0
        · rw [if_pos hl0]
          obtain ⟨n, hn⟩ : ∃ n, n = l.length := ⟨_, rfl⟩
          rw [← hn] at hl0 kb ⊢
          subst hl0
          obtain ⟨pf, pl, nf, cf, nl, cl, hv, hnf, hnl, hpl, hcl, hpf, hcf⟩ := A.parts
          rw [← hnf, ← hnl, ← hpl, ← hcl, ← hpf, ← hcf] at hs0
          rw [hv] at ka kb ⊢
          have KA := Lib.hid ka; have KB := Lib.hid kb; have HX0 := Lib.hid hs0
          clear ka kb hA hv hnf hnl hpl hcl hpf hcf hok hs0 hR hn hbig hae hlr h24 h128 hab
          go_enter Try.func28, Try.ntmps28
          go_wp2_with fail
          refine (KA.out _ HX0.out.i).mono ?_
          rintro e w1 ⟨rfl, hb1⟩
          have hx := HX0.out.next hb1
          obtain ⟨c0, c1, hlt⟩ : w1.cell? ⟨w.heap.size, 0, none⟩ = some (.slice pf nf cf) ∧ w1.cell? ⟨w.heap.size, 1, none⟩ = some (.slice pl nl cl) ∧ w.heap.size < w1.heap.size := ⟨hx.c0, hx.c1, hx.lt⟩
          have HX := Lib.hid hx
          clear hx hb1
          go_wp2_with fail
          refine (KB.out _ HX.out.i HX.out.below).mono ?_
          rintro e w2 ⟨rfl, hb2⟩
          have HB := Lib.hid (HX.out.next hb2).below
          clear hb2
          go_wp2_with fail
          go_ret3
          exact ⟨rfl, HB.out⟩
        · rw [if_neg hl0]
          have kf := fun r W h => rfind_any A r W h h128
          have hmem := fun k hk => ask_mem hab (k := k) hk
          have hrow := fun W (hb : Below w.heap.size w W) => (hR.next hb).cells
          have hrat := hR.at_
          have hst := fun k P M (hk : k < l.length) h => lstS_yes A.ls l k P M hk h
          have hend : ∀ P M, lstS A.ls (l.drop l.length) P M = (P, M, 0) := fun P M => by rw [List.drop_length]; rfl
          have hbits := fun j hj => hA.L.get j hj
          have hL := fun W (h : A.In W) => h.L
          have hat := hA.L.at_
          have kall := fun W => rall_any A.pf A.pl A.cf A.fs.length A.ls.length A.cl W h24
          have haN := allN_24 h24
          obtain ⟨aN, haN2⟩ : ∃ a, a = allN A.fs.length := ⟨_, rfl⟩
          rw [← haN2] at kall haN ⊢
          obtain ⟨⟨R1, R2, R3⟩, hRR⟩ : ∃ R, R = lstS A.ls l aN aN := ⟨_, rfl⟩
          rw [← hRR]
          simp only []
          obtain ⟨n, hn⟩ : ∃ n, n = l.length := ⟨_, rfl⟩
          rw [← hn] at hl0 hbig kb hmem hrow hrat hst hend ⊢
          have z : ¬ (128 : Int) < (n : Int) := by omega
          have z0 : ((n : Int) == 0) = false := by rw [beq_eq_false_iff_ne]; omega
          obtain ⟨ls, hls⟩ : ∃ l, l = A.ls := ⟨_, rfl⟩
          obtain ⟨bl, hbl⟩ : ∃ l, l = A.bl := ⟨_, rfl⟩
          obtain ⟨l0, hl00⟩ : ∃ l, l = A.l0 := ⟨_, rfl⟩
          obtain ⟨pf, pl, nf, cf, nl, cl, hv, hnf, hnl, hpl, hcl, hpf, hcf⟩ := A.parts
          have hcells : ∀ i, i < A.ls.length → ∀ W, A.In W → W.cell? ⟨bl, l0 + i * 3, none⟩ = some (.int .i32 (ls.getD i default).r) ∧ W.cell? ⟨bl, l0 + i * 3 + 1, none⟩ = some (.int .u32 (ls.getD i default).p) ∧ W.cell? ⟨bl, l0 + i * 3 + 2, none⟩ = some (.int .u32 (ls.getD i default).m) := fun i hi W h => by
            rw [hls, hbl, hl00]; exact ⟨(hL W h).cr i hi, (hL W h).cp i hi, (hL W h).cm i hi⟩
          rw [← hnf, ← hnl, ← hpl, ← hcl, ← hpf, ← hcf] at hs0
          rw [← hnf, ← hnl, ← hpl, ← hcl, ← hpf, ← hcf] at kall
          rw [hv] at ka kb kf ⊢
          rw [← hpl, ← hbl, ← hl00] at hat
          rw [← hnl] at hat hcells hbits hmem
          rw [← hls] at hmem hst hend hbits hRR
          have hmm2 : ∀ k, k < n → ∃ j, j < nl ∧ fnd A.ls (l.getD k 0) 0 = (j : Int) ∧ lofR ls (l.getD k 0) = (ls.getD j default, 0) := fun k hk => by
            have := hmem k hk
            rw [hls] at this ⊢
            exact this
          have KA := Lib.hid ka; have KB := Lib.hid kb; have HX0 := Lib.hid hs0; have KF := Lib.hid kf; have HMM := Lib.hid hmm2; have HROW := Lib.hid hrow; have HRAT := Lib.hid hrat; have HST := Lib.hid hst; have HEND := Lib.hid hend; have HBITS := Lib.hid hbits; have HC := Lib.hid hcells; have HAT := Lib.hid hat; have KALL := Lib.hid kall; have HRR := Lib.hid hRR
          clear ka kb hA hv hnf hnl hpl hcl hpf hcf hok hs0 hR hn hae hlr h24 h128 hab hl0 kf hmem hmm2 hrow hrat hst hend hbits hL hat hcells hls hbl hl00 hRR haN2 kall
          go_enter Try.func28, Try.ntmps28
          go_wp2_with fail
          refine (KA.out _ HX0.out.i).mono ?_
          rintro e w1 ⟨rfl, hb1⟩
          have hx := HX0.out.next hb1
          obtain ⟨c0, c1, hlt⟩ : w1.cell? ⟨w.heap.size, 0, none⟩ = some (.slice pf nf cf) ∧ w1.cell? ⟨w.heap.size, 1, none⟩ = some (.slice pl nl cl) ∧ w.heap.size < w1.heap.size := ⟨hx.c0, hx.c1, hx.lt⟩
          have HX := Lib.hid hx
          clear hx hb1 HX0
          go_wp2_with fail
          refine (KB.out _ HX.out.i HX.out.below).mono ?_
          rintro e w2 ⟨rfl, hb2⟩
          replace HX := Lib.hid (HX.out.next hb2)
          clear hb2 c0 c1 hlt
          obtain ⟨c0, c1, hlt⟩ : w2.cell? ⟨w.heap.size, 0, none⟩ = some (.slice pf nf cf) ∧ w2.cell? ⟨w.heap.size, 1, none⟩ = some (.slice pl nl cl) ∧ w.heap.size < w2.heap.size := ⟨HX.out.c0, HX.out.c1, HX.out.lt⟩
          go_wp2_with fail
          refine (KALL.out _).mono ?_
          rintro e w3 ⟨rfl, hb3⟩
          replace HX := Lib.hid (HX.out.next hb3)
          clear hb3 c0 c1 hlt
          obtain ⟨c0, c1, hlt⟩ : w3.cell? ⟨w.heap.size, 0, none⟩ = some (.slice pf nf cf) ∧ w3.cell? ⟨w.heap.size, 1, none⟩ = some (.slice pl nl cl) ∧ w.heap.size < w3.heap.size := ⟨HX.out.c0, HX.out.c1, HX.out.lt⟩
          go_wp2_with fail
          refine (KALL.out _).mono ?_
          rintro e w4 ⟨rfl, hb4⟩
          replace HX := Lib.hid (HX.out.next hb4)
          clear hb4 c0 c1 hlt
          go_wp2_with fail
          go_loopw [8, 9, 10] (fun pv mv iv wr => ∃ k P M : Nat, pv = .int .u32 P ∧ mv = .int .u32 M ∧ iv = .int .i64 k ∧ k ≤ n ∧ P < 4294967296 ∧ M < 4294967296 ∧ Hid (lstS ls (l.drop k) P M = (R1, R2, R3)) ∧ Hid (Bx A (.slice pf nf cf) (.slice pl nl cl) w w.heap.size wr)) (fun _ _ iv _ => n - (intOf iv).toNat)
          case atStart => exact ⟨0, aN, aN, rfl, rfl, rfl, Nat.zero_le _, haN, haN, HRR.out.symm, HX⟩
          case round =>
            clear HX
            obtain ⟨k, P, M, rfl, rfl, rfl, hk, hP, hM, HLS, HX⟩ := hrel
            obtain ⟨c0, c1, hltb⟩ : wr.cell? ⟨w.heap.size, 0, none⟩ = some (.slice pf nf cf) ∧ wr.cell? ⟨w.heap.size, 1, none⟩ = some (.slice pl nl cl) ∧ w.heap.size < wr.heap.size := ⟨HX.out.c0, HX.out.c1, HX.out.lt⟩
            by_cases hkn : k < n
            · obtain ⟨j, hj, hf, hlo⟩ := HMM.out k hkn
              obtain rfl := HRAT.out (by omega)
              have x0 := HROW.out wr HX.out.below k hkn
              have hs1 := HST.out k P M hkn (by rw [hlo])
              rw [hlo, HLS.out] at hs1
              simp only [] at hs1
              have kk := KF.out (l.getD k 0)
              rw [hf] at kk
              obtain rfl := HAT.out (by omega)
              obtain ⟨a0, a1, a2⟩ := HC.out j hj wr HX.out.i
              have hbt := HBITS.out j hj
              obtain ⟨t, ht⟩ : ∃ t, t = l.getD k 0 := ⟨_, rfl⟩
              rw [← ht] at x0 kk
              obtain ⟨q, hq⟩ : ∃ q, q = ls.getD j default := ⟨_, rfl⟩
              rw [← hq] at a0 a1 a2 hs1 hbt
              obtain ⟨q, qp, qm⟩ := q
              simp only [] at a0 a1 a2 hs1 hbt
              have e1 := u32_and_nat P qp hP hbt.1
              have e2 := u32_and_nat M qm hM hbt.2.1
              have hP2 : P &&& qp < 4294967296 := Nat.lt_of_le_of_lt Nat.and_le_left hP
              have hM2 : M &&& qm < 4294967296 := Nat.lt_of_le_of_lt Nat.and_le_left hM
              obtain ⟨P2, hPP⟩ : ∃ x, x = P &&& qp := ⟨_, rfl⟩
              obtain ⟨M2, hMM⟩ : ∃ x, x = M &&& qm := ⟨_, rfl⟩
              rw [← hPP] at e1 hP2 hs1
              rw [← hMM] at e2 hM2 hs1
              have hbl1 : bl < wr.heap.size := lt_of_cell a0
              have hbr1 : br < wr.heap.size := lt_of_cell x0
              have CF := Lib.hid (fun W (hb : Below wr.heap.size wr W) => (kk W (HX.out.i.next hb)).mono fun e w' (h : e = _ ∧ Below W.heap.size W w') => (⟨h.1, h.2, hb.trans (h.2.mono hb.size)⟩ : e = _ ∧ Below W.heap.size W w' ∧ Below wr.heap.size wr w'))
              have HS1 := Lib.hid hs1
              clear hs1 kk hf hlo ht hq hPP hMM hbt
              have KS := Lib.hid (fun w' (hacc : Below wr.heap.size wr w') => (⟨hacc, (hacc.cell (p := ⟨w.heap.size, 0, none⟩) hltb).trans c0, (hacc.cell (p := ⟨w.heap.size, 1, none⟩) hltb).trans c1, (hacc.cell (p := ⟨br, r0 + k, none⟩) hbr1).trans x0, (hacc.cell (p := ⟨bl, l0 + j * 3, none⟩) hbl1).trans a0, (hacc.cell (p := ⟨bl, l0 + j * 3 + 1, none⟩) hbl1).trans a1, (hacc.cell (p := ⟨bl, l0 + j * 3 + 2, none⟩) hbl1).trans a2⟩ : Below wr.heap.size wr w' ∧ w'.cell? ⟨w.heap.size, 0, none⟩ = some (.slice pf nf cf) ∧ w'.cell? ⟨w.heap.size, 1, none⟩ = some (.slice (some ⟨bl, l0, none⟩) nl cl) ∧ w'.cell? ⟨br, r0 + k, none⟩ = some (.int .i32 t) ∧ w'.cell? ⟨bl, l0 + j * 3, none⟩ = some (.int .i32 q) ∧ w'.cell? ⟨bl, l0 + j * 3 + 1, none⟩ = some (.int .u32 qp) ∧ w'.cell? ⟨bl, l0 + j * 3 + 2, none⟩ = some (.int .u32 qm)))
              go_upto_region 16 with fail
              go_cut [11] from 39 to 48 (fun s11 wc => ∃ b, s11 = .pointer (some ⟨b, 0, none⟩) ∧ Hid (L3 b q qp qm wc) ∧ Hid (Below wr.heap.size wr wc))
              case first =>
                go_region_held3 (fun w' => Below wr.heap.size wr w' ∧ w'.cell? ⟨w.heap.size, 0, none⟩ = some (.slice pf nf cf) ∧ w'.cell? ⟨w.heap.size, 1, none⟩ = some (.slice (some ⟨bl, l0, none⟩) nl cl) ∧ w'.cell? ⟨br, r0 + k, none⟩ = some (.int .i32 t) ∧ w'.cell? ⟨bl, l0 + j * 3, none⟩ = some (.int .i32 q) ∧ w'.cell? ⟨bl, l0 + j * 3 + 1, none⟩ = some (.int .u32 qp) ∧ w'.cell? ⟨bl, l0 + j * 3 + 2, none⟩ = some (.int .u32 qm)) (first | exact KS.out _ (Below.refl _ _).drew | exact KS.out _ hacc | exact KS.out _ ((Below.refl _ _).drew.alloc (Nat.le_refl _) _) | exact KS.out _ (hacc.alloc hacc.size _) | exact KS.out _ (((hacc.setCell (p := ⟨wr.heap.size, 0, none⟩) (Nat.le_refl _) _).setCell (p := ⟨wr.heap.size, 1, none⟩) (Nat.le_refl _) _).setCell (p := ⟨wr.heap.size, 2, none⟩) (Nat.le_refl _) _)) (first | (go_at_call 66; refine (CF.out _ (by first | exact (Below.refl _ _).drew | exact (Below.refl _ _).drew.alloc (Nat.le_refl _) _)).mono ?_; rintro _ wq ⟨rfl, hbq, hacc⟩; obtain ⟨hcc, hff⟩ := bcell hbq; have hzq := hbq.size; (try simp only [World.size_alloc] at hzq)))
                all_goals
                  (try go_wp2_with fail)
                  go_meet
                  first
                    | exact ⟨_, rfl, Lib.hid (L3.made wq q qp qm _), Lib.hid (hacc.alloc hacc.size _)⟩
                    | exact ⟨wr.heap.size, rfl, Lib.hid (L3.set (x := .int .i32 0) (y := .int .u32 0) (z := .int .u32 0) ((hcc _ _ (by simp)).trans (by simp)) ((hcc _ _ (by simp)).trans (by simp)) ((hcc _ _ (by simp)).trans (by simp)) q qp qm), Lib.hid (((hacc.setCell (p := ⟨wr.heap.size, 0, none⟩) (Nat.le_refl _) _).setCell (p := ⟨wr.heap.size, 1, none⟩) (Nat.le_refl _) _).setCell (p := ⟨wr.heap.size, 2, none⟩) (Nat.le_refl _) _)⟩
              case rest =>
                obtain ⟨b, rfl, HL3, HBc⟩ := hcut
                have HXc := Lib.hid (HX.out.next HBc.out)
                obtain ⟨y0, y1, y2⟩ : wc.cell? ⟨b, 0, none⟩ = some (.int .i32 q) ∧ wc.cell? ⟨b, 1, none⟩ = some (.int .u32 qp) ∧ wc.cell? ⟨b, 2, none⟩ = some (.int .u32 qm) := ⟨HL3.out.c0, HL3.out.c1, HL3.out.c2⟩
                clear c0 c1 hltb a0 a1 a2 x0 KS CF HBc HX
                go_wp2_with fail
                go_roundw
                case rel => exact ⟨k + 1, P2, M2, rfl, rfl, by go_num, by omega, hP2, hM2, HS1.out.symm, HXc⟩
                case measure => simp [intOf]; omega
            · obtain rfl : k = n := by omega
              have hr := HLS.out
              rw [HEND.out] at hr
              simp only [Prod.mk.injEq] at hr
              obtain ⟨r1, r2, r3⟩ := hr
              have HF := Lib.hid (show Ending.returned (.tuple #[.int .u32 P, .int .u32 M, .int .i64 0]) = Ending.returned (.tuple #[.int .u32 R1, .int .u32 R2, .int .i64 R3]) ∧ Below w.heap.size w wr from ⟨by rw [← r1, ← r2, ← r3], HX.out.below⟩)
              clear r1 r2 r3
              go_wp2_with fail
              go_ret3
              exact HF.out
end Go.Proofs.Ytmbekgfbnapelaa
