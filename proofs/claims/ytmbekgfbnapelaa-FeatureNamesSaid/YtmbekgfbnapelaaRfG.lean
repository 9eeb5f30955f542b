/-
  WALKS: cognateref02.Nearest, Near.
-/
import Derived.Test.YtmbekgfbnapelaaRfF
namespace Go.Proofs.Ytmbekgfbnapelaa
open Go.RowKit Go.Lib
set_option linter.unusedVariables false

theorem cell_new3 (W : World) (b : Nat) (hb : b = W.heap.size) (v u x : Value) (t : TypeId) : (W.alloc (.cells #[v, u, x] t)).cell? ⟨b, 0, none⟩ = some v ∧ (W.alloc (.cells #[v, u, x] t)).cell? ⟨b, 1, none⟩ = some u ∧ (W.alloc (.cells #[v, u, x] t)).cell? ⟨b, 2, none⟩ = some x := by subst hb; simp
theorem first_least {d : Nat → Nat} {n b J : Nat} (hb : b < n) (hJ : J < n) (h1 : ∀ i, i < n → d b ≤ d i) (h2 : ∀ i, i < b → d b < d i) (h3 : ∀ i, i < n → d J ≤ d i) (h4 : ∀ i, i < J → d J < d i) : b = J := by
  rcases Nat.lt_trichotomy b J with h | h | h
  · have := h4 b h; have := h1 J hJ; omega
  · exact h
  · have := h2 J h; have := h3 b hb; omega

set_option maxHeartbeats 8000000 in
set_option maxRecDepth 100000 in
theorem rnearest_any (A : Al) (x : Ltr) (p m J : Nat) (w : World) (hA : A.In w) (hx : LtrOk x) (hp : p < 4294967296) (hm : m < 4294967296) (hok : A.ok = true) (hJ : J < A.ls.length)
    (h3 : ∀ i, i < A.ls.length → sgn (A.ls.getD J default) (trn x p m).p (trn x p m).m 24 ≤ sgn (A.ls.getD i default) (trn x p m).p (trn x p m).m 24)
    (h4 : ∀ i, i < J → sgn (A.ls.getD J default) (trn x p m).p (trn x p m).m 24 < sgn (A.ls.getD i default) (trn x p m).p (trn x p m).m 24) :
    Calls Try.prog 70 #[A.v, .agg #[.int .i32 x.r, .int .u32 x.p, .int .u32 x.m], .int .u32 p, .int .u32 m] w fun e w' => e = .returned (.int .i32 (A.ls.getD J default).r) ∧ Below w.heap.size w w' := by
  obtain ⟨hl1, hl128⟩ := Al.ok_ltrs hok
  have hto := trn_ok x p m hx hp hm
  have hw : (trn x p m).p = (x.p &&& (4294967295 - m)) ||| p ∧ (trn x p m).m = (x.m &&& (4294967295 - p)) ||| m := ⟨rfl, rfl⟩
  obtain ⟨T, hT⟩ : ∃ T, T = trn x p m := ⟨_, rfl⟩
  rw [← hT] at hw hto
  simp only [← hT] at h3 h4
  clear hT
  obtain ⟨tr, tp, tm⟩ := T
  simp only [] at hw h3 h4
  have hto2 : tp < 4294967296 ∧ tm < 4294967296 := hto
  have hlL := fun i (hi : i < A.ls.length) => hA.L.get i hi
  have ku := fun i (hi : i < A.ls.length) W => runlike_any (A.ls.getD i default) ⟨0, tp, tm⟩ W ⟨(hlL i hi).1, (hlL i hi).2.1⟩ hto2
  simp only [] at ku
  have hd24 : ∀ i, sgn (A.ls.getD i default) tp tm 24 ≤ 24 := fun i => popAux_le 24 _
  have hfl := fun b (hb : b < A.ls.length) h1 h2 => first_least (d := fun i => sgn (A.ls.getD i default) tp tm 24) hb hJ h1 h2 h3 h4
  obtain ⟨d, hd⟩ : ∃ d : Nat → Nat, ∀ i, d i = sgn (A.ls.getD i default) tp tm 24 := ⟨_, fun _ => rfl⟩
  simp only [← hd] at ku hd24 hfl
  have hat := hA.L.at_
  have hL := fun W (h : A.In W) => h.L
  obtain ⟨ls, hls⟩ : ∃ l, l = A.ls := ⟨_, rfl⟩
  obtain ⟨bl, hbl⟩ : ∃ l, l = A.bl := ⟨_, rfl⟩
  obtain ⟨l0, hl0⟩ : ∃ l, l = A.l0 := ⟨_, rfl⟩
  obtain ⟨pf, pl, nf, cf, nl, cl, hv, hnf, hnl, hpl, hcl, hpf, hcf⟩ := A.parts
  rw [hv]
  have hcells : ∀ i, i < A.ls.length → ∀ W, A.In W → W.cell? ⟨bl, l0 + i * 3, none⟩ = some (.int .i32 (ls.getD i default).r) ∧ W.cell? ⟨bl, l0 + i * 3 + 1, none⟩ = some (.int .u32 (ls.getD i default).p) ∧ W.cell? ⟨bl, l0 + i * 3 + 2, none⟩ = some (.int .u32 (ls.getD i default).m) := fun i hi W h => by
    rw [hls, hbl, hl0]; exact ⟨(hL W h).cr i hi, (hL W h).cp i hi, (hL W h).cm i hi⟩
  obtain rfl : pl = some ⟨bl, l0, none⟩ := by rw [hpl, hbl, hl0]; exact hat (by omega)
  have hnl2 : nl = ls.length := by rw [hls]; exact hnl
  rw [← hls] at ku ⊢
  rw [← hnl2] at ku
  rw [← hnl] at hl1 hl128 hfl hcells hJ
  clear hnl2
  obtain ⟨xr, xp, xm⟩ := x
  obtain ⟨hx1, hx2⟩ := hx
  simp only [] at hx1 hx2 hw ⊢
  have e1 := u32_andNot_nat xp m hx1 hm
  have e2 := u32_andNot_nat xm p hx2 hp
  have y1 : xp &&& (4294967295 - m) < 4294967296 := Nat.and_lt_two_pow (n := 32) _ (by omega)
  have y2 : xm &&& (4294967295 - p) < 4294967296 := Nat.and_lt_two_pow (n := 32) _ (by omega)
  have e3 := u32_or_nat (xp &&& (4294967295 - m)) p y1 hp
  have e4 := u32_or_nat (xm &&& (4294967295 - p)) m y2 hm
  rw [← hw.1] at e3
  rw [← hw.2] at e4
  obtain ⟨X, hX⟩ : ∃ X, X = xp &&& (4294967295 - m) := ⟨_, rfl⟩
  obtain ⟨Y, hY⟩ : ∃ X, X = xm &&& (4294967295 - p) := ⟨_, rfl⟩
  rw [← hX] at e1 e3
  rw [← hY] at e2 e4
  obtain ⟨R, hR⟩ : ∃ R, R = (ls.getD J default).r := ⟨_, rfl⟩
  rw [← hR]
  have hs : Bx A (.slice pf nf cf) (.slice (some ⟨bl, l0, none⟩) nl cl) w w.heap.size (w.alloc (.cells #[.slice pf nf cf, .slice (some ⟨bl, l0, none⟩) nl cl] 26)) := Bx.start hA
  have KU := Lib.hid ku; have HS := Lib.hid hs; have HC := Lib.hid hcells; have HFL := Lib.hid hfl; have HD := Lib.hid hd24; have HR := Lib.hid hR
  clear ku hs hcells hfl hd24 hR hA hto hw hto2 hlL h3 h4 hd hat hL hls hbl hl0 hv hnf hnl hpl hcl hpf hcf hok hx1 hx2 hX hY y1 y2
  go_enter Try.func70, Try.ntmps70
  go_wp2_with fail
  have HX0 := Lib.hid ((HS.out.alloc (.cells #[.int .i32 xr, .int .u32 xp, .int .u32 xm] 35)).alloc (.cells #[.int .i32 0, .int .u32 tp, .int .u32 tm] 35))
  have HST := Lib.hid (show (∀ i, i < 1 → d 0 ≤ d i) ∧ (∀ i, i < 0 → d 0 < d i) from ⟨fun i hi => by rw [show i = 0 by omega]; exact Nat.le_refl _, fun i hi => absurd hi (by omega)⟩)
  clear HS
  go_loopw [10, 11] (fun bv iv wr => ∃ b k : Nat, bv = .int .i64 b ∧ iv = .int .i64 k ∧ b < k ∧ k ≤ nl ∧ Hid ((∀ i, i < k → d b ≤ d i) ∧ (∀ i, i < b → d b < d i)) ∧ Hid (Bx A (.slice pf nf cf) (.slice (some ⟨bl, l0, none⟩) nl cl) w w.heap.size wr) ∧ Hid (wr.cell? ⟨w.heap.size + 1 + 1, 0, none⟩ = some (.int .i32 0) ∧ wr.cell? ⟨w.heap.size + 1 + 1, 1, none⟩ = some (.int .u32 tp) ∧ wr.cell? ⟨w.heap.size + 1 + 1, 2, none⟩ = some (.int .u32 tm))) (fun _ iv _ => nl - (intOf iv).toNat)
  case atStart => exact ⟨0, 1, rfl, rfl, by omega, by omega, HST, HX0, Lib.hid (cell_new3 _ _ (by simp) _ _ _ _)⟩
  case round =>
    clear HX0
    obtain ⟨b, k, rfl, rfl, hbk, hk, HM, HX, HT⟩ := hrel
    obtain ⟨c0, c1, hltb⟩ : wr.cell? ⟨w.heap.size, 0, none⟩ = some (.slice pf nf cf) ∧ wr.cell? ⟨w.heap.size, 1, none⟩ = some (.slice (some ⟨bl, l0, none⟩) nl cl) ∧ w.heap.size < wr.heap.size := ⟨HX.out.c0, HX.out.c1, HX.out.lt⟩
    by_cases hkn : k < nl
    · have hbn : b < nl := by omega
      have kk := KU.out k hkn
      have kb := KU.out b hbn
      obtain ⟨a0, a1, a2⟩ := HC.out k hkn wr HX.out.i
      obtain ⟨b0, b1, b2⟩ := HC.out b hbn wr HX.out.i
      obtain ⟨t0, t1, t2⟩ := HT.out
      have hbl1 : bl < wr.heap.size := lt_of_cell a0
      have htl1 : w.heap.size + 1 + 1 < wr.heap.size := lt_of_cell t0
      obtain ⟨q, hq⟩ : ∃ q, q = ls.getD k default := ⟨_, rfl⟩
      obtain ⟨t, ht⟩ : ∃ q, q = ls.getD b default := ⟨_, rfl⟩
      rw [← hq] at a0 a1 a2 kk
      rw [← ht] at b0 b1 b2 kb
      obtain ⟨q, qp, qm⟩ := q
      obtain ⟨t, sp, sm⟩ := t
      simp only [] at a0 a1 a2 kk b0 b1 b2 kb
      obtain ⟨dk, hdk⟩ : ∃ x, x = d k := ⟨_, rfl⟩
      obtain ⟨db, hdb⟩ : ∃ x, x = d b := ⟨_, rfl⟩
      rw [← hdk] at kk
      rw [← hdb] at kb
      have CK := Lib.hid (fun W (hb : Below wr.heap.size wr W) => (kk W).mono fun e w' (h : e = _ ∧ Below W.heap.size W w') => (⟨h.1, hb.trans (h.2.mono hb.size)⟩ : e = _ ∧ Below wr.heap.size wr w'))
      have CB := Lib.hid (fun W (hb : Below wr.heap.size wr W) => (kb W).mono fun e w' (h : e = _ ∧ Below W.heap.size W w') => (⟨h.1, hb.trans (h.2.mono hb.size)⟩ : e = _ ∧ Below wr.heap.size wr w'))
      have HDK := Lib.hid hdk; have HDB := Lib.hid hdb
      have HT2 := Lib.hid (fun W (hb : Below wr.heap.size wr W) => (⟨(hb.cell (p := ⟨w.heap.size + 1 + 1, 0, none⟩) htl1).trans t0, (hb.cell (p := ⟨w.heap.size + 1 + 1, 1, none⟩) htl1).trans t1, (hb.cell (p := ⟨w.heap.size + 1 + 1, 2, none⟩) htl1).trans t2⟩ : W.cell? ⟨w.heap.size + 1 + 1, 0, none⟩ = some (.int .i32 0) ∧ W.cell? ⟨w.heap.size + 1 + 1, 1, none⟩ = some (.int .u32 tp) ∧ W.cell? ⟨w.heap.size + 1 + 1, 2, none⟩ = some (.int .u32 tm)))
      clear kk kb hq ht hdk hdb HT c0
      have hcase : dk < db ∨ ¬ dk < db := by omega
      rcases hcase with hlt | hlt
      · have HM2 := Lib.hid (show (∀ i, i < k + 1 → d k ≤ d i) ∧ (∀ i, i < k → d k < d i) from ⟨fun i hi => by
          by_cases e : i = k
          · rw [e]; exact Nat.le_refl _
          · have := HM.out.1 i (by omega); have := HDK.out; have := HDB.out; omega, fun i hi => by have := HM.out.1 i hi; have := HDK.out; have := HDB.out; omega⟩)
        go_wp2_with fail
        go_region_held3 (fun w' => Below wr.heap.size wr w' ∧ w'.cell? ⟨w.heap.size, 1, none⟩ = some (.slice (some ⟨bl, l0, none⟩) nl cl) ∧ w'.cell? ⟨bl, l0 + k * 3, none⟩ = some (.int .i32 q) ∧ w'.cell? ⟨bl, l0 + k * 3 + 1, none⟩ = some (.int .u32 qp) ∧ w'.cell? ⟨bl, l0 + k * 3 + 2, none⟩ = some (.int .u32 qm) ∧ w'.cell? ⟨bl, l0 + b * 3, none⟩ = some (.int .i32 t) ∧ w'.cell? ⟨bl, l0 + b * 3 + 1, none⟩ = some (.int .u32 sp) ∧ w'.cell? ⟨bl, l0 + b * 3 + 2, none⟩ = some (.int .u32 sm) ∧ w'.cell? ⟨w.heap.size + 1 + 1, 0, none⟩ = some (.int .i32 0) ∧ w'.cell? ⟨w.heap.size + 1 + 1, 1, none⟩ = some (.int .u32 tp) ∧ w'.cell? ⟨w.heap.size + 1 + 1, 2, none⟩ = some (.int .u32 tm)) (first | exact ⟨(Below.refl _ _).drew, c1, a0, a1, a2, b0, b1, b2, t0, t1, t2⟩ | exact ⟨hacc, (hacc.cell (p := ⟨w.heap.size, 1, none⟩) hltb).trans c1, (hacc.cell (p := ⟨bl, l0 + k * 3, none⟩) hbl1).trans a0, (hacc.cell (p := ⟨bl, l0 + k * 3 + 1, none⟩) hbl1).trans a1, (hacc.cell (p := ⟨bl, l0 + k * 3 + 2, none⟩) hbl1).trans a2, (hacc.cell (p := ⟨bl, l0 + b * 3, none⟩) hbl1).trans b0, (hacc.cell (p := ⟨bl, l0 + b * 3 + 1, none⟩) hbl1).trans b1, (hacc.cell (p := ⟨bl, l0 + b * 3 + 2, none⟩) hbl1).trans b2, HT2.out _ hacc⟩) (first | (go_at_call 69; (with_reducible first | refine (CK.out _ (by first | exact (Below.refl _ _).drew | exact hacc | exact hacc.drew)).mono ?_ | refine (CB.out _ (by first | exact (Below.refl _ _).drew | exact hacc | exact hacc.drew)).mono ?_); rintro _ w4 ⟨rfl, hacc⟩))
        all_goals
          have HXn := Lib.hid (HX.out.next hacc)
          have HTn := Lib.hid (HT2.out _ hacc)
          (try go_wp2_with fail)
          go_roundw
          case rel => exact ⟨k, k + 1, rfl, by go_num, by omega, by omega, HM2, HXn, HTn⟩
          case measure => simp [intOf]; omega
      · have HM2 := Lib.hid (show (∀ i, i < k + 1 → d b ≤ d i) ∧ (∀ i, i < b → d b < d i) from ⟨fun i hi => by
          by_cases e : i = k
          · rw [e]; have := HDK.out; have := HDB.out; omega
          · exact HM.out.1 i (by omega), HM.out.2⟩)
        go_wp2_with fail
        go_region_held3 (fun w' => Below wr.heap.size wr w' ∧ w'.cell? ⟨w.heap.size, 1, none⟩ = some (.slice (some ⟨bl, l0, none⟩) nl cl) ∧ w'.cell? ⟨bl, l0 + k * 3, none⟩ = some (.int .i32 q) ∧ w'.cell? ⟨bl, l0 + k * 3 + 1, none⟩ = some (.int .u32 qp) ∧ w'.cell? ⟨bl, l0 + k * 3 + 2, none⟩ = some (.int .u32 qm) ∧ w'.cell? ⟨bl, l0 + b * 3, none⟩ = some (.int .i32 t) ∧ w'.cell? ⟨bl, l0 + b * 3 + 1, none⟩ = some (.int .u32 sp) ∧ w'.cell? ⟨bl, l0 + b * 3 + 2, none⟩ = some (.int .u32 sm) ∧ w'.cell? ⟨w.heap.size + 1 + 1, 0, none⟩ = some (.int .i32 0) ∧ w'.cell? ⟨w.heap.size + 1 + 1, 1, none⟩ = some (.int .u32 tp) ∧ w'.cell? ⟨w.heap.size + 1 + 1, 2, none⟩ = some (.int .u32 tm)) (first | exact ⟨(Below.refl _ _).drew, c1, a0, a1, a2, b0, b1, b2, t0, t1, t2⟩ | exact ⟨hacc, (hacc.cell (p := ⟨w.heap.size, 1, none⟩) hltb).trans c1, (hacc.cell (p := ⟨bl, l0 + k * 3, none⟩) hbl1).trans a0, (hacc.cell (p := ⟨bl, l0 + k * 3 + 1, none⟩) hbl1).trans a1, (hacc.cell (p := ⟨bl, l0 + k * 3 + 2, none⟩) hbl1).trans a2, (hacc.cell (p := ⟨bl, l0 + b * 3, none⟩) hbl1).trans b0, (hacc.cell (p := ⟨bl, l0 + b * 3 + 1, none⟩) hbl1).trans b1, (hacc.cell (p := ⟨bl, l0 + b * 3 + 2, none⟩) hbl1).trans b2, HT2.out _ hacc⟩) (first | (go_at_call 69; (with_reducible first | refine (CK.out _ (by first | exact (Below.refl _ _).drew | exact hacc | exact hacc.drew)).mono ?_ | refine (CB.out _ (by first | exact (Below.refl _ _).drew | exact hacc | exact hacc.drew)).mono ?_); rintro _ w4 ⟨rfl, hacc⟩))
        all_goals
          have HXn := Lib.hid (HX.out.next hacc)
          have HTn := Lib.hid (HT2.out _ hacc)
          (try go_wp2_with fail)
          go_roundw
          case rel => exact ⟨b, k + 1, rfl, by go_num, by omega, by omega, HM2, HXn, HTn⟩
          case measure => simp [intOf]; omega
    · obtain rfl : k = nl := by omega
      have hbJ := HFL.out b hbk HM.out.1 HM.out.2
      obtain ⟨a0, a1, a2⟩ := HC.out b hbk wr HX.out.i
      rw [hbJ, ← HR.out] at a0
      rw [hbJ] at a1 a2 hbk ⊢
      have HBW := Lib.hid HX.out.below
      clear hbJ
      go_wp2_with fail
      go_ret
      exact ⟨rfl, HBW.out⟩
end Go.Proofs.Ytmbekgfbnapelaa
