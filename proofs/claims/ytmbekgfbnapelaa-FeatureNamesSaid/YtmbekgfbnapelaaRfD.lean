/-
  WALKS: cognateref02.asked of any letters, Of, Has, Far.
-/
import Derived.Test.YtmbekgfbnapelaaRfC
import Derived.Test.YtmbekgfbnapelaaRf5
import Derived.Test.YtmbekgfbnapelaaNearP
import Derived.StillTailTactics
import Derived.Deep.RegionHeld3
namespace Go.Proofs.Ytmbekgfbnapelaa
open Go.RowKit Go.Lib
set_option linter.unusedVariables false

def askB (ls : List Ltr) (l : List Int) : Bool := l.all fun r => decide (0 ≤ fnd ls r 0)
def askE (A : Al) (l : List Int) : Int := if A.ok then (if askB A.ls l then 0 else 5) else 7
theorem ask_no {ls : List Ltr} {l : List Int} {k : Nat} (hk : k < l.length) (h : fnd ls (l.getD k 0) 0 < 0) : askB ls l = false := by
  unfold askB
  rw [List.all_eq_false]
  refine ⟨l[k], List.getElem_mem hk, ?_⟩
  rw [getD_at hk] at h
  simp; omega
theorem ask_yes {ls : List Ltr} {l : List Int} (h : ∀ k, k < l.length → 0 ≤ fnd ls (l.getD k 0) 0) : askB ls l = true := by
  unfold askB
  rw [List.all_eq_true]
  intro r hr
  obtain ⟨k, hk, rfl⟩ := List.getElem_of_mem hr
  have := h k hk
  rw [getD_at hk] at this
  exact decide_eq_true this
theorem fnd_ge (ls : List Ltr) (r : Int) : -1 ≤ fnd ls r 0 ∧ fnd ls r 0 < ls.length ∨ ls.length = 0 := by
  rcases fnd_findL ls r with ⟨_, h⟩ | ⟨j, hj, _, h⟩
  · by_cases h0 : ls.length = 0
    · exact Or.inr h0
    · exact Or.inl (by omega)
  · exact Or.inl (by omega)

set_option maxHeartbeats 2000000 in
set_option maxRecDepth 100000 in
theorem rasked_any (A : Al) (pr : Option Addr) (br r0 cr : Nat) (l : List Int) (w : World) (hA : A.In w) (hR : RsIn pr br r0 l w) : Calls Try.prog 65 #[A.v, .slice pr l.length cr] w (RchkPost (askE A l) w) := by
  have kc := fun W h => rcheck_any A W h
  unfold RchkPost at kc ⊢
  cases hok : A.ok with
  | false =>
    rw [chk_no hok] at kc
    have he : askE A l = 7 := by unfold askE; rw [hok]; rfl
    rw [he]
    obtain ⟨pf, pl, nf, cf, nl, cl, hv, hnf, hnl, hpl, hcl, hpf, hcf⟩ := A.parts
    rw [hv] at kc ⊢
    have KC := Lib.hid kc; have HA := Lib.hid hA
    clear kc hA hv hnf hnl hpl hcl hpf hcf hok he hR
    go_enter Try.func65, Try.ntmps65
    go_wp2_with fail
    refine (KC.out _ (HA.out.alloc _)).mono ?_
    rintro e w1 ⟨rfl, hb1⟩
    have HB := Lib.hid (show Below w.heap.size w w1 from ((Below.refl _ _).alloc (Nat.le_refl _) _).trans (hb1.mono (by simp)))
    clear hb1
    go_wp2_with fail
    go_ret
    exact ⟨rfl, HB.out⟩
  | true =>
    rw [chk_ok hok] at kc
    have h128 := (Al.ok_ltrs hok).2
    have kf := fun r W h => rfind_any A r W h h128
    have hno := fun k h1 h2 => ask_no (ls := A.ls) (l := l) (k := k) h1 h2
    have hyes := ask_yes (ls := A.ls) (l := l)
    have hge := fun r => fnd_ge A.ls r
    have hl1 := (Al.ok_ltrs hok).1
    have hat := hR.at_
    have hcl0 := fun W (hb : Below w.heap.size w W) => (hR.next hb).cells
    have hbig := hR.big
    obtain ⟨E, hE⟩ : ∃ E, E = askE A l := ⟨_, rfl⟩
    rw [← hE]
    have hE0 : askB A.ls l = true → E = 0 := fun h => by rw [hE]; unfold askE; rw [hok, h]; rfl
    have hE5 : askB A.ls l = false → E = 5 := fun h => by rw [hE]; unfold askE; rw [hok, h]; rfl
    obtain ⟨G, hG⟩ : ∃ G, G = fun r => fnd A.ls r 0 := ⟨_, rfl⟩
    have hG' : ∀ r, fnd A.ls r 0 = G r := fun r => by rw [hG]
    simp only [hG'] at kf hno hyes hge
    obtain ⟨B, hB⟩ : ∃ B, B = askB A.ls l := ⟨_, rfl⟩
    rw [← hB] at hno hyes hE0 hE5
    have hge' : ∀ r, -1 ≤ G r ∧ G r ≤ 128 := fun r => by rcases hge r with h | h <;> omega
    obtain ⟨pf, pl, nf, cf, nl, cl, hv, hnf, hnl, hpl, hcl, hpf, hcf⟩ := A.parts
    rw [hv] at kc kf ⊢
    have hs := Bx.start (F := .slice pf nf cf) (L := .slice pl nl cl) hA
    obtain ⟨n, hn⟩ : ∃ n, n = l.length := ⟨_, rfl⟩
    rw [← hn] at hno hyes hat hcl0 hbig ⊢
    have KC := Lib.hid kc; have KF := Lib.hid kf; have HS := Lib.hid hs; have HNO := Lib.hid hno; have HYES := Lib.hid hyes; have HGE := Lib.hid hge'; have HAT := Lib.hid hat; have HCL := Lib.hid hcl0
    have HE0 := Lib.hid hE0; have HE5 := Lib.hid hE5
    clear kc kf hA hs hv hnf hnl hpl hcl hpf hcf hok hR hno hyes hge hge' hat hcl0 hG hG' hB hE hE0 hE5 hn hl1 h128
    go_enter Try.func65, Try.ntmps65
    go_wp2_with fail
    refine (KC.out _ HS.out.i).mono ?_
    rintro e w1 ⟨rfl, hb1⟩
    have HX1 := Lib.hid (HS.out.next hb1)
    clear hb1 HS
    go_wp2_with fail
    go_loopw [5] (fun iv wr => ∃ k : Nat, iv = .int .i64 k ∧ k ≤ n ∧ Hid (∀ j, j < k → 0 ≤ G (l.getD j 0)) ∧ Hid (Bx A (.slice pf nf cf) (.slice pl nl cl) w w.heap.size wr)) (fun iv _ => n - (intOf iv).toNat)
    case atStart => exact ⟨0, rfl, Nat.zero_le _, Lib.hid (fun j h => absurd h (by omega)), HX1⟩
    case round =>
      clear HX1
      obtain ⟨k, rfl, hk, HF, HX⟩ := hrel
      obtain ⟨c0, c1, hltb⟩ : wr.cell? ⟨w.heap.size, 0, none⟩ = some (.slice pf nf cf) ∧ wr.cell? ⟨w.heap.size, 1, none⟩ = some (.slice pl nl cl) ∧ w.heap.size < wr.heap.size := ⟨HX.out.c0, HX.out.c1, HX.out.lt⟩
      by_cases hkn : k < n
      · obtain rfl := HAT.out (by omega)
        have a0 := HCL.out wr HX.out.below k hkn
        obtain ⟨q, hq⟩ : ∃ q, q = l.getD k 0 := ⟨_, rfl⟩
        rw [← hq] at a0
        have kf := KF.out q
        have hg := HGE.out q
        obtain ⟨g, hgg⟩ : ∃ g, g = G q := ⟨_, rfl⟩
        rw [← hgg] at kf hg
        have KQ := Lib.hid kf; have HQ := Lib.hid hq; have HGG := Lib.hid hgg
        clear kf hq hgg
        go_wp2_with fail
        go_still_tail 5, (by kernel_rfl)
        change wpList _ _ _ _ _ wr.drew
        have hdr : Below wr.heap.size wr wr.drew := (Below.refl _ _).drew
        have HXd := Lib.hid (HX.out.next hdr)
        obtain ⟨W1, hW1⟩ : ∃ W1, W1 = wr.drew := ⟨_, rfl⟩
        rw [← hW1] at HXd hdr ⊢
        clear hW1 hdr a0 c0 c1 hltb
        by_cases hg0 : g < 0
        · go_wp2_with fail
          refine (KQ.out _ HXd.out.i).mono ?_
          rintro e w3 ⟨rfl, hb3⟩
          have HB3 := Lib.hid (HXd.out.next hb3).below
          clear hb3
          go_wp2_with fail
          go_ret
          exact ⟨by rw [HE5.out (HNO.out k hkn (by rw [← HQ.out, ← HGG.out]; exact hg0))] <;> rfl, HB3.out⟩
        · have hg0' : 0 ≤ g := by omega
          have HG0 := Lib.hid hg0'
          go_wp2_with fail
          refine (KQ.out _ HXd.out.i).mono ?_
          rintro e w3 ⟨rfl, hb3⟩
          have HX3 := Lib.hid (HXd.out.next hb3)
          clear hb3
          go_wp2_with fail
          go_roundw
          case rel =>
            refine ⟨k + 1, by go_num, by omega, Lib.hid (fun j hj => ?_), HX3⟩
            by_cases hjk : j = k
            · rw [hjk, ← HQ.out, ← HGG.out]; exact HG0.out
            · exact HF.out j (by omega)
          case measure => simp [intOf]; omega
      · obtain rfl : k = n := by omega
        have HB := Lib.hid HX.out.below
        go_wp2_with fail
        go_ret
        exact ⟨by rw [HE0.out (HYES.out HF.out)] <;> rfl, HB.out⟩

theorem rs_at {W : World} {b : Nat} {r : Int} (h : W.cell? ⟨b, 0, none⟩ = some (.int .i32 r)) : RsIn (some ⟨b, 0, none⟩) b 0 [r] W :=
  ⟨fun _ => rfl, fun j hj => by
    have : j = 0 := by simp at hj; omega
    subst this
    exact h, by simp⟩
theorem cell_new (W : World) (b : Nat) (hb : b = W.heap.size) (v : Value) (t : TypeId) : (W.alloc (.cells #[v] t)).cell? ⟨b, 0, none⟩ = some v := by subst hb; simp
theorem of_cases (A : Al) (r : Int) : (∃ E : Int, E ≠ 0 ∧ askE A [r] = E ∧ ofR A r = (zeroL, E)) ∨
    (∃ j, j < A.ls.length ∧ A.ok = true ∧ askE A [r] = 0 ∧ fnd A.ls r 0 = (j : Int) ∧ ofR A r = (A.ls.getD j default, 0)) := by
  cases hok : A.ok with
  | false => exact Or.inl ⟨7, by decide, by unfold askE; rw [hok]; rfl, by unfold ofR; rw [hok]; rfl⟩
  | true =>
    rcases fnd_findL A.ls r with ⟨h1, h2⟩ | ⟨j, hj, h1, h2⟩
    · refine Or.inl ⟨5, by decide, ?_, ?_⟩
      · unfold askE askB; rw [hok]; simp [h2]
      · unfold ofR lofR; rw [hok, h1]; rfl
    · refine Or.inr ⟨j, hj, rfl, ?_, h2, ?_⟩
      · unfold askE askB; rw [hok]; simp [h2]
      · unfold ofR lofR; rw [hok, h1]; rfl

theorem cell_set3 (w : World) (b c o : Nat) (x y z v : Value) (hne : c ≠ b) (h : w.cell? ⟨c, o, none⟩ = some v) : (((w.setCell ⟨b, 0, none⟩ x).setCell ⟨b, 1, none⟩ y).setCell ⟨b, 2, none⟩ z).cell? ⟨c, o, none⟩ = some v := by
  have e : (((w.setCell ⟨b, 0, none⟩ x).setCell ⟨b, 1, none⟩ y).setCell ⟨b, 2, none⟩ z).heap[c]? = w.heap[c]? := by
    rw [Below.heap_setCell _ _ _ _ hne, Below.heap_setCell _ _ _ _ hne, Below.heap_setCell _ _ _ _ hne]
  exact (World.cell?_of_block (a := ⟨c, o, none⟩) e).trans h
set_option maxHeartbeats 4000000 in
set_option maxRecDepth 100000 in
theorem rof_any (A : Al) (r : Int) (w : World) (hA : A.In w) : Calls Try.prog 17 #[A.v, .int .i32 r] w (LofPost (ofR A r) w) := by
  have ka : ∀ b W, A.In W → W.cell? ⟨b, 0, none⟩ = some (.int .i32 r) → Calls Try.prog 65 #[A.v, .slice (some ⟨b, 0, none⟩) 1 1] W (RchkPost (askE A [r]) W) := fun b W h1 h2 => rasked_any A _ b 0 1 [r] W h1 (rs_at h2)
  unfold RchkPost at ka
  unfold LofPost
  have hb := Bx.start (F := .slice A.pf A.fs.length A.cf) (L := .slice A.pl A.ls.length A.cl) hA
  rcases of_cases A r with ⟨E, hE, ha, ho⟩ | ⟨j, hj, hok, ha, hf, ho⟩
  · rw [ha] at ka
    rw [ho]
    obtain ⟨pf, pl, nf, cf, nl, cl, hv, hnf, hnl, hpl, hcl, hpf, hcf⟩ := A.parts
    rw [hv] at ka ⊢
    have hE' : (E == 0) = false := by rw [beq_eq_false_iff_ne]; exact hE
    have KA := Lib.hid ka; have HA := Lib.hid hA
    clear ka hA hv hnf hnl hpl hcl hpf hcf ha ho hE hb
    go_enter Try.func17, Try.ntmps17
    go_wp2_with fail
    refine (KA.out _ _ (((HA.out.alloc _).alloc _).alloc _) (cell_new _ _ (by simp) _ _)).mono ?_
    rintro e w1 ⟨rfl, hb1⟩
    obtain ⟨hcc, hff⟩ := bcell hb1
    have hz1 := hb1.size
    simp only [World.size_alloc] at hz1
    have HB1 := Lib.hid hb1
    clear hb1
    go_wp2_with fail
    refine bodyPost_ret (v := .tuple #[.agg #[.int .i32 0, .int .u32 0, .int .u32 0], .int .i64 E]) (by simp [results, Try.results17, go_sem, *]) rfl ⟨rfl, ?_⟩
    exact ((((((((Below.refl _ _).alloc (Nat.le_refl _) _).alloc (by simp) _).alloc (by simp; omega) _).trans (HB1.out.mono (by simp; omega))).setCell (by simp) _).setCell (by simp) _).setCell (by simp) _)
  · rw [ha] at ka
    rw [ho]
    have h128 := (Al.ok_ltrs hok).2
    have kf := fun W h => rfind_any A r W h h128
    rw [hf] at kf
    have hat := hA.L.at_
    have hL := fun W (h : A.In W) => h.L
    obtain ⟨ls, hls⟩ : ∃ l, l = A.ls := ⟨_, rfl⟩
    obtain ⟨bl, hbl⟩ : ∃ l, l = A.bl := ⟨_, rfl⟩
    obtain ⟨l0, hl0⟩ : ∃ l, l = A.l0 := ⟨_, rfl⟩
    obtain ⟨pf, pl, nf, cf, nl, cl, hv, hnf, hnl, hpl, hcl, hpf, hcf⟩ := A.parts
    rw [hv] at ka kf ⊢
    have hcells : ∀ W, A.In W → W.cell? ⟨bl, l0 + j * 3, none⟩ = some (.int .i32 (ls.getD j default).r) ∧ W.cell? ⟨bl, l0 + j * 3 + 1, none⟩ = some (.int .u32 (ls.getD j default).p) ∧ W.cell? ⟨bl, l0 + j * 3 + 2, none⟩ = some (.int .u32 (ls.getD j default).m) := fun W h => by
      rw [hls, hbl, hl0]; exact ⟨(hL W h).cr j hj, (hL W h).cp j hj, (hL W h).cm j hj⟩
    obtain rfl : pl = some ⟨bl, l0, none⟩ := by rw [hpl, hbl, hl0]; exact hat (by omega)
    have hjn : j < nl := by rw [hnl]; exact hj
    have hblb : bl ≠ w.heap.size + 1 := by have := lt_of_cell (hcells w hA).1; omega
    have HNB := Lib.hid hblb
    clear hblb
    rw [← hls]
    obtain ⟨q, hq⟩ : ∃ q, q = ls.getD j default := ⟨_, rfl⟩
    rw [← hq] at hcells ⊢
    obtain ⟨q, qp, qm⟩ := q
    simp only [] at hcells ⊢
    have hs : Bx A (.slice pf nf cf) (.slice (some ⟨bl, l0, none⟩) nl cl) w w.heap.size (w.alloc (.cells #[.slice pf nf cf, .slice (some ⟨bl, l0, none⟩) nl cl] 26)) := Bx.start hA
    have KA := Lib.hid ka; have KF := Lib.hid kf; have HS := Lib.hid hs; have HC := Lib.hid hcells
    clear ka kf hA hs hv hnf hnl hpl hcl hpf hcf ha ho hok hf hat hL hls hbl hl0 hcells hj hq hb h128
    go_enter Try.func17, Try.ntmps17
    go_wp2_with fail
    refine (KA.out _ _ ((HS.out.alloc _).alloc _).i (cell_new _ _ (by simp) _ _)).mono ?_
    rintro e w1 ⟨rfl, hb1⟩
    have hx1 := ((HS.out.alloc _).alloc _).next hb1
    obtain ⟨hcc, hff⟩ := bcell hb1
    have hz1 := hb1.size
    simp only [World.size_alloc] at hz1
    obtain ⟨c0, c1, hltb⟩ : w1.cell? ⟨w.heap.size, 0, none⟩ = some (.slice pf nf cf) ∧ w1.cell? ⟨w.heap.size, 1, none⟩ = some (.slice (some ⟨bl, l0, none⟩) nl cl) ∧ w.heap.size < w1.heap.size := ⟨hx1.c0, hx1.c1, hx1.lt⟩
    have HX1 := Lib.hid hx1; have HB1 := Lib.hid hb1
    clear hb1 hx1
    go_wp2_with fail
    have C := Lib.hid (fun W (hb : Below w1.heap.size w1 W) => (KF.out W (HX1.out.i.next hb)).mono fun e w' (h : e = _ ∧ Below W.heap.size W w') => (⟨h.1, hb.trans (h.2.mono hb.size)⟩ : e = _ ∧ Below w1.heap.size w1 w'))
    have HCB := Lib.hid (fun W (hb : Below w1.heap.size w1 W) => HC.out W (HX1.out.i.next hb))
    have HBB := Lib.hid (fun W (hb : Below w1.heap.size w1 W) => HB1.out.trans (hb.mono HB1.out.size))
    have hz0 : w.heap.size + 1 < w1.heap.size := by omega
    clear hcc hff
    obtain ⟨a0, a1, a2⟩ := HCB.out w1 (Below.refl _ _)
    have hbl1 : bl < w1.heap.size := lt_of_cell a0
    have HBW := Lib.hid HX1.out.below
    have hne1 : w.heap.size ≠ w.heap.size + 1 := by omega
    have hblw : bl ≠ w.heap.size + 1 := HNB.out
    go_region_held3 (fun w' => Below w.heap.size w w' ∧ w'.cell? ⟨w.heap.size, 0, none⟩ = some (.slice pf nf cf) ∧ w'.cell? ⟨w.heap.size, 1, none⟩ = some (.slice (some ⟨bl, l0, none⟩) nl cl) ∧ w'.cell? ⟨bl, l0 + j * 3, none⟩ = some (.int .i32 q) ∧ w'.cell? ⟨bl, l0 + j * 3 + 1, none⟩ = some (.int .u32 qp) ∧ w'.cell? ⟨bl, l0 + j * 3 + 2, none⟩ = some (.int .u32 qm)) (first | exact ⟨HBW.out.drew, c0, c1, a0, a1, a2⟩ | exact ⟨HBW.out.trans (hacc.mono HBW.out.size), (hacc.cell (p := ⟨w.heap.size, 0, none⟩) hltb).trans c0, (hacc.cell (p := ⟨w.heap.size, 1, none⟩) hltb).trans c1, (hacc.cell (p := ⟨bl, l0 + j * 3, none⟩) hbl1).trans a0, (hacc.cell (p := ⟨bl, l0 + j * 3 + 1, none⟩) hbl1).trans a1, (hacc.cell (p := ⟨bl, l0 + j * 3 + 2, none⟩) hbl1).trans a2⟩ | exact ⟨bset3 (HBW.out.trans (hacc.mono HBW.out.size)) _ (Nat.le_succ _) _ _ _, cell_set3 _ _ _ _ _ _ _ _ hne1 ((hacc.cell (p := ⟨w.heap.size, 0, none⟩) hltb).trans c0), cell_set3 _ _ _ _ _ _ _ _ hne1 ((hacc.cell (p := ⟨w.heap.size, 1, none⟩) hltb).trans c1), cell_set3 _ _ _ _ _ _ _ _ hblw ((hacc.cell (p := ⟨bl, l0 + j * 3, none⟩) hbl1).trans a0), cell_set3 _ _ _ _ _ _ _ _ hblw ((hacc.cell (p := ⟨bl, l0 + j * 3 + 1, none⟩) hbl1).trans a1), cell_set3 _ _ _ _ _ _ _ _ hblw ((hacc.cell (p := ⟨bl, l0 + j * 3 + 2, none⟩) hbl1).trans a2)⟩) (first | (go_at_call 66; refine (C.out _ (by first | exact (Below.refl _ _).drew | exact hacc | exact hacc.drew)).mono ?_; rintro _ w3 ⟨rfl, hacc⟩; obtain ⟨hcc, hff⟩ := bcell (HBB.out w3 hacc)))
    all_goals
      have HB4 := Lib.hid (HBB.out w3 hacc)
      (try go_wp2_with fail)
      refine bodyPost_ret (v := .tuple #[.agg #[.int .i32 q, .int .u32 qp, .int .u32 qm], .int .i64 0]) (by simp [results, Try.results17, go_sem, *]) rfl ⟨rfl, ?_⟩
      exact ((((((((Below.refl _ _).alloc (Nat.le_refl _) _).alloc (by simp) _).alloc (by simp; omega) _).trans (HB4.out.mono (by simp; omega))).setCell (by simp) _).setCell (by simp) _).setCell (by simp) _)
end Go.Proofs.Ytmbekgfbnapelaa
