/-
  WALKS: pattern.Parse.
  WALKS OF THE LIBRARY: (*strings.Builder).WriteString: which blocks it writes.
  WALKS: pattern.marksOf; a pattern's text, plain.
-/
import Derived.Laws.Cover4
import Derived.Laws.Concat
import Derived.Test.YtmechinlaladiaaDoorZAU
import Derived.Test.YtmechinlaladiaaDoorZAH
import Derived.Test.YtmechinlaladiaaDoorZAL
import Derived.Test.YtmechinlaladiaaDoorZAK
namespace Go.Proofs.YtmechinlaladiaaDoor
open Go.RowKit Go.Lib
set_option linter.unusedVariables false

def PaPost (x : List Nd × Nat × Int) (w : World) (e : Ending) (w' : World) : Prop := ∃ q : PtM, e = .returned (.tuple #[q.v, .int .i64 x.2.1, .int .i64 x.2.2]) ∧ nds q.ms = x.1 ∧ Mine w.heap.size q w' ∧ Below w.heap.size w w'
theorem pa_none {x : List Nd × Nat × Int} {w W : World} (at_ : Nat) (er : Int) (hx : x = ([], at_, er)) (hb : Below w.heap.size w W) (u : Value) : PaPost x w (.returned (.tuple #[.agg #[.slice none 0 0], .int .i64 at_, .int .i64 er])) (W.setCell ⟨w.heap.size + 1, 0, none⟩ u) := by
  subst hx
  exact ⟨⟨[], none, 0, 0, 0⟩, rfl, rfl, Mine.none _ _, hb.setCell (p := ⟨w.heap.size + 1, 0, none⟩) (Nat.le_succ _) u⟩
/-- Behind whole. -/
theorem who_bad {C : RdC} (ok : C.Ok) {R : Rs} {e : Ending} {w4 : World} (h : WhoPost C R e w4) (hR : (∃ b, R = .error b) ∨ ∃ t b, R = .ok (t, b) ∧ b ≠ (starts C.s).length) :
    ∃ (k : Int) (b : Nat), e = .returned (.tuple #[.int .i64 k, .bool false]) ∧ ((R = .error b) ∨ ∃ t, R = .ok (t, b) ∧ b ≠ (starts C.s).length) ∧ Below C.N C.W0 w4 ∧ Calls Tryd.prog 16 #[.pointer (some ⟨C.RB, 0, none⟩)] w4 fun e w' => e = .returned (.int .i64 (plR C.s b)) ∧ Below w4.heap.size w4 w' := by
  rcases hR with ⟨b, rfl⟩ | ⟨t, b, rfl, hb⟩
  · obtain ⟨he, hle, v', hA⟩ := h
    exact ⟨0, b, he, Or.inl rfl, hA.below, place_any C ok b v' w4 hA hle⟩
  · obtain ⟨k, v', ms', he, hle, hA, _⟩ := h
    rw [decide_eq_false hb] at he
    exact ⟨k, b, he, Or.inr ⟨t, rfl, hb⟩, hA.below, place_any C ok b v' w4 hA hle⟩
theorem who_good {C : RdC} (ok : C.Ok) {t : Tr} {e : Ending} {w4 : World} (h : WhoPost C (.ok (t, (starts C.s).length)) e w4) :
    ∃ (k : Nat) (o : Option Addr) (n c : Nat), e = .returned (.tuple #[.int .i64 k, .bool true]) ∧ n = t.sz ∧ n ≤ 65536 ∧ Below C.N C.W0 w4 ∧ w4.cell? ⟨C.RB, 6, none⟩ = some (.slice o n c) ∧ Calls Tryd.prog 17 #[.slice o n c, .int .i64 k] w4 (MkPost (t.flat 0) w4) := by
  obtain ⟨k, v', ms', he, hle, hA, hN, hat, hsz, hb⟩ := h
  have hbig := starts_most C.s
  have hsize := ok.size
  obtain ⟨pn, bn, c, hv, hin, _⟩ := hN.out.nsin (by omega)
  rw [decide_eq_true rfl] at he
  have c6 := hA.c6
  rw [hv] at c6
  exact ⟨k, pn, ms'.length, c, he, hsz, by omega, hA.below, c6, numbered_any pn bn 0 c ms' w4 hin (k : Int) t hat (by omega)⟩
set_option maxHeartbeats 4000000 in
set_option maxRecDepth 100000 in
theorem pparse_any (A : Al) (s : ByteArray) (w : World) (hA : A.In w) (hT : Tabs w) : Calls Tryd.prog 4 #[A.v, .string s] w (PaPost (rdR A s) w) := by
  have hv : A.v = .agg #[.slice A.pf A.fs.length A.cf, .slice A.pl A.ls.length A.cl] := rfl
  have hro := fun W hW => rowOf_any A W hW
  unfold ClsPost at hro
  obtain ⟨W0, hW0⟩ : ∃ W0, W0 = (w.alloc (.cells #[.slice A.pf A.fs.length A.cf, .slice A.pl A.ls.length A.cl] 31)).alloc (.cells #[.slice none 0 0] 24) := ⟨_, rfl⟩
  have hB0 : Below w.heap.size w W0 := by rw [hW0]; exact ((Below.refl _ _).alloc (Nat.le_refl _) _).alloc (by simp) _
  have hz0 : W0.heap.size = w.heap.size + 2 := by rw [hW0]; simp
  obtain ⟨a0, a1, r0, rf⟩ : W0.cell? ⟨w.heap.size, 0, none⟩ = some (.slice A.pf A.fs.length A.cf) ∧ W0.cell? ⟨w.heap.size, 1, none⟩ = some (.slice A.pl A.ls.length A.cl) ∧ W0.cell? ⟨w.heap.size + 1, 0, none⟩ = some (.slice none 0 0) ∧ W0.frozen? ⟨w.heap.size + 1, 0, none⟩ = false := by
    have e : w.heap.size + 1 = (w.alloc (.cells #[.slice A.pf A.fs.length A.cf, .slice A.pl A.ls.length A.cl] 31)).heap.size := by simp
    rw [hW0]
    refine ⟨by simp, by simp, ?_, ?_⟩
    · rw [e]; simp
    · rw [e]; simp
  have hro0 := hro W0 (hA.next hB0)
  obtain ⟨R, hR⟩ : ∃ R, R = rdR A s := ⟨_, rfl⟩
  have hRR : R = (if aacR A 0 0 ≠ 0 then ([], 0, aacR A 0 0)
    else if 65536 < s.size then ([], 0, 3)
    else match rdF A s (2 * (starts s).length + 1) .node 0 with
      | .error e => ([], plR s e, 40)
      | .ok (t, b) => if b = (starts s).length then (if t.sz ≤ 256 then (t.flat 0, 0, 0) else ([], 0, 4)) else ([], plR s b, 40)) := hR
  rw [← hR, hv]
  rw [hv] at hro0
  obtain ⟨E, hE⟩ : ∃ E, E = aacR A 0 0 := ⟨_, rfl⟩
  rw [← hE] at hRR hro0
  have HRO := Lib.hid hro0; have HRR := Lib.hid hRR; have HA := Lib.hid hA; have HT := Lib.hid hT; have HB0 := Lib.hid hB0; have HW0 := Lib.hid hW0; have HZ0 := Lib.hid hz0
  have A0 := Lib.hid a0; have A1 := Lib.hid a1; have R0 := Lib.hid r0; have RF := Lib.hid rf
  clear hro hro0 hRR hA hT hB0 hW0 hz0 hv hR a0 a1 r0 rf hE
  by_cases hE : E = 0
  · subst hE
    by_cases hs : s.size ≤ 65536
    · have hX : R = (match rdF A s (2 * (starts s).length + 1) .node 0 with
        | .error e => ([], plR s e, 40)
        | .ok (t, b) => if b = (starts s).length then (if t.sz ≤ 256 then (t.flat 0, 0, 0) else ([], 0, 4)) else ([], plR s b, 40)) := by rw [HRR.out, if_neg (by simp), if_neg (by omega)]
      have HPI := Lib.hid (fun W hT => pieces_any s W hs hT)
      have hwho := fun rp rb rc qv qb W2 h1 h2 h3 w1 h4 => rwhole_any A s rp rb rc qv qb W2 h1 h2 h3 hs w1 h4
      have hCok := fun rp rb rc qv qb W2 (h1 : A.In W2) (h2 : RsIn rp rb 0 (clsR A 0 0) W2) (h3 : PiecesAt s qb W2 qv) => (show (rcOf A s rp rb rc qv qb W2).Ok from ⟨h1, h2, h3, hs, rfl, Nat.le_refl _, Nat.le_add_right _ _, Nat.le_add_right _ _, by simp [rcOf], by simp [rcOf], by simp [rcOf]⟩)
      have hbig : (clsR A 0 0).length ≤ 140737488355328 := by
        have h1 : (clsR A 0 0).length ≤ A.ls.length := by
          unfold clsR clsL
          split
          · rw [List.length_map]; exact List.length_filter_le _ _
          · exact Nat.zero_le _
        have := HA.out.L.big
        omega
      obtain ⟨Q, hQ⟩ : ∃ Q, Q = rdF A s (2 * (starts s).length + 1) .node 0 := ⟨_, rfl⟩
      rw [← hQ] at hX hwho
      have HX := Lib.hid hX; have HWHO := Lib.hid hwho; have HOK := Lib.hid hCok; have HBIG := Lib.hid hbig
      clear HRR hX hwho hCok hbig hQ hs
      go_enter Tryd.func4, Tryd.ntmps4
      go_wp2_with fail
      rw [← HW0.out]
      (with_reducible refine (HRO.out).mono ?_)
      rintro e W1 ⟨v, rfl, ho, hb1⟩
      obtain ⟨rp, rb, rc, rfl, hrow⟩ := own_rs ho HBIG.out
      have hB1 := HB0.out.trans (hb1.mono (by have := HZ0.out; omega))
      have r1 := (hb1.cell (p := ⟨w.heap.size + 1, 0, none⟩) (by have := HZ0.out; show w.heap.size + 1 < _; omega)).trans R0.out
      have rf1 := (hb1.frozen (p := ⟨w.heap.size + 1, 0, none⟩) (by have := HZ0.out; show w.heap.size + 1 < _; omega)).trans RF.out
      have a01 := (hb1.cell (p := ⟨w.heap.size, 0, none⟩) (by have := HZ0.out; show w.heap.size < _; omega)).trans A0.out
      have a11 := (hb1.cell (p := ⟨w.heap.size, 1, none⟩) (by have := HZ0.out; show w.heap.size < _; omega)).trans A1.out
      have hz1 : w.heap.size + 1 < W1.heap.size := blk_of_cell r1
      have HB1 := Lib.hid hB1; have HROW := Lib.hid hrow; have HZ1 := Lib.hid hz1; have R1 := Lib.hid r1; have RF1 := Lib.hid rf1; have A01 := Lib.hid a01; have A11 := Lib.hid a11
      clear ho hb1 HRO hB1 hrow hz1 R0 RF A0 A1 r1 rf1 a01 a11
      go_wp2_with fail
      (with_reducible refine (HPI.out _ (HT.out.next HB1.out)).mono ?_)
      rintro e W2 ⟨qv, rfl, hpc, hb2⟩
      obtain ⟨qo, qn, qc, rfl⟩ : ∃ o n c, qv = .slice o n c := by obtain ⟨o, c, h⟩ := own_shape hpc; exact ⟨o, _, c, h⟩
      have hB2 := HB1.out.trans (hb2.mono (by have := HZ1.out; omega))
      have r2 := (hb2.cell (p := ⟨w.heap.size + 1, 0, none⟩) HZ1.out).trans R1.out
      have rf2 := (hb2.frozen (p := ⟨w.heap.size + 1, 0, none⟩) HZ1.out).trans RF1.out
      have a02 := (hb2.cell (p := ⟨w.heap.size, 0, none⟩) (by have := HZ1.out; show w.heap.size < _; omega)).trans A01.out
      have a12 := (hb2.cell (p := ⟨w.heap.size, 1, none⟩) (by have := HZ1.out; show w.heap.size < _; omega)).trans A11.out
      have hA2 := HA.out.next hB2
      have hrow2 := HROW.out.next hb2
      have hok := HOK.out rp rb rc _ _ W2 hA2 hrow2 hpc
      have hcall := HWHO.out rp rb rc _ _ W2 hA2 hrow2 hpc _ rfl
      have hz2 : w.heap.size + 1 < W2.heap.size := blk_of_cell r2
      obtain ⟨C, hC⟩ : ∃ C, C = rcOf A s rp rb rc (.slice qo qn qc) W1.heap.size W2 := ⟨_, rfl⟩
      have hCR : C.RB = W2.heap.size := by rw [hC]; rfl
      have hCN : C.N = W2.heap.size := by rw [hC]; rfl
      have hCW : C.W0 = W2 := by rw [hC]; rfl
      have hCs : C.s = s := by rw [hC]; rfl
      rw [← hC] at hok hcall
      have HOK2 := Lib.hid hok; have HCALL := Lib.hid hcall; have HB2 := Lib.hid hB2; have HZ2 := Lib.hid hz2; have R2 := Lib.hid r2; have RF2 := Lib.hid rf2
      have HCR := Lib.hid hCR; have HCN := Lib.hid hCN; have HCW := Lib.hid hCW; have HCS := Lib.hid hCs
      clear hpc hb2 HPI HWHO HOK HROW hB2 hA2 hrow2 hok hcall hz2 hC HB1 HZ1 R1 RF1 A01 A11 r2 rf2 hCR hCN hCW hCs
      go_wp2_with fail
      (with_reducible refine (HCALL.out).mono ?_)
      intro e W4 hw4
      clear HCALL
      by_cases hgood : ∃ t, Q = .ok (t, (starts s).length)
      · obtain ⟨t, hQ⟩ := hgood
        rw [hQ, ← HCS.out] at hw4
        obtain ⟨k, o, n, c, rfl, hn, hn6, hbl, c6, hnum⟩ := who_good HOK2.out hw4
        rw [HCN.out, HCW.out] at hbl
        rw [HCR.out] at c6
        have r4 := (hbl.cell (p := ⟨w.heap.size + 1, 0, none⟩) HZ2.out).trans R2.out
        have rf4 := (hbl.frozen (p := ⟨w.heap.size + 1, 0, none⟩) HZ2.out).trans RF2.out
        have hB4 := HB2.out.trans (hbl.mono (by have := HZ2.out; omega))
        have hz4 := blk_of_cell r4
        have hRx : R = (if t.sz ≤ 256 then (t.flat 0, 0, 0) else ([], 0, 4)) := by rw [HX.out, hQ]; simp
        have HNUM := Lib.hid hnum; have HB4 := Lib.hid hB4; have HRX := Lib.hid hRx; have HZ4 := Lib.hid hz4; have HN := Lib.hid hn
        clear hw4 hnum hbl hB4 hRx hz4 hQ HX hn
        by_cases h256 : n ≤ 256
        · have HX2 := Lib.hid (show R = (t.flat 0, 0, 0) by rw [HRX.out, if_pos (by rw [← HN.out]; exact h256)])
          clear HRX
          go_wp2_with fail
          (with_reducible refine (HNUM.out).mono ?_)
          rintro e W5 ⟨q, rfl, hq1, hq2, hq3⟩
          have hqv : q.v = .agg #[.slice q.pn q.ms.length q.c] := rfl
          rw [hqv]
          have r5 := (hq3.cell (p := ⟨w.heap.size + 1, 0, none⟩) HZ4.out).trans r4
          have rf5 := (hq3.frozen (p := ⟨w.heap.size + 1, 0, none⟩) HZ4.out).trans rf4
          have hfin : ∀ u, PaPost R w (.returned (.tuple #[.agg #[.slice q.pn q.ms.length q.c], .int .i64 0, .int .i64 0])) (W5.setCell ⟨w.heap.size + 1, 0, none⟩ u) := fun u => by
            rw [HX2.out]
            have hb2 : But (fun k => k = w.heap.size + 1) W5 (W5.setCell ⟨w.heap.size + 1, 0, none⟩ u) := (But.refl (fun k => k = w.heap.size + 1) W5).setCell (p := ⟨w.heap.size + 1, 0, none⟩) (fun _ => rfl) _
            have hz : w.heap.size + 1 < W4.heap.size := HZ4.out
            exact ⟨q, rfl, hq1, (hq2.keep hb2 (fun k h1 h2 e => by omega)).lower HB4.out.size, (HB4.out.trans (hq3.mono HB4.out.size)).setCell (p := ⟨w.heap.size + 1, 0, none⟩) (Nat.le_succ _) u⟩
          have HFIN := Lib.hid hfin
          obtain ⟨qp, hqp⟩ : ∃ z, z = q.pn := ⟨_, rfl⟩
          obtain ⟨ql, hql⟩ : ∃ z, z = q.ms.length := ⟨_, rfl⟩
          obtain ⟨qq, hqq⟩ : ∃ z, z = q.c := ⟨_, rfl⟩
          rw [← hqp, ← hql, ← hqq] at HFIN ⊢
          clear hq1 hq2 hq3 hqv hfin HNUM hqp hql hqq r4 rf4 c6
          go_wp2_with fail
          refine bodyPost_ret (v := .tuple #[.agg #[.slice qp ql qq], .int .i64 0, .int .i64 0]) (by simp [results, Tryd.results4, go_sem, *]) rfl ?_
          exact HFIN.out _
        · have HX2 := Lib.hid (show R = ([], 0, 4) by rw [HRX.out, if_neg (by rw [← HN.out]; exact h256)])
          have HFIN := Lib.hid (fun u => pa_none 0 4 HX2.out HB4.out u)
          have q1 : (256 : Int) < (n : Int) := by omega
          clear HRX HNUM h256
          go_wp2_with fail
          refine bodyPost_ret (v := .tuple #[.agg #[.slice none 0 0], .int .i64 0, .int .i64 4]) (by simp [results, Tryd.results4, go_sem, *]) rfl ?_
          exact HFIN.out _
      · have hcs : (∃ b, Q = .error b) ∨ ∃ t b, Q = .ok (t, b) ∧ b ≠ (starts C.s).length := by
          cases Q with
          | error b => exact Or.inl ⟨b, rfl⟩
          | ok q =>
            obtain ⟨t, b⟩ := q
            exact Or.inr ⟨t, b, rfl, fun e => hgood ⟨t, by rw [e, HCS.out]⟩⟩
        obtain ⟨k, b, rfl, hRb, hbl, hpl⟩ := who_bad HOK2.out hw4 hcs
        rw [HCN.out, HCW.out] at hbl
        rw [HCR.out, HCS.out] at hpl
        rw [HCS.out] at hRb
        have r4 := (hbl.cell (p := ⟨w.heap.size + 1, 0, none⟩) HZ2.out).trans R2.out
        have rf4 := (hbl.frozen (p := ⟨w.heap.size + 1, 0, none⟩) HZ2.out).trans RF2.out
        have hB4 := HB2.out.trans (hbl.mono (by have := HZ2.out; omega))
        have hz4 := blk_of_cell r4
        have hRx : R = ([], plR s b, 40) := by
          rw [HX.out]
          rcases hRb with h | ⟨t, h, hne⟩
          · rw [h]
          · rw [h]; simp [hne]
        obtain ⟨y, hy⟩ : ∃ y, y = plR s b := ⟨_, rfl⟩
        rw [← hy] at hpl hRx
        have HPL := Lib.hid hpl; have HB4 := Lib.hid hB4; have HRX := Lib.hid hRx; have HZ4 := Lib.hid hz4
        clear hw4 hpl hbl hB4 hRx hz4 hRb HX hcs hgood hy
        go_wp2_with fail
        (with_reducible refine (HPL.out).mono ?_)
        rintro e W5 ⟨rfl, hb5⟩
        have r5 := (hb5.cell (p := ⟨w.heap.size + 1, 0, none⟩) HZ4.out).trans r4
        have rf5 := (hb5.frozen (p := ⟨w.heap.size + 1, 0, none⟩) HZ4.out).trans rf4
        have HFIN := Lib.hid (fun u => pa_none y 40 HRX.out (HB4.out.trans (hb5.mono HB4.out.size)) u)
        clear hb5 HPL r4 rf4
        go_wp2_with fail
        refine bodyPost_ret (v := .tuple #[.agg #[.slice none 0 0], .int .i64 y, .int .i64 40]) (by simp [results, Tryd.results4, go_sem, *]) rfl ?_
        exact HFIN.out _
    · have HX := Lib.hid (show R = ([], 0, 3) by rw [HRR.out, if_neg (by simp), if_pos (by omega)])
      have HPI := Lib.hid (fun W => pieces_long s W hs)
      clear HRR
      go_enter Tryd.func4, Tryd.ntmps4
      go_wp2_with fail
      rw [← HW0.out]
      (with_reducible refine (HRO.out).mono ?_)
      rintro e W1 ⟨v, rfl, ho, hb1⟩
      obtain ⟨ro, rc, rfl⟩ := ownF_shape ho
      have r1 := (hb1.cell (p := ⟨w.heap.size + 1, 0, none⟩) (by have := HZ0.out; show w.heap.size + 1 < _; omega)).trans R0.out
      have rf1 := (hb1.frozen (p := ⟨w.heap.size + 1, 0, none⟩) (by have := HZ0.out; show w.heap.size + 1 < _; omega)).trans RF.out
      have HFIN := Lib.hid (fun u => pa_none 0 3 HX.out (HB0.out.trans (hb1.mono (by have := HZ0.out; omega))) u)
      clear ho hb1 HRO
      go_wp2_with fail
      (with_reducible refine (HPI.out _).mono ?_)
      rintro e W2 ⟨rfl, hw⟩
      subst hw
      clear HPI
      go_wp2_with fail
      refine bodyPost_ret (v := .tuple #[.agg #[.slice none 0 0], .int .i64 0, .int .i64 3]) (by simp [results, Tryd.results4, go_sem, *]) rfl ?_
      exact HFIN.out _
  · have HX := Lib.hid (show R = ([], 0, E) by rw [HRR.out, if_pos hE])
    have q1 : ((E : Int) == 0) = false := by simpa using hE
    have q2 : ((E : Int) != 0) = true := by simpa using hE
    clear HRR hE
    go_enter Tryd.func4, Tryd.ntmps4
    go_wp2_with fail
    rw [← HW0.out]
    (with_reducible refine (HRO.out).mono ?_)
    rintro e W1 ⟨v, rfl, ho, hb1⟩
    obtain ⟨ro, rc, rfl⟩ := ownF_shape ho
    have r1 := (hb1.cell (p := ⟨w.heap.size + 1, 0, none⟩) (by have := HZ0.out; show w.heap.size + 1 < _; omega)).trans R0.out
    have rf1 := (hb1.frozen (p := ⟨w.heap.size + 1, 0, none⟩) (by have := HZ0.out; show w.heap.size + 1 < _; omega)).trans RF.out
    have HFIN := Lib.hid (fun u => pa_none 0 E HX.out (HB0.out.trans (hb1.mono (by have := HZ0.out; omega))) u)
    clear ho hb1 HRO
    go_wp2_with fail
    refine bodyPost_ret (v := .tuple #[.agg #[.slice none 0 0], .int .i64 0, .int .i64 E]) (by simp [results, Tryd.results4, go_sem, *]) rfl ?_
    exact HFIN.out _
end Go.Proofs.YtmechinlaladiaaDoor
namespace Go.Proofs.YtmechinlaladiaaDoor
open Go.RowKit Go.Lib
set_option linter.unusedVariables false

/-- The builder's box, and the rows of bytes from N on. -/
def U8 (N b : Nat) (w : World) (k : Nat) : Prop := k = b ∨ (N ≤ k ∧ ∃ c f, w.heap[k]? = some (.cells c 5 f))
theorem U8.keep {N b : Nat} {w w' : World} (h : But (U8 N b w) w w') {k : Nat} {cs : Array Value} {T : TypeId} {fr : Nat × Nat} (hk : w.heap[k]? = some (.cells cs T fr)) (hb : k ≠ b) (hT : T ≠ 5) : w'.heap[k]? = some (.cells cs T fr) := by
  have hlt : k < w.heap.size := (Array.getElem?_eq_some_iff.1 hk).1
  rw [h.block k hlt, hk]
  rintro (e | ⟨_, c, f, e⟩)
  · exact hb e
  · rw [hk] at e
    injection e with e
    injection e with _ e _
    exact hT e
theorem U8.back {N b : Nat} {w w' : World} (h : But (U8 N b w) w w') (i : Nat) (hi : i < w.heap.size) (e : U8 N b w' i) : U8 N b w i := by
  rcases Classical.em (U8 N b w i) with g | g
  · exact g
  · rcases e with e | ⟨hN, c, f, e⟩
    · exact Or.inl e
    · rw [h.block i hi g] at e
      exact Or.inr ⟨hN, c, f, e⟩
theorem U8.trans {N b : Nat} {w w1 w2 : World} (h : But (U8 N b w) w w1) (k : But (U8 N b w1) w1 w2) : But (U8 N b w) w w2 := h.trans k (fun i hi e => U8.back h i hi e)
theorem U8.below {N b : Nat} {w w' : World} (h : But (U8 N b w) w w') (hN : N ≤ w.heap.size) (hb : N ≤ b) : Below N w w' := h.below hN (fun k hk e => by
  rcases e with e | ⟨e, _⟩ <;> omega)
theorem U8.of_below {N b : Nat} {w w' : World} (h : Below w.heap.size w w') : But (U8 N b w) w w' := But.of_below h
theorem isB_next {N b : Nat} {bs : List Value} {w w' : World} (h : IsB N b bs w) (hb : Below w.heap.size w w') : IsB N b bs w' := by
  have key : ∀ p, BAt N b p bs w → BAt N b p bs w' := fun p hp => by
    obtain ⟨hN, v, hbk, hown, hne⟩ := hp
    exact ⟨hN, v, (hb.block b (Array.getElem?_eq_some_iff.1 hbk).1).trans hbk, ownN_below hown hb, hne⟩
  exact h.imp (key _) (key _)
set_option maxHeartbeats 2000000 in
set_option maxRecDepth 100000 in
theorem writeB_any (N b : Nat) (bs : List Value) (s : ByteArray) (w : World) (h : IsB N b bs w) (hlen : bs.length + s.size ≤ 140737488355328) (hNw : N ≤ w.heap.size) :
    Calls Tryd.prog 54 #[.pointer (some ⟨b, 0, none⟩), .string s] w fun e w' => e = .returned (.tuple #[.int .i64 s.size, .nilIface]) ∧ IsB N b (bs ++ Lib.strCells s) w' ∧ But (U8 N b w) w w' := by
  have hcc : Calls Tryd.prog 65 #[.pointer (some ⟨b, 0, none⟩)] w fun e w' => e = .returned (.tuple #[]) ∧ BAt N b (.pointer (some ⟨b, 0, none⟩)) bs w' ∧ But (fun k => k = b) w w' := by
    rcases h with h | h
    · refine (cc_fresh b w h.cell0 h.shape h.frozen0).mono ?_
      rintro e w' ⟨rfl, rfl⟩
      exact ⟨rfl, h.used _, (But.refl (fun k => k = b) w).setCell (p := ⟨b, 0, none⟩) (fun _ => rfl) _⟩
    · refine (cc_used b w h.cell0).mono ?_
      rintro e w' ⟨rfl, rfl⟩
      exact ⟨rfl, h, But.refl _ _⟩
  obtain ⟨i0, hi, hz0, hz1, hz2⟩ := info_parts byteF_info
  have HI0 := Lib.hid hi; have HZ0 := Lib.hid hz0; have HZ1 := Lib.hid hz1; have HZ2 := Lib.hid hz2; have HCC := Lib.hid hcc
  clear hi hz0 hz1 hz2 hcc h
  go_enter Tryd.func54, Tryd.ntmps54
  go_wp2_with fail
  (with_reducible refine (HCC.out).mono ?_)
  rintro e w1 ⟨rfl, h1, hb1⟩
  obtain ⟨hB, v, hbk, hown, hne⟩ := h1
  have c0 : w1.cell? ⟨b, 0, none⟩ = some (.pointer (some ⟨b, 0, none⟩)) := by rw [Lib.cell_of_heap hbk]; rfl
  have c1 : w1.cell? ⟨b, 1, none⟩ = some v := by rw [Lib.cell_of_heap hbk]; rfl
  have HO := Lib.hid hown; have HB1 := Lib.hid hb1; have HBK := Lib.hid hbk; have HNE := Lib.hid hne
  clear hown hb1 hbk hne HCC
  obtain ⟨ao0, n0, cap0, rfl⟩ : ∃ ao n' cap, v = .slice ao n' cap := by
    rcases HO.out.2 with ⟨hv, _⟩ | ⟨g, cap, cur, hv, _⟩
    · exact ⟨_, _, _, hv⟩
    · exact ⟨_, _, _, hv⟩
  go_wp2_with (at_builtin; refine Lib.wpList_append_own_string _ rfl _ _ 99 9 rfl N 5 i0 Tryd.underlying99 Tryd.underlying9 HI0.out HZ0.out HZ1.out HZ2.out _ _ _ rfl HO.out s rfl ?c3 ?c4 ?c5 ?_)
  case c3 => unfold maxLen; omega
  case c4 => omega
  case c5 => have := HB1.out.size; omega
  intro v' w2 hown' hgrow _
  have hlt : b < w1.heap.size := (Array.getElem?_eq_some_iff.1 HBK.out).1
  have hb2 : w2.heap[b]? = some (.cells #[.pointer (some ⟨b, 0, none⟩), .slice ao0 n0 cap0] 101 (0, 0)) := by
    rw [hgrow.block b hlt (fun e => HNE.out e.symm)]
    exact HBK.out
  have d0 : w2.cell? ⟨b, 0, none⟩ = some (.pointer (some ⟨b, 0, none⟩)) := by rw [Lib.cell_of_heap hb2]; rfl
  have d1 : w2.cell? ⟨b, 1, none⟩ = some (.slice ao0 n0 cap0) := by rw [Lib.cell_of_heap hb2]; rfl
  have f1 : w2.frozen? ⟨b, 1, none⟩ = false := Lib.frozen_of_heap hb2 1
  obtain ⟨ao, n', cap, rfl⟩ : ∃ ao n' cap, v' = .slice ao n' cap := by
    rcases hown'.2 with ⟨hv, _⟩ | ⟨g, cap, cur, hv, _⟩
    · exact ⟨_, _, _, hv⟩
    · exact ⟨_, _, _, hv⟩
  have HO2 := Lib.hid hown'; have HG := Lib.hid hgrow; have HB2 := Lib.hid hb2
  clear hown' hgrow hb2
  go_wp2
  go_ret2
  refine ⟨rfl, Or.inr ?_, ?_⟩
  · exact Lib.BuilderAt.put (T := 101) (e := 5) hB HB2.out (bs' := bs ++ Lib.strCells s) (by simpa [Lib.strCells_length] using HO2.out) (by decide)
  · have h2 : But (fun k => (Value.slice ao0 n0 cap0).ownBlock = some k) w1 w2 := But.of_grown HG.out (fun k e => e)
    have h3 : But (U8 N b w) w w2 := (HB1.out.mono (Y := U8 N b w) (fun i _ e => Or.inl e)).trans h2 (fun i hi e => by
      rcases HO.out.2 with ⟨hv, _⟩ | ⟨g, cap, cur, hv, hNg, hg, _⟩
      · rw [hv] at e; cases e
      · rw [hv] at e
        cases e
        have hgb : g ≠ b := fun e => by
          rw [e] at hg
          rw [HBK.out] at hg
          injection hg with hg
          injection hg with _ hg _
          exact absurd hg (by decide)
        rw [HB1.out.block g hi hgb] at hg
        exact Or.inr ⟨hNg, _, _, hg⟩)
    exact h3.setCell (p := ⟨b, 1, none⟩) (fun _ => Or.inl rfl) _
end Go.Proofs.YtmechinlaladiaaDoor
namespace Go.Proofs.YtmechinlaladiaaDoor
open Go.RowKit Go.Lib
set_option linter.unusedVariables false

/-! ### plain -/
def ahL (A : Al) (k : Nat) (r : Int) (p m : Nat) : List UInt8 :=
  if k = 2 then (Utf8.encode r).data.toList else if k = 3 then 91 :: ((textR A p m).1 ++ [93]) else if k = 4 then [46] else if k = 5 then [35] else if k = 6 then [40] else if k = 7 then [123] else if k = 8 ∨ k = 9 then [] else [126]
def beL (k : Nat) : List UInt8 := if k = 7 then [124] else []
def bhL (k : Nat) : List UInt8 := if k = 6 then [41] else if k = 7 then [125] else if k = 8 then [42] else if k = 9 then [63] else []
mutual
/-- A tree's text. -/
def Tr.txt (A : Al) : Tr → List UInt8
  | .nd k r p m ts => ahL A k r p m ++ (ts.txts A (beL k) true ++ bhL k)
/-- Some trees' texts, with be between each two; fst: none stands ahead. -/
def Ts.txts (A : Al) (be : List UInt8) : Bool → Ts → List UInt8
  | _, .nil => []
  | fst, .cons t ts => (if fst then [] else be) ++ (t.txt A ++ ts.txts A be false)
end
def bO (l : List UInt8) : ByteArray := ⟨l.toArray⟩
theorem bO_cells (l : List UInt8) : Lib.strCells (bO l) = byteCells l := by rw [strCells_eq]; rfl
theorem bO_size (l : List UInt8) : (bO l).size = l.length := by simp [bO, ByteArray.size]
theorem bO_enc (r : Int) : bO (Utf8.encode r).data.toList = Utf8.encode r := rfl
theorem txtF_len2 : ∀ (fs : List ByteArray) (i p m : Nat), (∀ f ∈ fs, f.size ≤ 32) → (txtF fs i p m).length ≤ 33 * fs.length
  | [], _, _, _, _ => Nat.zero_le _
  | f :: l, i, p, m, h => by
    have ih := txtF_len2 l (i + 1) p m (fun g hg => h g (List.mem_cons_of_mem _ hg))
    have h1 : f.data.toList.length ≤ 32 := by have := h f (List.mem_cons_self ..); simpa using this
    unfold txtF
    rw [List.length_append, List.length_cons]
    split
    · split
      · simp only [List.length_nil]; omega
      · simp only [List.length_cons]; omega
    · simp only [List.length_cons]; omega
theorem textR_len (A : Al) (p m : Nat) : (textR A p m).1.length ≤ 800 := by
  unfold textR
  split
  · rename_i h0
    have hok := aacR_ok0 h0
    have h24 := Al.ok24 hok
    have := txtF_len2 A.fs 0 p m (fun f hf => by
      obtain ⟨k, hk, rfl⟩ := List.getElem_of_mem hf
      have := nameB_size (Al.ok_name hok k hk)
      rwa [List.getD_eq_getElem?_getD, List.getElem?_eq_getElem hk] at this)
    show (txtF A.fs 0 p m).length ≤ 800
    omega
  · exact Nat.zero_le _
theorem enc_len (r : Int) : (Utf8.encode r).data.toList.length ≤ 4 := by
  have := encode_size_le r
  simpa using this
theorem ahL_len (A : Al) (k : Nat) (r : Int) (p m : Nat) : (ahL A k r p m).length ≤ 802 := by
  have h1 := textR_len A p m
  have h2 := enc_len r
  unfold ahL
  repeat' split
  all_goals (try simp only [List.length_cons, List.length_append, List.length_nil])
  all_goals omega
theorem bhL_len (k : Nat) : (bhL k).length ≤ 1 := by
  unfold bhL
  (repeat' split) <;> simp
theorem beL_len (k : Nat) : (beL k).length ≤ 1 := by
  unfold beL
  split <;> simp
mutual
theorem Tr.txt_len (A : Al) : ∀ t : Tr, (t.txt A).length + 1 ≤ 805 * t.sz
  | .nd k r p m ts => by
    have h1 := ahL_len A k r p m
    have h2 := Ts.txts_len A (beL k) (beL_len k) true ts
    have h3 := bhL_len k
    simp only [Tr.txt, List.length_append, Tr.sz]
    omega
theorem Ts.txts_len (A : Al) (be : List UInt8) (hb : be.length ≤ 1) : ∀ (fst : Bool) (ts : Ts), (ts.txts A be fst).length ≤ 805 * ts.sz
  | _, .nil => Nat.zero_le _
  | fst, .cons t ts => by
    have h1 := Tr.txt_len A t
    have h2 := Ts.txts_len A be hb false ts
    have h3 : (if fst then [] else be : List UInt8).length ≤ 1 := by split <;> simp [hb]
    simp only [Ts.txts, List.length_append, Ts.sz]
    omega
end
theorem brack (l : List UInt8) : (⟨#[91]⟩ : ByteArray) ++ ⟨l.toArray⟩ ++ ⟨#[93]⟩ = bO (91 :: (l ++ [93])) := by
  apply ByteArray.ext
  rw [ByteArray.data_append, ByteArray.data_append]
  simp [bO]
/-! ### marksOf -/
def MkOf (A : Al) (k : Nat) (r : Int) (p m : Nat) (w : World) (e : Ending) (w' : World) : Prop :=
  e = .returned (.agg #[.string (bO (ahL A k r p m)), .string (bO (beL k)), .string (bO (bhL k))]) ∧ Below w.heap.size w w'
theorem mkOf_fin {A : Al} {k : Nat} {r : Int} {p m : Nat} {w w' : World} (a b c : ByteArray) (h1 : a = bO (ahL A k r p m)) (h2 : b = bO (beL k)) (h3 : c = bO (bhL k)) (hb : Below w.heap.size w w') : MkOf A k r p m w (.returned (.agg #[.string a, .string b, .string c])) w' := by
  subst h1; subst h2; subst h3; exact ⟨rfl, hb⟩
set_option maxHeartbeats 4000000 in
set_option maxRecDepth 100000 in
theorem marksOf_any (A : Al) (k : Nat) (r : Int) (p m : Nat) (o : Option Addr) (n c : Nat) (w : World) (hA : A.In w) (hp : p < 4294967296) (hm : m < 4294967296) :
    Calls Tryd.prog 53 #[A.v, .agg #[.int .u8 k, .int .i32 r, .int .u32 p, .int .u32 m, .slice o n c]] w (MkOf A k r p m w) := by
  have hv : A.v = .agg #[.slice A.pf A.fs.length A.cf, .slice A.pl A.ls.length A.cl] := rfl
  have htx := fun W hW => textF_any A p m W hW hp hm
  have hlen := textR_len A p m
  unfold TextPost at htx
  rw [hv] at htx ⊢
  have hB : ∀ o1 o2 o3, Below w.heap.size w (((w.alloc o1).alloc o2).alloc o3) := fun o1 o2 o3 => (((Below.refl _ _).alloc (Nat.le_refl _) _).alloc (by simp) _).alloc (by simp; omega) _
  obtain ⟨nf, hnf⟩ : ∃ x, x = A.fs.length := ⟨_, rfl⟩
  obtain ⟨nl, hnl⟩ : ∃ x, x = A.ls.length := ⟨_, rfl⟩
  rw [← hnf, ← hnl] at htx ⊢
  have HTX := Lib.hid htx; have HB := Lib.hid hB; have HA := Lib.hid hA; have HLEN := Lib.hid hlen
  clear hv htx hB hA hnf hnl hp hm hlen
  by_cases c2 : k = 2
  · subst c2
    clear HTX HLEN HA
    go_enter Tryd.func53, Tryd.ntmps53
    go_wp2_with fail
    refine bodyPost_ret (v := .agg #[.string (Utf8.encode r), .string ⟨#[]⟩, .string ⟨#[]⟩]) (by simp [results, Tryd.results53, go_sem, *]) rfl ?_
    exact mkOf_fin _ _ _ (by rfl) (by rfl) (by rfl) (HB.out _ _ _)
  by_cases c4 : k = 4
  · subst c4
    clear HTX HLEN HA
    go_enter Tryd.func53, Tryd.ntmps53
    go_wp2_with fail
    refine bodyPost_ret (v := .agg #[.string ⟨#[46]⟩, .string ⟨#[]⟩, .string ⟨#[]⟩]) (by simp [results, Tryd.results53, go_sem, *]) rfl ?_
    exact mkOf_fin _ _ _ (by rfl) (by rfl) (by rfl) (HB.out _ _ _)
  by_cases c5 : k = 5
  · subst c5
    clear HTX HLEN HA
    go_enter Tryd.func53, Tryd.ntmps53
    go_wp2_with fail
    refine bodyPost_ret (v := .agg #[.string ⟨#[35]⟩, .string ⟨#[]⟩, .string ⟨#[]⟩]) (by simp [results, Tryd.results53, go_sem, *]) rfl ?_
    exact mkOf_fin _ _ _ (by rfl) (by rfl) (by rfl) (HB.out _ _ _)
  by_cases c6 : k = 6
  · subst c6
    clear HTX HLEN HA
    go_enter Tryd.func53, Tryd.ntmps53
    go_wp2_with fail
    refine bodyPost_ret (v := .agg #[.string ⟨#[40]⟩, .string ⟨#[]⟩, .string ⟨#[41]⟩]) (by simp [results, Tryd.results53, go_sem, *]) rfl ?_
    exact mkOf_fin _ _ _ (by rfl) (by rfl) (by rfl) (HB.out _ _ _)
  by_cases c7 : k = 7
  · subst c7
    clear HTX HLEN HA
    go_enter Tryd.func53, Tryd.ntmps53
    go_wp2_with fail
    refine bodyPost_ret (v := .agg #[.string ⟨#[123]⟩, .string ⟨#[124]⟩, .string ⟨#[125]⟩]) (by simp [results, Tryd.results53, go_sem, *]) rfl ?_
    exact mkOf_fin _ _ _ (by rfl) (by rfl) (by rfl) (HB.out _ _ _)
  by_cases c8 : k = 8
  · subst c8
    clear HTX HLEN HA
    go_enter Tryd.func53, Tryd.ntmps53
    go_wp2_with fail
    refine bodyPost_ret (v := .agg #[.string ⟨#[]⟩, .string ⟨#[]⟩, .string ⟨#[42]⟩]) (by simp [results, Tryd.results53, go_sem, *]) rfl ?_
    exact mkOf_fin _ _ _ (by rfl) (by rfl) (by rfl) (HB.out _ _ _)
  by_cases c9 : k = 9
  · subst c9
    clear HTX HLEN HA
    go_enter Tryd.func53, Tryd.ntmps53
    go_wp2_with fail
    refine bodyPost_ret (v := .agg #[.string ⟨#[]⟩, .string ⟨#[]⟩, .string ⟨#[63]⟩]) (by simp [results, Tryd.results53, go_sem, *]) rfl ?_
    exact mkOf_fin _ _ _ (by rfl) (by rfl) (by rfl) (HB.out _ _ _)
  by_cases c3 : k = 3
  · subst c3
    go_enter Tryd.func53, Tryd.ntmps53
    go_wp2_with fail
    (with_reducible refine (HTX.out _ (HA.out.next (HB.out _ _ _))).mono ?_)
    rintro e w1 ⟨rfl, hb1⟩
    obtain ⟨hcc, hff⟩ := bcell hb1
    obtain ⟨tl, htl⟩ : ∃ z, z = (textR A p m).1 := ⟨_, rfl⟩
    obtain ⟨E2, hE2⟩ : ∃ z, z = (textR A p m).2 := ⟨_, rfl⟩
    have hl2 : tl.length ≤ 800 := by rw [htl]; exact HLEN.out
    rw [← htl, ← hE2]
    obtain ⟨g, hg⟩ : ∃ g : ByteArray, g = ⟨tl.toArray⟩ := ⟨_, rfl⟩
    have hgs : g.size = tl.length := by rw [hg]; exact bO_size tl
    rw [← hg]
    have hcat := run_string_add_sum (P := Tryd.prog) w1 ⟨#[91]⟩ g (by show 1 + g.size ≤ _; omega)
    have hcat2 := run_string_add_sum (P := Tryd.prog) w1 ((⟨#[91]⟩ : ByteArray) ++ g) ⟨#[93]⟩ (by rw [cat_size]; show g.size + 1 + 1 ≤ _; omega)
    have HTL := Lib.hid htl; have HG := Lib.hid hg
    have HB1 := Lib.hid ((HB.out (.cells #[.slice A.pf nf A.cf, .slice A.pl nl A.cl] 31) (.cells #[.int .u8 3, .int .i32 r, .int .u32 p, .int .u32 m, .slice o n c] 36) (.cells #[.string ⟨#[]⟩, .string ⟨#[]⟩, .string ⟨#[]⟩] 104)).trans (hb1.mono (by simp; omega)))
    clear hb1 htl hE2 hl2 hg hgs HTX HA HLEN
    go_wp2_with fail
    refine bodyPost_ret (v := .agg #[.string ((⟨#[91]⟩ : ByteArray) ++ g ++ ⟨#[93]⟩), .string ⟨#[]⟩, .string ⟨#[]⟩]) (by simp [results, Tryd.results53, go_sem, *]) rfl ?_
    refine mkOf_fin _ _ _ ?_ rfl rfl (((HB1.out.setCell (p := ⟨w.heap.size + 1 + 1, 0, none⟩) (by show w.heap.size ≤ w.heap.size + 1 + 1; omega) _).setCell (p := ⟨w.heap.size + 1 + 1, 1, none⟩) (by show w.heap.size ≤ w.heap.size + 1 + 1; omega) _).setCell (p := ⟨w.heap.size + 1 + 1, 2, none⟩) (by show w.heap.size ≤ w.heap.size + 1 + 1; omega) _)
    rw [HG.out, HTL.out]
    exact brack _
  have q2 : ((k : Int) == 2) = false := by simp; omega
  have q3 : ((k : Int) == 3) = false := by simp; omega
  have q4 : ((k : Int) == 4) = false := by simp; omega
  have q5 : ((k : Int) == 5) = false := by simp; omega
  have q6 : ((k : Int) == 6) = false := by simp; omega
  have q7 : ((k : Int) == 7) = false := by simp; omega
  have q8 : ((k : Int) == 8) = false := by simp; omega
  have q9 : ((k : Int) == 9) = false := by simp; omega
  have HK : Hid (ahL A k r p m = [126] ∧ beL k = [] ∧ bhL k = []) := by
    refine ⟨?_, ?_, ?_⟩
    · unfold ahL; simp [c2, c3, c4, c5, c6, c7, c8, c9]
    · unfold beL; simp [c7]
    · unfold bhL; simp [c6, c7, c8, c9]
  clear HTX HLEN HA c2 c3 c4 c5 c6 c7 c8 c9
  go_enter Tryd.func53, Tryd.ntmps53
  go_wp2_with fail
  refine bodyPost_ret (v := .agg #[.string ⟨#[126]⟩, .string ⟨#[]⟩, .string ⟨#[]⟩]) (by simp [results, Tryd.results53, go_sem, *]) rfl ?_
  exact mkOf_fin _ _ _ (by rw [HK.out.1]; rfl) (by rw [HK.out.2.1]; rfl) (by rw [HK.out.2.2]; rfl) (HB.out _ _ _)
end Go.Proofs.YtmechinlaladiaaDoor
