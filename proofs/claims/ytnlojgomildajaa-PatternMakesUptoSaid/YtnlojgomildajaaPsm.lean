/-
  WALKS: pattern.Same.
-/
import Derived.Test.YtnlojgomildajaaAlk2
import Derived.Test.YtnlojgomildajaaPtn
namespace Go.Proofs.Ytnlojgomildajaa
open Go.RowKit Go.Lib
set_option linter.unusedVariables false
theorem Below.undrew {n : Nat} {w w' : World} (h : RowKit.Below n w.drew w') : RowKit.Below n w w' := ⟨h.os, h.tape, h.output, h.size, h.block⟩
/-- numbered, of a whole tree. -/
theorem numbered_t (pn : Option Addr) (bn n0 c : Nat) (ms : List NdM) (w W : World) (h : NsIn pn bn n0 ms w) (hT : IsTree (nds ms)) (hW : Below w.heap.size w W) :
    Calls Try.prog 33 #[.slice pn ms.length c, .int .i64 0] W fun e w' => ∃ q : PtM, e = .returned (.agg #[.slice q.pn q.ms.length q.c]) ∧ nds q.ms = normN (nds ms) ∧ Mine W.heap.size q w' ∧ Below W.heap.size W w' ∧ Below w.heap.size w w' := by
  refine (numbered_any pn bn n0 c ms W (h.next hW) 0 (tr0 (nds ms)) (tr0_at hT) (by rw [tr0_sz hT]; have := hT.most; omega)).mono ?_
  rintro e w' ⟨q, rfl, h1, h2, h3⟩
  exact ⟨q, rfl, h1, h2, h3, hW.trans (h3.mono hW.size)⟩
set_option maxHeartbeats 8000000 in
set_option maxRecDepth 100000 in
theorem psame_any (pa pb : Option Addr) (ba a0 ca bb b0 cb : Nat) (a b : List NdM) (w : World) (hA : NsIn pa ba a0 a w) (hB : NsIn pb bb b0 b w) :
    Calls Try.prog 23 #[.agg #[.slice pa a.length ca], .agg #[.slice pb b.length cb]] w fun e w' => e = .returned (.bool (sameB (nds a) (nds b))) ∧ Below w.heap.size w w' := by
  obtain ⟨n, hn⟩ : ∃ n, n = a.length := ⟨_, rfl⟩
  obtain ⟨m, hm⟩ : ∃ n, n = b.length := ⟨_, rfl⟩
  obtain ⟨B1, hB1⟩ : ∃ B, B = treeB (nds a) := ⟨_, rfl⟩
  obtain ⟨B2, hB2⟩ : ∃ B, B = treeB (nds b) := ⟨_, rfl⟩
  obtain ⟨S, hS⟩ : ∃ B, B = sameB (nds a) (nds b) := ⟨_, rfl⟩
  have k1 := fun (W : World) (hW : Below w.heap.size w W) => isTree_any pa ba a0 ca a W (hA.next hW) B1 (by rw [hB1]; exact treeB_iff _)
  have k2 := fun (W : World) (hW : Below w.heap.size w W) => isTree_any pb bb b0 cb b W (hB.next hW) B2 (by rw [hB2]; exact treeB_iff _)
  have k3 := fun (W0 W : World) (hT : IsTree (nds a)) (h0 : Below w.heap.size w W0) (hW : Below W0.heap.size W0 W) => numbered_t pa ba a0 ca a W0 W (hA.next h0) hT hW
  have k4 := fun (W0 W : World) (hT : IsTree (nds b)) (h0 : Below w.heap.size w W0) (hW : Below W0.heap.size W0 W) => numbered_t pb bb b0 cb b W0 W (hB.next h0) hT hW
  have hSf1 : B1 = false → S = false := fun h => by
    cases hs : S with
    | false => rfl
    | true => rw [hS] at hs; have := ((sameB_iff _ _).1 hs).1; rw [← treeB_iff, ← hB1, h] at this; cases this
  have hSf2 : B2 = false → S = false := fun h => by
    cases hs : S with
    | false => rfl
    | true => rw [hS] at hs; have := ((sameB_iff _ _).1 hs).2.1; rw [← treeB_iff, ← hB2, h] at this; cases this
  rw [← hS]
  rw [← hn] at k1 k3 ⊢
  rw [← hm] at k2 k4 ⊢
  have K1 := Lib.hid k1; have K2 := Lib.hid k2; have K3 := Lib.hid k3; have K4 := Lib.hid k4; have HS := Lib.hid hS; have HB1 := Lib.hid hB1; have HB2 := Lib.hid hB2; have S1 := Lib.hid hSf1; have S2 := Lib.hid hSf2
  have HA0 := Lib.hid (show Below w.heap.size w ((w.alloc (.cells #[.slice pa n ca] 25)).alloc (.cells #[.slice pb m cb] 25)) from ((Below.refl _ _).alloc (Nat.le_refl _) _).alloc (by simp) _)
  clear k1 k2 k3 k4 hS hB1 hB2 hSf1 hSf2 hn hm hA hB
  go_enter Try.func23, Try.ntmps23
  go_wp2_with fail
  refine (K1.out _ HA0.out).mono ?_
  rintro e w2 ⟨rfl, hb2⟩
  have c0 : w2.cell? ⟨w.heap.size, 0, none⟩ = some (.slice pa n ca) := (hb2.cell (p := ⟨w.heap.size, 0, none⟩) (by simp; omega)).trans (by simp)
  have c1 : w2.cell? ⟨w.heap.size + 1, 0, none⟩ = some (.slice pb m cb) := (hb2.cell (p := ⟨w.heap.size + 1, 0, none⟩) (by simp)).trans (by simp)
  have hz2 : w.heap.size + 2 ≤ w2.heap.size := by have := hb2.size; simp at this; omega
  have HB2' := Lib.hid (HA0.out.trans (hb2.mono HA0.out.size))
  have HC0 := Lib.hid c0; have HC1 := Lib.hid c1
  clear hb2 K1
  cases B1 with
  | false =>
    obtain rfl : S = false := S1.out rfl
    go_wp2_with fail
    go_ret
    exact ⟨rfl, HB2'.out⟩
  | true =>
    have HT1 := Lib.hid ((treeB_iff _).1 HB1.out.symm)
    go_wp2_with fail
    refine (K2.out _ HB2'.out).mono ?_
    rintro e w3 ⟨rfl, hb3⟩
    have c3 := (hb3.cell (p := ⟨w.heap.size, 0, none⟩) (by show w.heap.size < _; omega)).trans HC0.out
    have c4 := (hb3.cell (p := ⟨w.heap.size + 1, 0, none⟩) (by show w.heap.size + 1 < _; omega)).trans HC1.out
    have hz3 : w.heap.size + 1 < w3.heap.size := by have := hb3.size; omega
    have hz3' : w.heap.size < w3.heap.size := by omega
    have HB3 := Lib.hid (HB2'.out.trans (hb3.mono HB2'.out.size))
    clear hb3 K2 c0 c1 HC0 HC1 hz2
    cases B2 with
    | false =>
      obtain rfl : S = false := S2.out rfl
      go_wp2_with fail
      go_ret
      exact ⟨rfl, HB3.out⟩
    | true =>
      have HT2 := Lib.hid ((treeB_iff _).1 HB2.out.symm)
      have N1 := Lib.hid (fun W => K3.out w3 W HT1.out HB3.out)
      have N2 := Lib.hid (fun W => K4.out w3 W HT2.out HB3.out)
      have E3 := Lib.hid (fun (W : World) (qp qq : PtM) (h1 : NsIn qp.pn qp.bn qp.n0 qp.ms W) (h2 : NsIn qq.pn qq.bn qq.n0 qq.ms W) (e1 : nds qp.ms = normN (nds a)) (e2 : nds qq.ms = normN (nds b)) (hW : Below w3.heap.size w3 W) =>
        (equalF_any qp.pn qq.pn qp.bn qp.n0 qp.c qq.bn qq.n0 qq.c qp.ms qq.ms W h1 h2 S (by rw [HS.out, sameB_iff, e1, e2]; exact ⟨fun h => h.2.2, fun h => ⟨HT1.out, HT2.out, h⟩⟩)).mono fun e w' (h : e = _ ∧ Below W.heap.size W w') => (⟨h.1, hW.trans (h.2.mono hW.size)⟩ : e = Ending.returned (.bool S) ∧ Below w3.heap.size w3 w'))
      clear K3 K4
      have hfd : ∀ (W : World) (o : Option Addr) (n c : Nat), (Instr.field 25 (.agg #[.slice o n c]) 0).run Try.prog W = .ok (.slice o n c) W := fun W o n c => by kernel_rfl
      go_upto_region 3 with fail
      go_cut [4] from 13 (fun s4 wc => s4 = .bool S ∧ Hid (Below w3.heap.size w3 wc))
      case first =>
        go_region_held3 (fun w' => Below w3.heap.size w3 w' ∧ w'.cell? ⟨w.heap.size, 0, none⟩ = some (.slice pa n ca) ∧ w'.cell? ⟨w.heap.size + 1, 0, none⟩ = some (.slice pb m cb)) (first | exact ⟨(Below.refl _ _).drew, c3, c4⟩ | exact ⟨hacc, (hacc.cell (p := ⟨w.heap.size, 0, none⟩) hz3').trans c3, (hacc.cell (p := ⟨w.heap.size + 1, 0, none⟩) hz3).trans c4⟩) (first
          | (go_at_call 33; (with_reducible refine (N1.out _ ?_).mono ?_); (exact (by first | exact (Below.refl _ _).drew | exact hacc | exact hacc.drew)); rintro _ wp ⟨qp, rfl, hnp, hmp, hbp, hacc⟩)
          | (go_at_call 33; (with_reducible refine (N2.out _ ?_).mono ?_); (exact (by first | exact (Below.refl _ _).drew | exact hacc | exact hacc.drew)); rintro _ wq ⟨qq, rfl, hnq, hmq, hbq, hacc⟩; have hmp2 := (by first | exact hmp.next hbq | exact hmp.next (Below.undrew hbq) : Mine _ qp wq))
          | (go_at_call 37; refine (E3.out _ qp qq (by first | exact hmp2.i | exact hmp2.i.next (Below.refl _ _).drew) (by first | exact hmq.i | exact hmq.i.next (Below.refl _ _).drew) hnp hnq (by first | exact hacc | exact hacc.drew)).mono ?_; rintro _ we ⟨rfl, hacc⟩))
        all_goals
          (try go_wp2_with fail)
          go_meet
          exact ⟨rfl, hacc⟩
      case rest =>
        obtain ⟨rfl, HBc⟩ := hcut
        have HF := Lib.hid (HB3.out.trans (HBc.out.mono HB3.out.size))
        go_wp2_with fail
        go_ret
        exact ⟨rfl, HF.out⟩
end Go.Proofs.Ytnlojgomildajaa
