/-
  WALKS: cognateref04.Same.
-/
import Derived.Test.YtnlojgomildajaaRno
import Derived.Test.YtnlojgomildajaaRlk
import Derived.Test.YtnlojgomildajaaPsm
namespace Go.Proofs.Ytnlojgomildajaa
open Go.RowKit Go.Lib
set_option linter.unusedVariables false
theorem rnorm_t (pn : Option Addr) (bn n0 c : Nat) (ms : List NdM) (w W : World) (h : NsIn pn bn n0 ms w) (hT : IsTree (nds ms)) (hW : Below w.heap.size w W) :
    Calls Try.prog 39 #[.agg #[.slice pn ms.length c]] W fun e w' => ∃ q : PtM, e = .returned (.agg #[.slice q.pn q.ms.length q.c]) ∧ nds q.ms = normN (nds ms) ∧ Mine W.heap.size q w' ∧ Below W.heap.size W w' ∧ Below w.heap.size w w' := by
  refine (rnorm_any pn bn n0 c ms W (h.next hW) hT).mono ?_
  rintro e w' ⟨q, rfl, h1, h2, h3⟩
  exact ⟨q, rfl, h1, h2, h3, hW.trans (h3.mono hW.size)⟩
set_option maxHeartbeats 8000000 in
set_option maxRecDepth 100000 in
theorem rsame_any (pa pb : Option Addr) (ba a0 ca bb b0 cb : Nat) (a b : List NdM) (w : World) (hA : NsIn pa ba a0 a w) (hB : NsIn pb bb b0 b w) :
    Calls Try.prog 24 #[.agg #[.slice pa a.length ca], .agg #[.slice pb b.length cb]] w fun e w' => e = .returned (.bool (sameB (nds a) (nds b))) ∧ Below w.heap.size w w' := by
  obtain ⟨n, hn⟩ : ∃ n, n = a.length := ⟨_, rfl⟩
  obtain ⟨m, hm⟩ : ∃ n, n = b.length := ⟨_, rfl⟩
  obtain ⟨B1, hB1⟩ : ∃ B, B = treeB (nds a) := ⟨_, rfl⟩
  obtain ⟨B2, hB2⟩ : ∃ B, B = treeB (nds b) := ⟨_, rfl⟩
  obtain ⟨S, hS⟩ : ∃ B, B = sameB (nds a) (nds b) := ⟨_, rfl⟩
  have hA0 : Below w.heap.size w ((w.alloc (.cells #[.slice pa n ca] 25)).alloc (.cells #[.slice pb m cb] 25)) := ((Below.refl _ _).alloc (Nat.le_refl _) _).alloc (by simp) _
  obtain ⟨w2, hw2⟩ : ∃ w2, w2 = ((w.alloc (.cells #[.slice pa n ca] 25)).alloc (.cells #[.slice pb m cb] 25)) := ⟨_, rfl⟩
  have k1 := fun (W : World) (hW : Below w2.heap.size w2 W) => (rtree_any pa ba a0 ca a W ((hA.next (hw2 ▸ hA0)).next hW) B1 (by rw [hB1]; exact treeB_iff _)).mono fun e w' (h : e = _ ∧ Below W.heap.size W w') => (⟨h.1, hW.trans (h.2.mono hW.size)⟩ : e = Ending.returned (.bool B1) ∧ Below w2.heap.size w2 w')
  have k2 := fun (W : World) (hW : Below w2.heap.size w2 W) => (rtree_any pb bb b0 cb b W ((hB.next (hw2 ▸ hA0)).next hW) B2 (by rw [hB2]; exact treeB_iff _)).mono fun e w' (h : e = _ ∧ Below W.heap.size W w') => (⟨h.1, hW.trans (h.2.mono hW.size)⟩ : e = Ending.returned (.bool B2) ∧ Below w2.heap.size w2 w')
  have k3 := fun (W : World) (hT : IsTree (nds a)) (hW : Below w2.heap.size w2 W) => rnorm_t pa ba a0 ca a w2 W (hA.next (hw2 ▸ hA0)) hT hW
  have k4 := fun (W : World) (hT : IsTree (nds b)) (hW : Below w2.heap.size w2 W) => rnorm_t pb bb b0 cb b w2 W (hB.next (hw2 ▸ hA0)) hT hW
  have hSf1 : B1 = false → S = false := fun h => by
    cases hs : S with
    | false => rfl
    | true => rw [hS] at hs; have := ((sameB_iff _ _).1 hs).1; rw [← treeB_iff, ← hB1, h] at this; cases this
  have hSf2 : B2 = false → S = false := fun h => by
    cases hs : S with
    | false => rfl
    | true => rw [hS] at hs; have := ((sameB_iff _ _).1 hs).2.1; rw [← treeB_iff, ← hB2, h] at this; cases this
  have c3 : w2.cell? ⟨w.heap.size, 0, none⟩ = some (.slice pa n ca) := by rw [hw2]; simp
  have c4 : w2.cell? ⟨w.heap.size + 1, 0, none⟩ = some (.slice pb m cb) := by rw [hw2]; simp
  have hz3 : w.heap.size + 1 < w2.heap.size := by rw [hw2]; simp
  have hz3' : w.heap.size < w2.heap.size := by omega
  have hA2 : Below w.heap.size w w2 := hw2 ▸ hA0
  rw [← hS]
  rw [← hn] at k1 k3 ⊢
  rw [← hm] at k2 k4 ⊢
  have K1 := Lib.hid k1; have K2 := Lib.hid k2; have K3 := Lib.hid k3; have K4 := Lib.hid k4; have HS := Lib.hid hS; have HB1 := Lib.hid hB1; have HB2 := Lib.hid hB2; have S1 := Lib.hid hSf1; have S2 := Lib.hid hSf2
  have HW2 := Lib.hid hw2; have HA2 := Lib.hid hA2
  clear k1 k2 k3 k4 hS hB1 hB2 hSf1 hSf2 hn hm hA hB hA0 hw2 hA2
  go_enter Try.func24, Try.ntmps24
  go_wp2_with fail
  rw [← HW2.out]
  have hz := HW2
  clear hz HW2
  go_upto_region 1 with fail
  go_cut [4] from 5 (fun s4 wc => s4 = .bool S ∧ Hid (Below w2.heap.size w2 wc))
  case first =>
    cases B1 with
    | false =>
      obtain rfl : S = false := S1.out rfl
      go_region_with (go_at_call 25; refine (K1.out _ (by first | exact (Below.refl _ _).drew | exact Below.refl _ _)).mono ?_; rintro _ wq ⟨rfl, hacc⟩)
      all_goals
        (try go_wp2_with fail)
        go_meet
        first | exact ⟨rfl, hacc⟩ | exact ⟨rfl, hacc.drew⟩
    | true =>
      have HT1 := Lib.hid ((treeB_iff _).1 HB1.out.symm)
      cases B2 with
      | false =>
        obtain rfl : S = false := S2.out rfl
        go_region_with (first
          | (go_at_call 25; (with_reducible refine (K1.out _ ?_).mono ?_); (exact (by first | exact (Below.refl _ _).drew | exact Below.refl _ _)); rintro _ wq ⟨rfl, hacc⟩; have c5 := (hacc.cell (p := ⟨w.heap.size + 1, 0, none⟩) hz3).trans c4)
          | (go_at_call 25; (with_reducible refine (K2.out _ ?_).mono ?_); (exact (by first | exact hacc | exact hacc.drew)); rintro _ wr ⟨rfl, hacc2⟩))
        all_goals
          (try go_wp2_with fail)
          go_meet
          first | exact ⟨rfl, hacc2⟩ | exact ⟨rfl, hacc2.drew⟩
      | true =>
        have HT2 := Lib.hid ((treeB_iff _).1 HB2.out.symm)
        have N1 := Lib.hid (fun W => K3.out W HT1.out)
        have N2 := Lib.hid (fun W => K4.out W HT2.out)
        have E3 := Lib.hid (fun (W : World) (qp qq : PtM) (h1 : NsIn qp.pn qp.bn qp.n0 qp.ms W) (h2 : NsIn qq.pn qq.bn qq.n0 qq.ms W) (e1 : nds qp.ms = normN (nds a)) (e2 : nds qq.ms = normN (nds b)) (hW : Below w2.heap.size w2 W) =>
          (rlike_any qp.pn qq.pn qp.bn qp.n0 qp.c qq.bn qq.n0 qq.c qp.ms qq.ms W h1 h2 S (by rw [HS.out, sameB_iff, e1, e2]; exact ⟨fun h => h.2.2, fun h => ⟨HT1.out, HT2.out, h⟩⟩)).mono fun e w' (h : e = _ ∧ Below W.heap.size W w') => (⟨h.1, hW.trans (h.2.mono hW.size)⟩ : e = Ending.returned (.bool S) ∧ Below w2.heap.size w2 w'))
        clear K3 K4
        go_region_held3 (fun w' => Below w2.heap.size w2 w' ∧ w'.cell? ⟨w.heap.size, 0, none⟩ = some (.slice pa n ca) ∧ w'.cell? ⟨w.heap.size + 1, 0, none⟩ = some (.slice pb m cb)) (first | exact ⟨(Below.refl _ _).drew, c3, c4⟩ | exact ⟨hacc, (hacc.cell (p := ⟨w.heap.size, 0, none⟩) hz3').trans c3, (hacc.cell (p := ⟨w.heap.size + 1, 0, none⟩) hz3).trans c4⟩) (first
          | (go_at_call 25; (with_reducible refine (K1.out _ ?_).mono ?_); (exact (by first | exact (Below.refl _ _).drew | exact hacc | exact hacc.drew)); rintro _ wt ⟨rfl, hacc⟩)
          | (go_at_call 25; (with_reducible refine (K2.out _ ?_).mono ?_); (exact (by first | exact (Below.refl _ _).drew | exact hacc | exact hacc.drew)); rintro _ wu ⟨rfl, hacc⟩)
          | (go_at_call 39; (with_reducible refine (N1.out _ ?_).mono ?_); (exact (by first | exact (Below.refl _ _).drew | exact hacc | exact hacc.drew)); rintro _ wp ⟨qp, rfl, hnp, hmp, hbp, hacc⟩)
          | (go_at_call 39; (with_reducible refine (N2.out _ ?_).mono ?_); (exact (by first | exact (Below.refl _ _).drew | exact hacc | exact hacc.drew)); rintro _ wq ⟨qq, rfl, hnq, hmq, hbq, hacc⟩; have hmp2 := (by first | exact hmp.next hbq | exact hmp.next (Below.undrew hbq) : Mine _ qp wq))
          | (go_at_call 16; refine (E3.out _ qp qq (by first | exact hmp2.i | exact hmp2.i.next (Below.refl _ _).drew) (by first | exact hmq.i | exact hmq.i.next (Below.refl _ _).drew) hnp hnq (by first | exact hacc | exact hacc.drew)).mono ?_; rintro _ we ⟨rfl, hacc⟩))
        all_goals
          (try go_wp2_with fail)
          go_meet
          exact ⟨rfl, hacc⟩
  case rest =>
    obtain ⟨rfl, HBc⟩ := hcut
    have HF := Lib.hid (HA2.out.trans (HBc.out.mono HA2.out.size))
    go_wp2_with fail
    go_ret
    exact ⟨rfl, HF.out⟩
end Go.Proofs.Ytnlojgomildajaa
