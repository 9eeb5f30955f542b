/-
  WALKS: pattern.isOf.
  WALKS: pattern.Check, Text.
  WALKS: pattern.Text.
  PLAIN: more on trees: a tree is told by its nodes; its own nodes tell it; turned twice; the one numbering is found by a stack.
  PLAIN: what PatternTurns asks of lists of nodes.
-/
import Derived.Test.YtmechinlaladiaaDoorZAW
import Derived.Test.YtmechinlaladiaaDoorZAT
import Derived.Test.YtmechinlaladiaaDoorZAG
import Derived.Test.YtmechinlaladiaaDoorZAU
import Derived.Test.YtmechinlaladiaaDoorZAL
namespace Go.Proofs.YtmechinlaladiaaDoor
open Go.RowKit Go.Lib
set_option linter.unusedVariables false

def isOfB (A : Al) (n : Nd) : Bool := if n.k = 2 then decide (n.r ∈ clsR A 0 0) else if n.k = 3 then (hasR A ((clsR A 0 0).getD 0 0) n.p n.m).2 == 0 else true
noncomputable def chkP (A : Al) (ns : List Nd) : Int := if aacR A 0 0 ≠ 0 then aacR A 0 0 else if treeB ns = false then 40 else if ns.all (isOfB A) = true then 0 else 40
noncomputable def txtR (A : Al) (ns : List Nd) : List UInt8 × Int := if chkP A ns ≠ 0 then ([], chkP A ns) else if 65536 < ((tr0 ns).txt A).length then ([], 3) else ((tr0 ns).txt A, 0)
theorem hasB_zero (l : Ltr) : hasB l 0 0 = true := by simp [hasB]
theorem clsR_some {A : Al} (h : aacR A 0 0 = 0) : 0 < (clsR A 0 0).length := by
  have h1 := (Al.ok_ltrs (aacR_ok0 h)).1
  unfold clsR clsL
  rw [if_pos h, List.length_map]
  rw [List.filter_eq_self.2 (fun l _ => hasB_zero l)]
  omega
set_option maxHeartbeats 2000000 in
set_option maxRecDepth 100000 in
theorem isOf_any (A : Al) (pr : Option Addr) (br cr : Nat) (k : Nat) (r : Int) (p m : Nat) (pk : Option Addr) (n c : Nat) (ks : List Int) (w : World) (hA : A.In w) (hR : RsIn pr br 0 (clsR A 0 0) w) (h0 : aacR A 0 0 = 0) (hp : p < 4294967296) (hm : m < 4294967296) :
    Calls Tryd.prog 25 #[A.v, .slice pr (clsR A 0 0).length cr, .agg #[.int .u8 k, .int .i32 r, .int .u32 p, .int .u32 m, .slice pk n c]] w fun e w' => e = .returned (.bool (isOfB A ⟨k, r, p, m, ks⟩)) ∧ Below w.heap.size w w' := by
  have hlen := clsR_some h0
  obtain rfl := hR.at_ hlen
  have hc0 := hR.cells 0 hlen
  have hx := fun W (hb : Below w.heap.size w W) => has_rune (some ⟨br, 0, none⟩) br 0 cr (clsR A 0 0) r W (hR.next hb)
  have hh := fun W (hb : Below w.heap.size w W) => hasF_any A ((clsR A 0 0).getD 0 0) p m W (hA.next hb) hp hm
  have hv : A.v = .agg #[.slice A.pf A.fs.length A.cf, .slice A.pl A.ls.length A.cl] := rfl
  rw [hv] at hh ⊢
  have hB : ∀ o1 o2, Below w.heap.size w ((w.alloc o1).alloc o2) := fun o1 o2 => ((Below.refl _ _).alloc (Nat.le_refl _) _).alloc (by simp) _
  have hzb := blk_of_cell hc0
  obtain ⟨B, hBB⟩ : ∃ B, B = isOfB A ⟨k, r, p, m, ks⟩ := ⟨_, rfl⟩
  rw [← hBB]
  unfold isOfB at hBB
  simp only at hBB
  obtain ⟨nr, hnr⟩ : ∃ x, x = (clsR A 0 0).length := ⟨_, rfl⟩
  obtain ⟨nf, hnf⟩ : ∃ x, x = A.fs.length := ⟨_, rfl⟩
  obtain ⟨nl, hnl⟩ : ∃ x, x = A.ls.length := ⟨_, rfl⟩
  obtain ⟨r0, hr0⟩ : ∃ x, x = (clsR A 0 0).getD 0 0 := ⟨_, rfl⟩
  rw [← hnr] at hx hlen ⊢
  rw [← hnf, ← hnl, ← hr0] at hh
  rw [← hnf, ← hnl]
  rw [← hr0, Nat.add_zero] at hc0
  rw [← hr0] at hBB
  have hli : (0 : Int) < (nr : Int) := by omega
  have HX := Lib.hid hx; have HH := Lib.hid hh; have HB := Lib.hid hB; have HBB := Lib.hid hBB
  clear hx hh hB hBB hv hA hR h0 hp hm hnr hnf hnl hr0
  by_cases c2 : k = 2
  · subst c2
    have HB2 := Lib.hid (show B = decide (r ∈ clsR A 0 0) by rw [HBB.out]; simp)
    clear HBB HH
    go_enter Tryd.func25, Tryd.ntmps25
    go_wp2_with fail
    (with_reducible refine (HX.out _ (HB.out _ _)).mono ?_)
    rintro e w1 ⟨rfl, hw⟩
    rw [← HB2.out]
    have HBw := Lib.hid (show Below w.heap.size w w1 by rw [hw]; exact HB.out _ _)
    clear hw HX HB2 HB
    go_wp2_with fail
    go_ret
    exact ⟨rfl, HBw.out⟩
  · have q2 : ((k : Int) == 2) = false := by simp; omega
    by_cases c3 : k = 3
    · subst c3
      have HB2 := Lib.hid (show B = ((hasR A r0 p m).2 == 0) by rw [HBB.out]; simp)
      obtain ⟨b1, hb1⟩ : ∃ z, z = (hasR A r0 p m).1 := ⟨_, rfl⟩
      obtain ⟨E, hE⟩ : ∃ z, z = (hasR A r0 p m).2 := ⟨_, rfl⟩
      rw [← hb1, ← hE] at HH
      rw [← hE] at HB2
      clear HBB HX hb1 hE c2
      go_enter Tryd.func25, Tryd.ntmps25
      go_wp2_with fail
      go_region_with (go_at_call 43; refine (HH.out _ (by first | exact (HB.out _ _).drew | exact HB.out _ _)).mono ?_; rintro _ wq ⟨rfl, hbq⟩; have HBQ := Lib.hid hbq; clear hbq)
      all_goals
        go_wp2_with fail
        go_ret
        exact ⟨by rw [HB2.out] <;> rfl, ((HB.out _ _).drew).trans (HBQ.out.mono ((HB.out _ _).drew).size)⟩
    · have q3 : ((k : Int) == 3) = false := by simp; omega
      have HB2 := Lib.hid (show B = true by rw [HBB.out, if_neg c2, if_neg c3])
      clear HBB HX HH c2 c3
      go_enter Tryd.func25, Tryd.ntmps25
      go_wp2_with fail
      go_ret
      exact ⟨by rw [HB2.out] <;> rfl, HB.out _ _⟩
end Go.Proofs.YtmechinlaladiaaDoor
namespace Go.Proofs.YtmechinlaladiaaDoor
open Go.RowKit Go.Lib
set_option linter.unusedVariables false

set_option maxHeartbeats 4000000 in
set_option maxRecDepth 100000 in
theorem pcheck_any (A : Al) (q : PtM) (w : World) (hA : A.In w) (hI : NsIn q.pn q.bn q.n0 q.ms w) :
    Calls Tryd.prog 12 #[A.v, q.v] w fun e w' => e = .returned (.int .i64 (chkP A (nds q.ms))) ∧ Below w.heap.size w w' := by
  have hv : A.v = .agg #[.slice A.pf A.fs.length A.cf, .slice A.pl A.ls.length A.cl] := rfl
  have hqv : q.v = .agg #[.slice q.pn q.ms.length q.c] := rfl
  obtain ⟨W0, hW0⟩ : ∃ W0, W0 = (w.alloc (.cells #[.slice A.pf A.fs.length A.cf, .slice A.pl A.ls.length A.cl] 31)).alloc (.cells #[.slice q.pn q.ms.length q.c] 24) := ⟨_, rfl⟩
  have hB0 : Below w.heap.size w W0 := by rw [hW0]; exact ((Below.refl _ _).alloc (Nat.le_refl _) _).alloc (by simp) _
  have hz0 : W0.heap.size = w.heap.size + 2 := by rw [hW0]; simp
  obtain ⟨a0, a1, x0⟩ : W0.cell? ⟨w.heap.size, 0, none⟩ = some (.slice A.pf A.fs.length A.cf) ∧ W0.cell? ⟨w.heap.size, 1, none⟩ = some (.slice A.pl A.ls.length A.cl) ∧ W0.cell? ⟨w.heap.size + 1, 0, none⟩ = some (.slice q.pn q.ms.length q.c) := by
    have e : w.heap.size + 1 = (w.alloc (.cells #[.slice A.pf A.fs.length A.cf, .slice A.pl A.ls.length A.cl] 31)).heap.size := by simp
    rw [hW0]
    refine ⟨by simp, by simp, ?_⟩
    rw [e]; simp
  have hro := rowOf_any A W0 (hA.next hB0)
  unfold ClsPost at hro
  have htr := fun W (hb : Below W0.heap.size W0 W) => isTree_any q.pn q.bn q.n0 q.c q.ms W ((hI.next hB0).next hb) (treeB (nds q.ms)) (treeB_iff _)
  have hnd := fun W (hb : Below W0.heap.size W0 W) => (hI.next hB0).next hb
  have hof := fun pr br cr W1 (hR : RsIn pr br 0 (clsR A 0 0) W1) (h0 : aacR A 0 0 = 0) (hA1 : A.In W1) j (hj : j < q.ms.length) W (hb : Below W1.heap.size W1 W) => isOf_any A pr br cr (q.ms.getD j default).nd.k (q.ms.getD j default).nd.r (q.ms.getD j default).nd.p (q.ms.getD j default).nd.m (q.ms.getD j default).pk (q.ms.getD j default).nd.ks.length (q.ms.getD j default).c (q.ms.getD j default).nd.ks W (hA1.next hb) (hR.next hb) h0 (hI.ok j hj).p (hI.ok j hj).m_
  obtain ⟨R, hR⟩ : ∃ R, R = chkP A (nds q.ms) := ⟨_, rfl⟩
  have hRR : R = (if aacR A 0 0 ≠ 0 then aacR A 0 0 else if treeB (nds q.ms) = false then 40 else if (nds q.ms).all (isOfB A) = true then 0 else 40) := hR
  have hbig : (clsR A 0 0).length ≤ 140737488355328 := by
    have h1 : (clsR A 0 0).length ≤ A.ls.length := by
      unfold clsR clsL
      split
      · rw [List.length_map]; exact List.length_filter_le _ _
      · exact Nat.zero_le _
    have := hA.L.big
    omega
  rw [← hR, hv, hqv]
  rw [hv] at hro hof
  have hnl := nds_length q.ms
  have hall : ∀ (j : Nat), j < q.ms.length → isOfB A (q.ms.getD j default).nd = false → (nds q.ms).all (isOfB A) = false := fun j hj h => by
    rw [List.all_eq_false]
    refine ⟨(q.ms.getD j default).nd, ?_, by rw [h]; simp⟩
    rw [← nds_at q.ms j hj]
    exact List.getElem_mem _
  have hall2 : (∀ (j : Nat), j < q.ms.length → isOfB A (q.ms.getD j default).nd = true) → (nds q.ms).all (isOfB A) = true := fun h => by
    rw [List.all_eq_true]
    intro x hx
    obtain ⟨j, hj, rfl⟩ := List.getElem_of_mem hx
    rw [hnl] at hj
    rw [nds_at q.ms j hj]
    exact h j hj
  obtain ⟨E, hE⟩ : ∃ E, E = aacR A 0 0 := ⟨_, rfl⟩
  obtain ⟨T, hT⟩ : ∃ E, E = treeB (nds q.ms) := ⟨_, rfl⟩
  rw [← hE] at hRR hro
  rw [← hT] at hRR htr
  have hnb := hI.big
  have hat := hI.at_
  obtain ⟨nf, hnf⟩ : ∃ x, x = A.fs.length := ⟨_, rfl⟩
  obtain ⟨nl, hnl2⟩ : ∃ x, x = A.ls.length := ⟨_, rfl⟩
  obtain ⟨nm, hnm⟩ : ∃ x, x = q.ms.length := ⟨_, rfl⟩
  obtain ⟨nr, hnr⟩ : ∃ x, x = (clsR A 0 0).length := ⟨_, rfl⟩
  obtain ⟨pn, hpn⟩ : ∃ x, x = q.pn := ⟨_, rfl⟩
  rw [← hnf] at a0 hro hof hW0
  rw [← hnl2] at a1 hro hof hW0
  rw [← hnm] at x0 htr hof hW0 hall hall2 hnb hat
  rw [← hpn] at x0 htr hW0 hat
  rw [← hnf, ← hnl2, ← hnm, ← hpn]
  have HRO := Lib.hid hro; have HTR := Lib.hid htr; have HND := Lib.hid hnd; have HOF := Lib.hid hof; have HRR := Lib.hid hRR; have HA := Lib.hid hA; have HB0 := Lib.hid hB0; have HW0 := Lib.hid hW0; have HZ0 := Lib.hid hz0
  have A0 := Lib.hid a0; have A1 := Lib.hid a1; have X0 := Lib.hid x0; have HALL := Lib.hid hall; have HALL2 := Lib.hid hall2; have HBIG := Lib.hid hbig; have HNM := Lib.hid hnm; have HE := Lib.hid hE; have HAT := Lib.hid hat; have HNR := Lib.hid hnr
  clear hro htr hnd hof hRR hA hB0 hW0 hz0 a0 a1 x0 hall hall2 hbig hnm hE hat hnl hv hqv hR hT hI hnf hnl2 hpn hnr
  by_cases hE0 : E = 0
  · subst hE0
    cases T with
    | false =>
      have HX := Lib.hid (show R = 40 by rw [HRR.out, if_neg (by simp), if_pos rfl])
      clear HRR
      go_enter Tryd.func12, Tryd.ntmps12
      go_wp2_with fail
      rw [← HW0.out]
      (with_reducible refine (HRO.out).mono ?_)
      rintro e W1 ⟨v, rfl, ho, hb1⟩
      obtain ⟨ro, rc, rfl⟩ := ownF_shape ho
      have x1 := (hb1.cell (p := ⟨w.heap.size + 1, 0, none⟩) (by have := HZ0.out; show w.heap.size + 1 < _; omega)).trans X0.out
      have HB1 := Lib.hid hb1
      clear ho hb1 HRO
      go_wp2_with fail
      (with_reducible refine (HTR.out _ HB1.out).mono ?_)
      rintro e W2 ⟨rfl, hb2⟩
      have HB2 := Lib.hid (HB0.out.trans ((HB1.out.trans (hb2.mono HB1.out.size)).mono (by have := HZ0.out; omega)))
      clear hb2 HTR HB1
      go_wp2_with fail
      go_ret
      exact ⟨by rw [HX.out] <;> rfl, HB2.out⟩
    | true =>
      have HRX := Lib.hid (show R = (if (nds q.ms).all (isOfB A) = true then 0 else 40) by rw [HRR.out, if_neg (by simp), if_neg (by simp)])
      clear HRR
      go_enter Tryd.func12, Tryd.ntmps12
      go_wp2_with fail
      rw [← HW0.out]
      (with_reducible refine (HRO.out).mono ?_)
      rintro e W1 ⟨v, rfl, ho, hb1⟩
      obtain ⟨rp, rb, rc, rfl, hrow⟩ := own_rs ho HBIG.out
      have a01 := (hb1.cell (p := ⟨w.heap.size, 0, none⟩) (by have := HZ0.out; show w.heap.size < _; omega)).trans A0.out
      have a11 := (hb1.cell (p := ⟨w.heap.size, 1, none⟩) (by have := HZ0.out; show w.heap.size < _; omega)).trans A1.out
      have x1 := (hb1.cell (p := ⟨w.heap.size + 1, 0, none⟩) (by have := HZ0.out; show w.heap.size + 1 < _; omega)).trans X0.out
      have HO := Lib.hid (HOF.out rp rb rc W1 hrow HE.out.symm (HA.out.next (HB0.out.trans (hb1.mono (by have := HZ0.out; omega)))))
      rw [← HNR.out] at HO
      rw [← HNR.out]
      have HB1 := Lib.hid hb1; have A01 := Lib.hid a01; have A11 := Lib.hid a11; have X1 := Lib.hid x1
      have HZ1 := Lib.hid (blk_of_cell x1)
      clear ho hb1 HRO hrow a01 a11 HOF
      go_wp2_with fail
      (with_reducible refine (HTR.out _ HB1.out).mono ?_)
      rintro e W2 ⟨rfl, hb2⟩
      have x2 := (hb2.cell (p := ⟨w.heap.size + 1, 0, none⟩) HZ1.out).trans X1.out
      have HB2 := Lib.hid hb2
      clear hb2 HTR x1
      go_wp2_with fail
      go_loopw [23] (fun iv wr => ∃ j : Nat, iv = .int .i64 j ∧ j ≤ nm ∧ Hid (∀ i, i < j → isOfB A (q.ms.getD i default).nd = true) ∧ Hid (Below W1.heap.size W1 wr)) (fun iv _ => nm - (intOf iv).toNat)
      case atStart => exact ⟨0, rfl, Nat.zero_le _, Lib.hid (fun i hi => by omega), HB2⟩
      case round =>
        clear x2
        obtain ⟨j, rfl, hj, HP, HBr⟩ := hrel
        by_cases hjn : j < nm
        · have hjl : j < q.ms.length := by rw [← HNM.out]; exact hjn
          obtain rfl := HAT.out (by omega)
          obtain ⟨b0, b1, b2, b3, b4⟩ := (HND.out wr (HB1.out.trans (HBr.out.mono HB1.out.size))).node j hjl
          have ar0 := (HBr.out.cell (p := ⟨w.heap.size, 0, none⟩) (by have h9 : w.heap.size + 1 < W1.heap.size := HZ1.out; show w.heap.size < _; omega)).trans A01.out
          have ar1 := (HBr.out.cell (p := ⟨w.heap.size, 1, none⟩) (by have h9 : w.heap.size + 1 < W1.heap.size := HZ1.out; show w.heap.size < _; omega)).trans A11.out
          have hzb := blk_of_cell b0
          have hza := blk_of_cell ar0
          have hof := HO.out j hjn
          have hno := HALL.out j hjn
          have HJ := Lib.hid (show j + 1 ≤ nm from hjn)
          obtain ⟨M, hM⟩ : ∃ z, z = q.ms.getD j default := ⟨_, rfl⟩
          have hyes : isOfB A M.nd = true → ∀ i, i < j + 1 → isOfB A (q.ms.getD i default).nd = true := fun h i hi => by
            by_cases e : i = j
            · rw [e, ← hM]; exact h
            · exact HP.out i (by omega)
          rw [← hM] at b0 b1 b2 b3 b4 hof hno
          have eM : (⟨M.nd.k, M.nd.r, M.nd.p, M.nd.m, M.nd.ks⟩ : Nd) = M.nd := rfl
          rw [eM] at hof
          obtain ⟨B, hBB⟩ : ∃ z, z = isOfB A M.nd := ⟨_, rfl⟩
          rw [← hBB] at hof hno hyes
          obtain ⟨nk, hnk⟩ : ∃ z, z = M.nd.ks.length := ⟨_, rfl⟩
          rw [← hnk] at hof b4
          have HOFF := Lib.hid hof; have HNO := Lib.hid hno; have HYES := Lib.hid hyes
          clear hof hno hyes hM eM hBB hnk hjl
          cases B with
          | true =>
            have HY := Lib.hid (HYES.out rfl)
            clear HNO HYES
            go_wp2_with fail
            (with_reducible refine (HOFF.out _ ?_).mono ?_)
            case refine_1 => exact HBr.out.alloc HBr.out.size _
            rintro e W4 ⟨rfl, hb4⟩
            have HB4 := Lib.hid ((HBr.out.alloc HBr.out.size (.cells #[.int .u8 M.nd.k, .int .i32 M.nd.r, .int .u32 M.nd.p, .int .u32 M.nd.m, .slice M.pk nk M.c] 36)).trans (hb4.mono (by have := HBr.out.size; simp; omega)))
            clear hb4 HOFF b0 b1 b2 b3 b4 ar0 ar1
            go_wp2_with fail
            go_roundw
            case rel => exact ⟨j + 1, by go_num, HJ.out, HY, HB4⟩
            case measure => have := HJ.out; simp [intOf]; omega
          | false =>
            have HX := Lib.hid (show R = 40 by rw [HRX.out, HNO.out rfl]; simp)
            clear HNO HYES
            go_wp2_with fail
            (with_reducible refine (HOFF.out _ ?_).mono ?_)
            case refine_1 => exact HBr.out.alloc HBr.out.size _
            rintro e W4 ⟨rfl, hb4⟩
            have HB4 := Lib.hid ((HBr.out.alloc HBr.out.size (.cells #[.int .u8 M.nd.k, .int .i32 M.nd.r, .int .u32 M.nd.p, .int .u32 M.nd.m, .slice M.pk nk M.c] 36)).trans (hb4.mono (by have := HBr.out.size; simp; omega)))
            clear hb4 HOFF b0 b1 b2 b3 b4 ar0 ar1
            go_wp2_with fail
            go_ret
            exact ⟨by rw [HX.out] <;> rfl, HB0.out.trans ((HB1.out.trans (HB4.out.mono HB1.out.size)).mono (by have := HZ0.out; omega))⟩
        · obtain rfl : j = nm := by omega
          have HX := Lib.hid (show R = 0 by rw [HRX.out, HALL2.out HP.out]; simp)
          go_wp2_with fail
          go_ret
          exact ⟨by rw [HX.out] <;> rfl, HB0.out.trans ((HB1.out.trans (HBr.out.mono HB1.out.size)).mono (by have := HZ0.out; omega))⟩
  · have HX := Lib.hid (show R = E by rw [HRR.out, if_pos hE0])
    have q1 : ((E : Int) == 0) = false := by simpa using hE0
    have q2 : ((E : Int) != 0) = true := by simpa using hE0
    clear HRR hE0
    go_enter Tryd.func12, Tryd.ntmps12
    go_wp2_with fail
    rw [← HW0.out]
    (with_reducible refine (HRO.out).mono ?_)
    rintro e W1 ⟨v, rfl, ho, hb1⟩
    obtain ⟨ro, rc, rfl⟩ := ownF_shape ho
    have HB1 := Lib.hid (HB0.out.trans (hb1.mono (by have := HZ0.out; omega)))
    clear ho hb1 HRO
    go_wp2_with fail
    go_ret
    exact ⟨by rw [HX.out] <;> rfl, HB1.out⟩
end Go.Proofs.YtmechinlaladiaaDoor
namespace Go.Proofs.YtmechinlaladiaaDoor
open Go.RowKit Go.Lib
set_option linter.unusedVariables false

theorem chkP_tree {A : Al} {ns : List Nd} (h : chkP A ns = 0) : aacR A 0 0 = 0 ∧ IsTree ns ∧ ns.all (isOfB A) = true := by
  unfold chkP at h
  by_cases h1 : aacR A 0 0 = 0
  · rw [if_neg (by simpa using h1)] at h
    cases h2 : treeB ns with
    | false => rw [h2, if_pos rfl] at h; cases h
    | true =>
      rw [h2, if_neg (by simp)] at h
      by_cases h3 : ns.all (isOfB A) = true
      · exact ⟨h1, (treeB_iff ns).1 h2, h3⟩
      · rw [if_neg h3] at h; cases h
  · rw [if_pos (by simpa using h1)] at h; exact absurd h h1
set_option maxHeartbeats 4000000 in
set_option maxRecDepth 100000 in
theorem ptext_any (A : Al) (q : PtM) (w : World) (hA : A.In w) (hI : NsIn q.pn q.bn q.n0 q.ms w) :
    Calls Tryd.prog 20 #[A.v, q.v] w fun e w' => e = .returned (.tuple #[.string (bO (txtR A (nds q.ms)).1), .int .i64 (txtR A (nds q.ms)).2]) ∧ Below w.heap.size w w' := by
  have hv : A.v = .agg #[.slice A.pf A.fs.length A.cf, .slice A.pl A.ls.length A.cl] := rfl
  have hqv : q.v = .agg #[.slice q.pn q.ms.length q.c] := rfl
  obtain ⟨W0, hW0⟩ : ∃ W0, W0 = (w.alloc (.cells #[.slice A.pf A.fs.length A.cf, .slice A.pl A.ls.length A.cl] 31)).alloc (.cells #[.slice q.pn q.ms.length q.c] 24) := ⟨_, rfl⟩
  have hB0 : Below w.heap.size w W0 := by rw [hW0]; exact ((Below.refl _ _).alloc (Nat.le_refl _) _).alloc (by simp) _
  have hz0 : W0.heap.size = w.heap.size + 2 := by rw [hW0]; simp
  obtain ⟨a0, a1, x0⟩ : W0.cell? ⟨w.heap.size, 0, none⟩ = some (.slice A.pf A.fs.length A.cf) ∧ W0.cell? ⟨w.heap.size, 1, none⟩ = some (.slice A.pl A.ls.length A.cl) ∧ W0.cell? ⟨w.heap.size + 1, 0, none⟩ = some (.slice q.pn q.ms.length q.c) := by
    have e : w.heap.size + 1 = (w.alloc (.cells #[.slice A.pf A.fs.length A.cf, .slice A.pl A.ls.length A.cl] 31)).heap.size := by simp
    rw [hW0]
    refine ⟨by simp, by simp, ?_⟩
    rw [e]; simp
  have hck := pcheck_any A q W0 (hA.next hB0) (hI.next hB0)
  have hto := fun (h : chkP A (nds q.ms) = 0) W (hb : Below W0.heap.size W0 W) => textOf_any A q W ((hA.next hB0).next hb) ((hI.next hB0).next hb) (tr0 (nds q.ms)) (tr0_at (chkP_tree h).2.1) (by rw [tr0_sz (chkP_tree h).2.1]; have := (chkP_tree h).2.1.most; omega)
  have hlen := fun (h : chkP A (nds q.ms) = 0) => (show ((tr0 (nds q.ms)).txt A).length ≤ 805 * 256 by
    have h1 := Tr.txt_len A (tr0 (nds q.ms))
    have h2 := tr0_sz (chkP_tree h).2.1
    have h3 := (chkP_tree h).2.1.most
    omega)
  obtain ⟨R, hR⟩ : ∃ R, R = txtR A (nds q.ms) := ⟨_, rfl⟩
  have hRR := hR
  unfold txtR at hRR
  rw [← hR, hv, hqv]
  rw [hv, hqv] at hck
  rw [hv, hqv] at hto
  obtain ⟨E, hE⟩ : ∃ E, E = chkP A (nds q.ms) := ⟨_, rfl⟩
  rw [← hE] at hRR hck hto hlen
  obtain ⟨L, hL⟩ : ∃ L, L = (tr0 (nds q.ms)).txt A := ⟨_, rfl⟩
  rw [← hL] at hRR hto hlen
  obtain ⟨nf, hnf⟩ : ∃ x, x = A.fs.length := ⟨_, rfl⟩
  obtain ⟨nl, hnl2⟩ : ∃ x, x = A.ls.length := ⟨_, rfl⟩
  obtain ⟨nm, hnm⟩ : ∃ x, x = q.ms.length := ⟨_, rfl⟩
  rw [← hnf] at a0 hck hto hW0
  rw [← hnl2] at a1 hck hto hW0
  rw [← hnm] at x0 hck hto hW0
  rw [← hnf, ← hnl2, ← hnm]
  have HCK := Lib.hid hck; have HTO := Lib.hid hto; have HRR := Lib.hid hRR; have HB0 := Lib.hid hB0; have HW0 := Lib.hid hW0; have HZ0 := Lib.hid hz0; have HLEN := Lib.hid hlen
  have A0 := Lib.hid a0; have A1 := Lib.hid a1; have X0 := Lib.hid x0
  clear hck hto hRR hB0 hW0 hz0 a0 a1 x0 hA hI hv hqv hR hE hL hnf hnl2 hnm hlen
  by_cases hE0 : E = 0
  · subst hE0
    have HTT := Lib.hid (HTO.out rfl)
    have hl := HLEN.out rfl
    have hs := bO_size L
    obtain ⟨S, hS⟩ : ∃ S, S = bO L := ⟨_, rfl⟩
    rw [← hS] at HTT hs
    have hRx := HRR.out
    rw [if_neg (by simp)] at hRx
    have HRX := Lib.hid hRx; have HS := Lib.hid hS; have HSS := Lib.hid hs
    have hs2 : S.size ≤ 300000 := by omega
    clear HTO HLEN HRR hRx hS hs
    go_enter Tryd.func20, Tryd.ntmps20
    go_wp2_with fail
    rw [← HW0.out]
    (with_reducible refine (HCK.out).mono ?_)
    rintro e W1 ⟨rfl, hb1⟩
    have a01 := (hb1.cell (p := ⟨w.heap.size, 0, none⟩) (by have := HZ0.out; show w.heap.size < _; omega)).trans A0.out
    have a11 := (hb1.cell (p := ⟨w.heap.size, 1, none⟩) (by have := HZ0.out; show w.heap.size < _; omega)).trans A1.out
    have x1 := (hb1.cell (p := ⟨w.heap.size + 1, 0, none⟩) (by have := HZ0.out; show w.heap.size + 1 < _; omega)).trans X0.out
    have HB1 := Lib.hid hb1
    clear hb1 HCK
    go_wp2_with fail
    (with_reducible refine (HTT.out _ HB1.out).mono ?_)
    rintro e W2 ⟨rfl, hb2⟩
    have HB2 := Lib.hid (HB0.out.trans ((HB1.out.trans (hb2.mono HB1.out.size)).mono (by have := HZ0.out; omega)))
    clear hb2 HTT HB1 a01 a11 x1
    by_cases hlong : 65536 < S.size
    · have HX := Lib.hid (show R = ([], 3) by rw [HRX.out, if_pos (by rw [← HSS.out]; exact hlong)])
      have q1 : (65536 : Int) < (S.size : Int) := by omega
      clear hlong
      go_wp2_with fail
      go_ret2
      exact ⟨by rw [HX.out] <;> rfl, HB2.out⟩
    · have HX := Lib.hid (show R = (L, 0) by rw [HRX.out, if_neg (by rw [← HSS.out]; exact hlong)])
      have q1 : ¬ (65536 : Int) < (S.size : Int) := by omega
      clear hlong
      go_wp2_with fail
      go_ret2
      exact ⟨by rw [HX.out, HS.out] <;> rfl, HB2.out⟩
  · have HX := Lib.hid (show R = ([], E) by rw [HRR.out, if_pos hE0])
    have q1 : ((E : Int) == 0) = false := by simpa using hE0
    have q2 : ((E : Int) != 0) = true := by simpa using hE0
    clear HRR hE0 HTO HLEN
    go_enter Tryd.func20, Tryd.ntmps20
    go_wp2_with fail
    rw [← HW0.out]
    (with_reducible refine (HCK.out).mono ?_)
    rintro e W1 ⟨rfl, hb1⟩
    have HB1 := Lib.hid (HB0.out.trans (hb1.mono (by have := HZ0.out; omega)))
    clear hb1 HCK
    go_wp2_with fail
    go_ret2
    exact ⟨by rw [HX.out] <;> rfl, HB1.out⟩
end Go.Proofs.YtmechinlaladiaaDoor
namespace Go.Proofs.YtmechinlaladiaaDoor
open Go.RowKit Go.Lib
set_option linter.unusedVariables false
mutual
theorem Tr.At_det {ns : List Nd} : ∀ {t u : Tr} {i : Int}, t.At ns i → u.At ns i → t = u
  | .nd k r p m ts, .nd k' r' p' m' us, i, h, g => by
    obtain ⟨_, n, hn, rfl, rfl, rfl, rfl, ha⟩ := h
    obtain ⟨_, n', hn', rfl, rfl, rfl, rfl, hb⟩ := g
    rw [hn] at hn'
    cases hn'
    rw [Ts.Ats_det ha hb]
theorem Ts.Ats_det {ns : List Nd} : ∀ {t u : Ts} {x : List Int}, t.Ats ns x → u.Ats ns x → t = u
  | .nil, .nil, _, _, _ => rfl
  | .nil, .cons u us, x, h, g => by
    have h' : x = [] := h
    obtain ⟨i, is', e, _⟩ := g
    rw [h'] at e; cases e
  | .cons t ts, .nil, x, h, g => by
    have g' : x = [] := g
    obtain ⟨i, is', e, _⟩ := h
    rw [g'] at e; cases e
  | .cons t ts, .cons u us, x, h, g => by
    obtain ⟨i, is', e, h1, h2⟩ := h
    obtain ⟨i', is'', e', g1, g2⟩ := g
    rw [e] at e'
    cases e'
    rw [Tr.At_det h1 g1, Ts.Ats_det h2 g2]
end
mutual
/-- A tree's own nodes, wherever they stand, tell it. -/
theorem Tr.flat_At : ∀ (t : Tr) (pre post : List Nd), t.At (pre ++ (t.flat pre.length ++ post)) (pre.length : Int)
  | .nd k r p m ts, pre, post => by
    refine ⟨by omega, ⟨k, r, p, m, ts.starts (pre.length + 1)⟩, ?_, rfl, rfl, rfl, rfl, ?_⟩
    · rw [Int.toNat_natCast, List.getElem?_append_right (Nat.le_refl _), Nat.sub_self]
      rfl
    · have h := Ts.flats_Ats ts (pre ++ [⟨k, r, p, m, ts.starts (pre.length + 1)⟩]) post
      rw [List.length_append, List.append_assoc] at h
      exact h
theorem Ts.flats_Ats : ∀ (ts : Ts) (pre post : List Nd), ts.Ats (pre ++ (ts.flats pre.length ++ post)) (ts.starts pre.length)
  | .nil, _, _ => rfl
  | .cons t ts, pre, post => by
    refine ⟨_, _, rfl, ?_, ?_⟩
    · have h := Tr.flat_At t pre (ts.flats (pre.length + t.sz) ++ post)
      rw [← List.append_assoc (t.flat pre.length)] at h
      exact h
    · have h := Ts.flats_Ats ts (pre ++ t.flat pre.length) post
      rw [List.length_append, Tr.flat_length, List.append_assoc, ← List.append_assoc (t.flat pre.length)] at h
      exact h
end
theorem Tr.flat_At0 (t : Tr) : t.At (t.flat 0) 0 := by
  have h := t.flat_At [] []
  simpa using h
theorem Ts.app_nil : ∀ a : Ts, a.app .nil = a
  | .nil => rfl
  | .cons t ts => by simp [Ts.app, Ts.app_nil ts]
theorem Ts.app_assoc : ∀ a b c : Ts, (a.app b).app c = a.app (b.app c)
  | .nil, _, _ => rfl
  | .cons t ts, b, c => by simp [Ts.app, Ts.app_assoc ts b c]
theorem Ts.rev_app : ∀ a b : Ts, (a.app b).rev = b.rev.app a.rev
  | .nil, b => by simp [Ts.app, Ts.rev, Ts.app_nil]
  | .cons t ts, b => by simp [Ts.app, Ts.rev, Ts.rev_app ts b, Ts.app_assoc]
theorem Ts.rev_rev : ∀ a : Ts, a.rev.rev = a
  | .nil => rfl
  | .cons t ts => by simp [Ts.rev, Ts.rev_app, Ts.rev_rev ts, Ts.app]
mutual
theorem Tr.turn_turn : ∀ t : Tr, t.turn.turn = t
  | .nd k r p m ts => by
    have h := Ts.turns_turns ts
    by_cases hk : k = 6
    · simp [Tr.turn, hk, Ts.turns_rev, Ts.rev_rev, h]
    · simp [Tr.turn, hk, h]
theorem Ts.turns_turns : ∀ t : Ts, t.turns.turns = t
  | .nil => rfl
  | .cons t ts => by simp [Ts.turns, Tr.turn_turn t, Ts.turns_turns ts]
end
theorem Ts.starts_app : ∀ (a c : Ts) (b : Nat), (a.app c).starts b = a.starts b ++ c.starts (b + a.sz)
  | .nil, c, b => by simp [Ts.app, Ts.starts, Ts.sz]
  | .cons t ts, c, b => by simp [Ts.app, Ts.starts, Ts.sz, Ts.starts_app ts c, Nat.add_assoc]
theorem Ts.flats_app : ∀ (a c : Ts) (b : Nat), (a.app c).flats b = a.flats b ++ c.flats (b + a.sz)
  | .nil, c, b => by simp [Ts.app, Ts.flats, Ts.sz]
  | .cons t ts, c, b => by simp [Ts.app, Ts.flats, Ts.sz, Ts.flats_app ts c, Nat.add_assoc]
/-- What the stack holds (its top first), i nodes gone through: where the trees begin that are still to come. -/
def Stk (ns : List Nd) (i : Nat) (st : List Int) : Prop := ∃ ts : Ts, st = ts.starts i ∧ ns.drop i = ts.flats i
theorem Stk.start (t : Tr) : Stk (t.flat 0) 0 [0] := ⟨.cons t .nil, rfl, by simp [Ts.flats]⟩
theorem Stk.step {ns : List Nd} {i : Nat} {st : List Int} (h : Stk ns i st) (hi : i < ns.length) : ∃ st', st = (i : Int) :: st' ∧ Stk ns (i + 1) (ns[i].ks ++ st') := by
  obtain ⟨ts, rfl, hd⟩ := h
  rw [List.drop_eq_getElem_cons hi] at hd
  cases ts with
  | nil => cases hd
  | cons t ts =>
    obtain ⟨k, r, p, m, us⟩ := t
    have e : Ts.flats i (.cons (.nd k r p m us) ts) = ⟨k, r, p, m, us.starts (i + 1)⟩ :: (us.flats (i + 1) ++ ts.flats (i + (1 + us.sz))) := by simp [Ts.flats, Tr.flat, Tr.sz]
    rw [e] at hd
    injection hd with h1 h2
    refine ⟨ts.starts (i + (1 + us.sz)), rfl, us.app ts, ?_, ?_⟩
    · rw [h1, Ts.starts_app, show i + 1 + us.sz = i + (1 + us.sz) by omega]
    · rw [h2, Ts.flats_app, show i + 1 + us.sz = i + (1 + us.sz) by omega]
theorem Stk.done {ns : List Nd} {st : List Int} (h : Stk ns ns.length st) : st = [] := by
  obtain ⟨ts, rfl, hd⟩ := h
  rw [List.drop_length] at hd
  cases ts with
  | nil => rfl
  | cons t ts =>
    have := congrArg List.length hd
    rw [Ts.flats_length] at this
    cases t
    simp [Ts.sz, Tr.sz] at this
    omega
/-! ### a tree's own nodes are a tree -/
mutual
/-- Each node is one of a tree, by its kind. -/
def Tr.ok : Tr → Prop
  | .nd k r p m ts => nodeB ⟨k, r, p, m, List.replicate ts.len 0⟩ = true ∧ ts.oks
def Ts.oks : Ts → Prop
  | .nil => True
  | .cons t ts => t.ok ∧ ts.oks
end
theorem nodeB_len {k : Nat} {r : Int} {p m : Nat} {a b : List Int} (h : a.length = b.length) : nodeB ⟨k, r, p, m, a⟩ = nodeB ⟨k, r, p, m, b⟩ := by
  unfold nodeB
  rw [h]
mutual
theorem Tr.ok_of {ns : List Nd} (h : ∀ (i : Nat) (n : Nd), ns[i]? = some n → nodeB n = true) : ∀ {t : Tr} {i : Int}, t.At ns i → t.ok
  | .nd k r p m ts, i, hA => by
    obtain ⟨_, n, hn, rfl, rfl, rfl, rfl, ha⟩ := hA
    refine ⟨?_, Ts.oks_of h ha⟩
    have h1 := h _ n hn
    rw [nodeB_len (b := n.ks) (by rw [List.length_replicate, Ts.Ats_length ha])]
    exact h1
theorem Ts.oks_of {ns : List Nd} (h : ∀ (i : Nat) (n : Nd), ns[i]? = some n → nodeB n = true) : ∀ {t : Ts} {x : List Int}, t.Ats ns x → t.oks
  | .nil, _, _ => trivial
  | .cons t ts, _, hA => by
    obtain ⟨i, is', rfl, h1, h2⟩ := hA
    exact ⟨Tr.ok_of h h1, Ts.oks_of h h2⟩
end
mutual
theorem Tr.flat_ok : ∀ (t : Tr) (b : Nat), t.ok → ∀ n ∈ t.flat b, nodeB n = true
  | .nd k r p m ts, b, h, n, hn => by
    rcases List.mem_cons.1 hn with rfl | hn
    · rw [nodeB_len (b := List.replicate ts.len 0) (by rw [List.length_replicate, Ts.starts_length])]
      exact h.1
    · exact Ts.flats_ok ts (b + 1) h.2 n hn
theorem Ts.flats_ok : ∀ (ts : Ts) (b : Nat), ts.oks → ∀ n ∈ ts.flats b, nodeB n = true
  | .nil, _, _, n, hn => by cases hn
  | .cons t ts, b, h, n, hn => by
    rcases List.mem_append.1 hn with hn | hn
    · exact Tr.flat_ok t b h.1 n hn
    · exact Ts.flats_ok ts _ h.2 n hn
end
theorem Ts.starts_lt : ∀ (ts : Ts) (b : Nat), ∀ k ∈ ts.starts b, (b : Int) ≤ k ∧ k < ((b + ts.sz : Nat) : Int)
  | .nil, _, k, hk => by cases hk
  | .cons t ts, b, k, hk => by
    have ht : 1 ≤ t.sz := by cases t; simp [Tr.sz]
    rcases List.mem_cons.1 hk with rfl | hk
    · simp only [Ts.sz]; omega
    · have := Ts.starts_lt ts (b + t.sz) k hk
      simp only [Ts.sz]; omega
mutual
theorem Tr.flat_more : ∀ (t : Tr) (b j : Nat) (n : Nd), (t.flat b)[j]? = some n → ∀ k ∈ n.ks, ((b + j : Nat) : Int) < k ∧ k < ((b + t.sz : Nat) : Int)
  | .nd k r p m ts, b, 0, n, hn, q, hq => by
    simp [Tr.flat] at hn
    subst hn
    have := Ts.starts_lt ts (b + 1) q hq
    simp only [Tr.sz]; omega
  | .nd k r p m ts, b, j + 1, n, hn, q, hq => by
    have := Ts.flats_more ts (b + 1) j n (by simpa [Tr.flat] using hn) q hq
    simp only [Tr.sz]; omega
theorem Ts.flats_more : ∀ (ts : Ts) (b j : Nat) (n : Nd), (ts.flats b)[j]? = some n → ∀ k ∈ n.ks, ((b + j : Nat) : Int) < k ∧ k < ((b + ts.sz : Nat) : Int)
  | .nil, _, _, _, hn, _, _ => by simp [Ts.flats] at hn
  | .cons t ts, b, j, n, hn, q, hq => by
    simp only [Ts.flats] at hn
    by_cases hj : j < t.sz
    · rw [List.getElem?_append_left (by rw [Tr.flat_length]; exact hj)] at hn
      have := Tr.flat_more t b j n hn q hq
      simp only [Ts.sz]; omega
    · rw [List.getElem?_append_right (by rw [Tr.flat_length]; omega), Tr.flat_length] at hn
      have := Ts.flats_more ts (b + t.sz) (j - t.sz) n hn q hq
      simp only [Ts.sz]; omega
end
def kidsOf (l : List Nd) : List Nat := l.flatMap fun n => n.ks.map Int.toNat
theorem allK_eq (ns : List Nd) : allK ns = kidsOf ns := by
  unfold allK kidsOf
  have h : ∀ (pre l : List Nd), ns = pre ++ l → (List.range' pre.length l.length).flatMap (kidsN ns) = l.flatMap fun n => n.ks.map Int.toNat := by
    intro pre l
    induction l generalizing pre with
    | nil => intro _; rfl
    | cons a l ih =>
      intro e
      rw [List.length_cons, List.range'_succ, List.flatMap_cons, List.flatMap_cons]
      have h2 := ih (pre ++ [a]) (by rw [e]; simp)
      rw [List.length_append, List.length_singleton] at h2
      rw [h2]
      congr 1
      unfold kidsN
      rw [e, List.getElem?_append_right (Nat.le_refl _), Nat.sub_self]
      rfl
  have := h [] ns rfl
  rw [List.range_eq_range']
  exact this
mutual
theorem Tr.kids_perm : ∀ (t : Tr) (b : Nat), (kidsOf (t.flat b)).Perm (List.range' (b + 1) (t.sz - 1))
  | .nd k r p m ts, b => by
    have h := Ts.kids_perm ts (b + 1)
    have e : kidsOf (Tr.flat b (.nd k r p m ts)) = (ts.starts (b + 1)).map Int.toNat ++ kidsOf (ts.flats (b + 1)) := by simp [kidsOf, Tr.flat]
    rw [e, show (Tr.nd k r p m ts).sz - 1 = ts.sz by simp [Tr.sz]]
    exact h
theorem Ts.kids_perm : ∀ (ts : Ts) (b : Nat), ((ts.starts b).map Int.toNat ++ kidsOf (ts.flats b)).Perm (List.range' b ts.sz)
  | .nil, b => by simp [Ts.starts, Ts.flats, kidsOf, Ts.sz]
  | .cons t ts, b => by
    have h1 := Tr.kids_perm t b
    have h2 := Ts.kids_perm ts (b + t.sz)
    have ht : 1 ≤ t.sz := by cases t; simp [Tr.sz]
    have e : ((Ts.starts b (.cons t ts)).map Int.toNat ++ kidsOf (Ts.flats b (.cons t ts))) = b :: ((ts.starts (b + t.sz)).map Int.toNat ++ (kidsOf (t.flat b) ++ kidsOf (ts.flats (b + t.sz)))) := by simp [Ts.starts, Ts.flats, kidsOf]
    have e2 : List.range' b (Ts.cons t ts).sz = b :: (List.range' (b + 1) (t.sz - 1) ++ List.range' (b + t.sz) ts.sz) := by
      obtain ⟨d, hd⟩ : ∃ d, t.sz = d + 1 := ⟨t.sz - 1, by omega⟩
      simp only [Ts.sz, hd]
      rw [show d + 1 + ts.sz = (d + ts.sz) + 1 by omega, List.range'_succ, show b + (d + 1) = b + 1 + d by omega, Nat.add_sub_cancel, ← List.range'_append_1]
    rw [e, e2]
    refine List.Perm.cons _ ?_
    refine List.Perm.trans ?_ (h1.append h2)
    rw [← List.append_assoc, ← List.append_assoc]
    exact List.perm_append_comm.append_right _
end
theorem Tr.flat_is {t : Tr} (h : t.ok) (hs : t.sz ≤ 256) : IsTree (t.flat 0) := by
  have hl := Tr.flat_length t 0
  have h1 : 1 ≤ t.sz := by cases t; simp [Tr.sz]
  have hp := Tr.kids_perm t 0
  rw [← allK_eq] at hp
  refine ⟨by omega, by omega, fun i n hn => Tr.flat_ok t 0 h n (List.mem_of_getElem? hn), fun i n hn k hk => ?_, ?_, ?_⟩
  · have := Tr.flat_more t 0 i n hn k hk
    rw [hl]
    omega
  · exact hp.symm.nodup List.nodup_range'
  · rw [hp.length_eq, List.length_range', hl]
mutual
theorem Tr.turn_ok : ∀ {t : Tr}, t.ok → t.turn.ok
  | .nd k r p m ts, h => by
    have h2 := Ts.turns_ok h.2
    have hl := Ts.turns_len ts
    unfold Tr.turn
    split
    · exact ⟨by rw [Ts.rev_len, hl]; exact h.1, Ts.rev_ok h2⟩
    · exact ⟨by rw [hl]; exact h.1, h2⟩
theorem Ts.turns_ok : ∀ {ts : Ts}, ts.oks → ts.turns.oks
  | .nil, _ => trivial
  | .cons t ts, h => ⟨Tr.turn_ok h.1, Ts.turns_ok h.2⟩
theorem Ts.turns_len : ∀ ts : Ts, ts.turns.len = ts.len
  | .nil => rfl
  | .cons t ts => by simp [Ts.turns, Ts.len, Ts.turns_len ts]
theorem Ts.rev_len : ∀ ts : Ts, ts.rev.len = ts.len
  | .nil => rfl
  | .cons t ts => by simp [Ts.rev, Ts.len, Ts.app_len, Ts.rev_len ts]; omega
theorem Ts.app_len : ∀ a b : Ts, (a.app b).len = a.len + b.len
  | .nil, b => by simp [Ts.app, Ts.len]
  | .cons t ts, b => by simp [Ts.app, Ts.len, Ts.app_len ts b]; omega
theorem Ts.rev_ok : ∀ {ts : Ts}, ts.oks → ts.rev.oks
  | .nil, _ => trivial
  | .cons t ts, h => Ts.app_ok (Ts.rev_ok h.2) ⟨h.1, trivial⟩
theorem Ts.app_ok : ∀ {a b : Ts}, a.oks → b.oks → (a.app b).oks
  | .nil, _, _, h => h
  | .cons t ts, _, h, g => ⟨h.1, Ts.app_ok h.2 g⟩
end
end Go.Proofs.YtmechinlaladiaaDoor
namespace Go.Proofs.YtmechinlaladiaaDoor
open Go.RowKit Go.Lib
set_option linter.unusedVariables false
theorem tr0_ok {ns : List Nd} (h : IsTree ns) : (tr0 ns).ok := Tr.ok_of (fun i n hn => h.node i n hn) (tr0_at h)
/-- The tree of a tree's own nodes. -/
theorem tr0_flat {t : Tr} (h : t.ok) (hs : t.sz ≤ 256) : tr0 (t.flat 0) = t := Tr.At_det (tr0_at (Tr.flat_is h hs)) t.flat_At0
theorem tr0_le {ns : List Nd} (h : IsTree ns) : (tr0 ns).sz ≤ 256 := by rw [tr0_sz h]; exact h.most
theorem turn_is {ns : List Nd} (h : IsTree ns) : IsTree (turnN ns) := Tr.flat_is (Tr.turn_ok (tr0_ok h)) (by rw [Tr.turn_sz]; exact tr0_le h)
theorem tr0_turn {ns : List Nd} (h : IsTree ns) : tr0 (turnN ns) = (tr0 ns).turn := tr0_flat (Tr.turn_ok (tr0_ok h)) (by rw [Tr.turn_sz]; exact tr0_le h)
theorem turn_back {ns : List Nd} (h : IsTree ns) : turnN (turnN ns) = normN ns := by
  unfold turnN
  rw [show (tr0 (Tr.flat 0 (tr0 ns).turn)) = (tr0 ns).turn from tr0_turn h, Tr.turn_turn]
  rfl
theorem turn_len {ns : List Nd} (h : IsTree ns) : (turnN ns).length = ns.length := by
  unfold turnN
  rw [Tr.flat_length, Tr.turn_sz, tr0_sz h]
theorem norm_is {ns : List Nd} (h : IsTree ns) : IsTree (normN ns) := Tr.flat_is (tr0_ok h) (tr0_le h)
theorem norm_norm {ns : List Nd} (h : IsTree ns) : normN (normN ns) = normN ns := by
  unfold normN
  rw [tr0_flat (tr0_ok h) (tr0_le h)]
theorem same_back {ns : List Nd} (h : IsTree ns) : sameB (turnN (turnN ns)) ns = true := by
  rw [sameB_iff, turn_back h]
  exact ⟨norm_is h, h, norm_norm h⟩
theorem ofL_oks : ∀ l : List Tr, (∀ t ∈ l, t.ok) → (ofL l).oks
  | [], _ => trivial
  | t :: l, h => ⟨h t (List.mem_cons_self ..), ofL_oks l (fun q hq => h q (List.mem_cons_of_mem _ hq))⟩
/-- A PatSeq or a PatOr above trees. -/
theorem made_ok {k : Nat} (hk : k = 6 ∨ k = 7) {l : List (List Nd)} (h : ∀ ns ∈ l, IsTree ns) : (Tr.nd k 0 0 0 (ofL (l.map tr0))).ok := by
  refine ⟨?_, ofL_oks _ (fun t ht => by obtain ⟨ns, hns, rfl⟩ := List.mem_map.1 ht; exact tr0_ok (h ns hns))⟩
  unfold nodeB
  rcases hk with rfl | rfl <;> simp
theorem made_is {k : Nat} (hk : k = 6 ∨ k = 7) {l : List (List Nd)} (h : ∀ ns ∈ l, IsTree ns) (hs : 1 + sumN l ≤ 256) : IsTree (madeN k l) := by
  refine Tr.flat_is (made_ok hk h) ?_
  show 1 + (ofL (l.map tr0)).sz ≤ 256
  rw [made_sz (List.all_eq_true.2 fun ns hns => (treeB_iff ns).2 (h ns hns))]
  exact hs
theorem tr0_made {k : Nat} (hk : k = 6 ∨ k = 7) {l : List (List Nd)} (h : ∀ ns ∈ l, IsTree ns) (hs : 1 + sumN l ≤ 256) : tr0 (madeN k l) = .nd k 0 0 0 (ofL (l.map tr0)) := by
  refine tr0_flat (made_ok hk h) ?_
  show 1 + (ofL (l.map tr0)).sz ≤ 256
  rw [made_sz (List.all_eq_true.2 fun ns hns => (treeB_iff ns).2 (h ns hns))]
  exact hs
/-- A sequence of two, turned, is that of both turned, the last one first. -/
theorem turn_two {a b : List Nd} (ha : IsTree a) (hb : IsTree b) (hs : 1 + (a.length + b.length) ≤ 256) : turnN (madeN 6 [a, b]) = madeN 6 [turnN b, turnN a] := by
  have h : ∀ ns ∈ [a, b], IsTree ns := fun ns hns => by
    rcases List.mem_cons.1 hns with rfl | hns
    · exact ha
    · rw [List.mem_singleton.1 hns]; exact hb
  have hs2 : 1 + sumN [a, b] ≤ 256 := by simp [sumN]; omega
  have e := tr0_made (k := 6) (Or.inl rfl) h hs2
  unfold turnN
  rw [e]
  show _ = (Tr.nd 6 0 0 0 (ofL ([turnN b, turnN a].map tr0))).flat 0
  simp only [List.map_cons, List.map_nil, tr0_turn ha, tr0_turn hb]
  rfl
/-- Whatever nodes stand in their one numbering: the stack comes to its end. -/
theorem num_norm {ns : List Nd} (t : Tr) (h : ns = t.flat 0) : Stk ns 0 [0] := by rw [h]; exact Stk.start t
end Go.Proofs.YtmechinlaladiaaDoor
