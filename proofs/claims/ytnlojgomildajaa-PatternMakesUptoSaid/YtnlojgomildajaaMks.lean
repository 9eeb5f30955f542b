/-
  THE LAW PatternMakes: its walk (made by program).
-/
import Derived.Test.YtnlojgomildajaaOwp
namespace Go.Proofs.Ytnlojgomildajaa
open Go.RowKit Go.Lib
set_option linter.unusedVariables false
theorem ps_nds {ps qs : List PtM} (hl : qs.length = ps.length) (h : ∀ j, j < ps.length → nds (qs.getD j default).ms = nds (ps.getD j default).ms) : pN qs = pN ps := by
  unfold pN
  apply List.ext_getElem (by simp [hl])
  intro i h1 h2
  have hi : i < ps.length := by simpa using h2
  have hq : i < qs.length := by omega
  have := h i hi
  rw [List.getD_eq_getElem?_getD, List.getD_eq_getElem?_getD, List.getElem?_eq_getElem hi, List.getElem?_eq_getElem hq] at this
  simpa using this

theorem rlike_m (qa qb : PtM) (W : World) (ha : NsIn qa.pn qa.bn qa.n0 qa.ms W) (hb : NsIn qb.pn qb.bn qb.n0 qb.ms W) (e : nds qa.ms = nds qb.ms) :
    Calls Try.prog 16 #[.agg #[.slice qa.pn qa.ms.length qa.c], .agg #[.slice qb.pn qb.ms.length qb.c]] W fun e w' => e = .returned (.bool true) ∧ Below W.heap.size W w' :=
  rlike_any qa.pn qb.pn qa.bn qa.n0 qa.c qb.bn qb.n0 qb.c qa.ms qb.ms W ha hb true ⟨fun _ => e, fun _ => rfl⟩
theorem below_up {n : Nat} {a b c : World} (h : Below n a b) (k : Below b.heap.size b c) (hn : n ≤ b.heap.size) : Below n a c := h.trans (k.mono hn)

theorem qn_snoc {qs ps : List PtM} {i : Nat} {q : PtM} (hl : qs.length = i) (h : ∀ j, j < i → nds (qs.getD j default).ms = nds (ps.getD j default).ms) (hq : nds q.ms = nds (ps.getD i default).ms) : ∀ j, j < i + 1 → nds ((qs ++ [q]).getD j default).ms = nds (ps.getD j default).ms := by
  intro j hj
  by_cases e : j = i
  · rw [e, List.getD_eq_getElem?_getD, List.getElem?_append_right (by omega), hl, Nat.sub_self]
    exact hq
  · rw [List.getD_eq_getElem?_getD, List.getElem?_append_left (by omega), ← List.getD_eq_getElem?_getD]
    exact h j (by omega)

set_option maxHeartbeats 16000000 in
set_option maxRecDepth 100000 in
theorem makes_walk (pp : Option Addr) (bp p0 cp : Nat) (ps : List PtM) (p : PtM) (r : Int) (u1 u2 : Nat) (w : World) (hPs : PsIn pp bp p0 ps w) (hX : ∀ q ∈ ps, q.In w) (hp : p.In w) (hr : -2147483648 ≤ r ∧ r ≤ 2147483647) (hu1 : u1 < 4294967296) (hu2 : u2 < 4294967296) :
    Calls Try.prog 3 #[.slice pp ps.length cp, p.v, .int .i32 r, .int .u32 u1, .int .u32 u2] w fun e w' => e = .returned (.bool true) ∧ Below w.heap.size w w' := by
  obtain ⟨n, hn⟩ : ∃ n, n = ps.length := ⟨_, rfl⟩
  obtain ⟨np, hnp⟩ : ∃ n, n = p.ms.length := ⟨_, rfl⟩
  obtain ⟨pn, hpn⟩ : ∃ n, n = p.pn := ⟨_, rfl⟩
  obtain ⟨pc, hpc⟩ : ∃ n, n = p.c := ⟨_, rfl⟩
  have kl := fun (W : World) (hW : Below w.heap.size w W) => long_any pp bp p0 cp ps W (hPs.next hW)
  have kl1 := fun (W : World) (hW : Below w.heap.size w W) (b : Nat) (hc : W.cell? ⟨b, 0, none⟩ = some (.slice p.pn p.ms.length p.c)) => long_any (some ⟨b, 0, none⟩) b 0 1 [p] W (one_ps p w W hp.i hW b hc)
  have ktw := fun (q : PtM) (hq : q.In w) (hl : q.ms.length ≤ 100000) (W : World) (hW : Below w.heap.size w W) => twin_p q W (hq.next hW) hl
  unfold PtM.v
  rw [← hn] at kl
  rw [← hnp, ← hpn, ← hpc] at kl1
  rw [← hn, ← hnp, ← hpn, ← hpc]
  have KL := Lib.hid kl; have KL1 := Lib.hid kl1; have KTW := Lib.hid ktw; have HPS := Lib.hid hPs; have HX := Lib.hid hX; have HP := Lib.hid hp; have HR := Lib.hid hr; have HU1 := Lib.hid hu1; have HU2 := Lib.hid hu2
  have HN := Lib.hid hn; have HNP := Lib.hid hnp; have HPN := Lib.hid hpn; have HPC := Lib.hid hpc
  have hbA : Below w.heap.size w (w.alloc (.cells #[.slice pn np pc] 25)) := (Below.refl _ _).alloc (Nat.le_refl _) _
  have hc0 : (w.alloc (.cells #[.slice pn np pc] 25)).cell? ⟨w.heap.size, 0, none⟩ = some (.slice pn np pc) := by simp
  obtain ⟨W1, hW1⟩ : ∃ W1, W1 = w.alloc (.cells #[.slice pn np pc] 25) := ⟨_, rfl⟩
  rw [← hW1] at hbA hc0
  have hz1 : W1.heap.size = w.heap.size + 1 := by rw [hW1]; simp
  have HW1 := Lib.hid hW1; have HBA := Lib.hid hbA; have HC0 := Lib.hid hc0; have HZ1 := Lib.hid hz1
  have hzi : w.heap.size < W1.heap.size := by omega
  clear kl kl1 ktw hPs hX hp hr hu1 hu2 hn hnp hpn hpc hW1 hz1 hbA
  go_enter Try.func3, Try.ntmps3
  go_wp2_with fail
  rw [← HW1.out]
  refine (KL.out _ HBA.out).mono ?_
  rintro e w2 ⟨B, rfl, hw, hB⟩
  have hw' := hw.symm
  subst hw'
  cases B with
  | true =>
    clear hB
    go_wp2_with fail
    go_ret
    exact ⟨rfl, HBA.out⟩
  | false =>
    obtain ⟨hn3, hl2⟩ := hB rfl
    have HN3 := Lib.hid hn3; have HL2 := Lib.hid hl2
    have hn300 : n ≤ 300 := by rw [HN.out]; exact hn3
    clear hB hn3 hl2
    have c0 := HC0.out
    have hb2 : Below w.heap.size w (W1.alloc (.cells #[.slice pn np pc] 25)) := HBA.out.alloc (by omega) _
    have hcl : (W1.alloc (.cells #[.slice pn np pc] 25)).cell? ⟨W1.heap.size, 0, none⟩ = some (.slice pn np pc) := by simp
    have HB2 := Lib.hid hb2; have HCL := Lib.hid hcl
    clear hb2 hcl
    go_wp2_with fail
    refine (KL1.out _ HB2.out _ HCL.out).mono ?_
    rintro e w3 ⟨B, rfl, hw, hB⟩
    have hw' := hw.symm
    subst hw'
    cases B with
    | true =>
      clear hB
      go_wp2_with fail
      go_ret
      exact ⟨rfl, HB2.out⟩
    | false =>
      have hnp2 : np ≤ 2000 := by
        have := (hB rfl).2 0 (by simp)
        rw [HNP.out]; simpa using this
      have HNP2 := Lib.hid hnp2
      obtain ⟨W2, hW2⟩ : ∃ W2, W2 = W1.alloc (.cells #[.slice pn np pc] 25) := ⟨_, rfl⟩
      have hb12 : Below W1.heap.size W1 W2 := by rw [hW2]; exact (Below.refl _ _).alloc (Nat.le_refl _) _
      have hb02 : Below w.heap.size w W2 := HBA.out.trans (hb12.mono (by omega))
      have c00 := (hb12.cell (p := ⟨w.heap.size, 0, none⟩) (by show w.heap.size < _; omega)).trans HC0.out
      rw [← hW2]
      have hz2 : w.heap.size + 1 < W2.heap.size := by rw [hW2]; simp; omega
      have HB02 := Lib.hid hb02; have HCP := Lib.hid c00
      obtain ⟨T, hT⟩ : ∃ T, T = W2.heap.size := ⟨_, rfl⟩
      have HT := Lib.hid hT
      clear hB hnp2 hb12 hb02 c0 c00 hc0 hT hW2 HB2 HCL KL KL1
      go_wp2_with fail
      go_loopw [11, 12] (fun ov iv wr => ∃ (i : Nat) (qs : List PtM), iv = .int .i64 i ∧ i ≤ n ∧ Hid (OwP W2.heap.size ov qs wr) ∧ Hid (qs.length = i) ∧ Hid (∀ j, j < i → nds (qs.getD j default).ms = nds (ps.getD j default).ms) ∧ Hid (Below W2.heap.size W2 wr)) (fun _ iv _ => n - (intOf iv).toNat)
      case atStart => exact ⟨0, [], rfl, by omega, Lib.hid (OwP.nil _ _), Lib.hid rfl, Lib.hid (fun j hj => by omega), Lib.hid (Below.refl _ _)⟩
      case round =>
        obtain ⟨i, qs, rfl, hi, HO, HQL, HQN, HBW⟩ := hrel
        obtain ⟨oo, no, co, rfl⟩ : ∃ o n c, u11 = .slice o n c := by obtain ⟨o, c, h⟩ := HO.out.shape; exact ⟨o, _, c, h⟩
        by_cases hin : i < n
        · have hil : i < ps.length := by rw [← HN.out]; exact hin
          have hbwr : Below w.heap.size w wr := HB02.out.trans (HBW.out.mono HB02.out.size)
          have hPw := HPS.out.next hbwr
          obtain rfl := hPw.at_ (by omega)
          obtain ⟨q, hq⟩ : ∃ q, q = ps.getD i default := ⟨_, rfl⟩
          have a0 := hPw.cells i hil
          rw [← hq] at a0
          have hqm : q ∈ ps := by rw [hq, List.getD_eq_getElem?_getD, List.getElem?_eq_getElem hil]; exact List.getElem_mem hil
          have hql : q.ms.length ≤ 100000 := by have := HL2.out i hil; rw [← hq] at this; omega
          have kt := KTW.out q (HX.out q hqm) hql wr hbwr
          unfold PtM.v at kt
          obtain ⟨x1, hx1⟩ : ∃ x, x = q.pn := ⟨_, rfl⟩
          obtain ⟨x2, hx2⟩ : ∃ x, x = q.ms.length := ⟨_, rfl⟩
          obtain ⟨x3, hx3⟩ : ∃ x, x = q.c := ⟨_, rfl⟩
          rw [← hx1, ← hx2, ← hx3] at kt a0
          have KT := Lib.hid kt; have HQ := Lib.hid hq; have HJ := Lib.hid (show i + 1 ≤ n from hin)
          have HN300 := Lib.hid hn300
          clear kt hq hx1 hx2 hx3 hPw hqm hql hbwr
          go_wp2_with fail
          refine KT.out.mono ?_
          rintro e w4 ⟨qn, rfl, hqn1, hqn2, hqn3⟩
          have ho4 := HO.out.next hqn3
          have hs4 := hqn3.size
          have hsr := HBW.out.size
          have hm4 := hqn2.lower (show W2.heap.size ≤ wr.heap.size from hsr)
          have hap4 : ∀ k, Bk qn k → ¬ (Value.slice oo no co).ownBlock = some k := fun k hk e => by
            have h1 := (hqn2.bk k hk).1
            have h2 := (HO.out.own.lt k e).2
            omega
          have hb4 := HBW.out.trans (hqn3.mono hsr)
          have HO4 := Lib.hid ho4; have HM4 := Lib.hid hm4; have HAP4 := Lib.hid hap4; have HB4 := Lib.hid hb4; have HQN1 := Lib.hid hqn1
          have hov : ∀ k, (Value.slice oo no co).ownBlock = some k → W2.heap.size ≤ k := fun k hk => (HO.out.own.lt k hk).1
          have HOV := Lib.hid hov
          have hlq : qs.length < 1000000 := by rw [HQL.out]; have := HN300.out; omega
          have HLQ := Lib.hid hlq
          have hs4' : W2.heap.size ≤ w4.heap.size := by omega
          clear ho4 hm4 hap4 hb4 hqn1 hqn2 hqn3 hov hlq a0 KT hsr hs4
          unfold PtM.v
          go_wp2_with (at_builtin; refine app_pt rfl (.tmp 50) (.tmp 56) rfl W2.heap.size (.slice oo no co) qs rfl (HO4.out.next ((Below.refl _ _).alloc (Nat.le_refl _) _)) ⟨w4.heap.size, 0, none⟩ qn rfl (by simp [Addr.add, PtM.c1]) (HM4.out.next ((Below.refl _ _).alloc (Nat.le_refl _) _)) HAP4.out HLQ.out (by simp; omega) ?_)
          intro ov' w5 ho5 hg5 hat5
          have hb5 : Below W2.heap.size W2 w5 := (HB4.out.alloc hs4' _).grown hg5 (by simp; omega) HOV.out
          have HO5 := Lib.hid ho5; have HB5 := Lib.hid hb5
          clear ho5 hg5 hat5 hb5
          go_wp2_with fail
          go_roundw
          case rel => exact ⟨i + 1, _, by go_num, HJ.out, HO5, Lib.hid (by rw [List.length_append, HQL.out]; rfl), Lib.hid (qn_snoc HQL.out HQN.out (by rw [← HQ.out]; exact HQN1.out)), HB5⟩
          case measure => have := HJ.out; simp [intOf]; omega
        · obtain rfl : i = n := by omega
          have hpq : pN qs = pN ps := ps_nds (by rw [HQL.out, HN.out]) (fun j hj => HQN.out j (by rw [HN.out]; exact hj))
          obtain ⟨hno, bo, hpo⟩ := HO.out.psin (by rw [HQL.out]; omega)
          rw [HQL.out] at hno
          subst hno
          have hbwr : Below w.heap.size w wr := HB02.out.trans (HBW.out.mono HB02.out.size)
          have hzwr : w.heap.size + 1 < wr.heap.size := by have := HBW.out.size; omega
          have hzwr' : w.heap.size < wr.heap.size := by omega
          have c0 := (HBW.out.cell (p := ⟨w.heap.size, 0, none⟩) (by show w.heap.size < _; omega)).trans HCP.out
          obtain ⟨E1, hE1⟩ : ∃ E, E = madeE (pN ps) := ⟨_, rfl⟩
          obtain ⟨R6, hR6⟩ : ∃ E, E = madeR 6 (pN ps) := ⟨_, rfl⟩
          obtain ⟨R7, hR7⟩ : ∃ E, E = madeR 7 (pN ps) := ⟨_, rfl⟩
          obtain ⟨E3, hE3⟩ : ∃ E, E = madeE [nds p.ms] := ⟨_, rfl⟩
          obtain ⟨R8, hR8⟩ : ∃ E, E = madeR 8 [nds p.ms] := ⟨_, rfl⟩
          obtain ⟨R9, hR9⟩ : ∃ E, E = madeR 9 [nds p.ms] := ⟨_, rfl⟩
          obtain ⟨ET, hET⟩ : ∃ E, E = turnE (nds p.ms) := ⟨_, rfl⟩
          obtain ⟨RT, hRT⟩ : ∃ E, E = turnR (nds p.ms) := ⟨_, rfl⟩
          have kone := KTW.out p HP.out (by have := HNP2.out; rw [HNP.out] at this; omega) wr hbwr
          unfold PtM.v at kone
          rw [← HPN.out, ← HNP.out, ← HPC.out] at kone
          have k1 := fun (W : World) (hW : Below wr.heap.size wr W) => pseq_any oo bo 0 co qs W (hpo.next hW)
          have k2 := fun (W : World) (hW : Below wr.heap.size wr W) => rseq_any pp bp p0 cp ps W (HPS.out.next (below_up hbwr hW hbwr.size))
          have k3 := fun (W : World) (hW : Below wr.heap.size wr W) => por_any oo bo 0 co qs W (hpo.next hW)
          have k4 := fun (W : World) (hW : Below wr.heap.size wr W) => ror_any pp bp p0 cp ps W (HPS.out.next (below_up hbwr hW hbwr.size))
          have k6 := fun (W : World) (hW : Below wr.heap.size wr W) => rstar_any p W (HP.out.i.next (below_up hbwr hW hbwr.size))
          have k8 := fun (W : World) (hW : Below wr.heap.size wr W) => ropt_any p W (HP.out.i.next (below_up hbwr hW hbwr.size))
          have k10 := fun (W : World) (hW : Below wr.heap.size wr W) => (rturned_any p.pn p.bn p.n0 p.c p.ms W (HP.out.i.next (below_up hbwr hW hbwr.size))).mono fun e w' h => turn_one h
          unfold PtM.v at k6 k8
          rw [hpq] at k1 k3
          rw [HQL.out, ← hE1, ← hR6] at k1
          rw [← HN.out, ← hE1, ← hR6] at k2
          rw [HQL.out, ← hE1, ← hR7] at k3
          rw [← HN.out, ← hE1, ← hR7] at k4
          rw [← HPN.out, ← HNP.out, ← HPC.out, ← hE3, ← hR8] at k6
          rw [← HPN.out, ← HNP.out, ← HPC.out, ← hE3, ← hR9] at k8
          rw [← HPN.out, ← HNP.out, ← HPC.out, ← hET, ← hRT] at k10
          have KO := Lib.hid kone; have K1 := Lib.hid k1; have K2 := Lib.hid k2; have K3 := Lib.hid k3; have K4 := Lib.hid k4; have K6 := Lib.hid k6; have K8 := Lib.hid k8; have K10 := Lib.hid k10
          have HE3 := Lib.hid hE3; have HR8 := Lib.hid hR8; have HR9 := Lib.hid hR9; have HET := Lib.hid hET; have HRT := Lib.hid hRT
          have HBWR := Lib.hid hbwr; have HCWR := Lib.hid c0; have HZWR := Lib.hid hzwr
          clear kone k1 k2 k3 k4 k6 k8 k10 hE1 hR6 hR7 hE3 hR8 hR9 hET hRT hpq hpo hbwr hzwr HB02 HCP KTW hz2
          go_wp2_with fail
          refine KO.out.mono ?_
          rintro e v0 ⟨g0, rfl, n0', m0, b0'⟩
          unfold PtM.v
          clear c0
          have BB0 := Lib.hid b0'
          have hz0 : wr.heap.size ≤ v0.heap.size := b0'.size
          have MM0 := Lib.hid m0; have NN0 := Lib.hid n0'
          have RX0 : Hid (∀ W, Below (v0.heap.size + 1) (v0.alloc (.cells #[.slice g0.pn g0.ms.length g0.c] 25)) W → W.cell? ⟨v0.heap.size, 0, none⟩ = some (.slice g0.pn g0.ms.length g0.c) ∧ Mine wr.heap.size g0 W) := Lib.hid (fun W hW => ⟨(hW.cell (p := ⟨v0.heap.size, 0, none⟩) (Nat.lt_succ_self _)).trans (by simp), (MM0.out.next ((Below.refl _ _).alloc (Nat.le_refl _) _)).next (by simpa using hW)⟩)
          have c0 := (BB0.out.cell (p := ⟨w.heap.size, 0, none⟩) hzwr').trans HCWR.out
          have hzk0 : w.heap.size < v0.heap.size := by omega
          clear b0' m0 n0'
          go_wp2_with fail
          refine (K1.out _ (below_up BB0.out ((Below.refl _ _).alloc (Nat.le_refl _) _) hz0)).mono ?_
          rintro e v1 ⟨g1, rfl, n1', m1, b1'⟩
          unfold PtM.v
          clear c0
          have hz1 : v0.heap.size + 1 ≤ v1.heap.size := by have := b1'.size; simpa using this
          have BB1 := Lib.hid (below_up BB0.out (((Below.refl _ _).alloc (Nat.le_refl _) _).trans (b1'.mono (by simp))) (by omega) : Below wr.heap.size wr v1)
          have BX0_1 := Lib.hid (show Below (v0.heap.size + 1) (v0.alloc (.cells #[.slice g0.pn g0.ms.length g0.c] 25)) v1 from by have h := b1'; simp only [World.size_alloc] at h; exact h)
          have MM1 := Lib.hid m1; have NN1 := Lib.hid n1'
          have RX1 : Hid (∀ W, Below (v1.heap.size + 1) (v1.alloc (.cells #[.slice g1.pn g1.ms.length g1.c] 25)) W → W.cell? ⟨v1.heap.size, 0, none⟩ = some (.slice g1.pn g1.ms.length g1.c) ∧ Mine (v0.alloc (.cells #[.slice g0.pn g0.ms.length g0.c] 25)).heap.size g1 W) := Lib.hid (fun W hW => ⟨(hW.cell (p := ⟨v1.heap.size, 0, none⟩) (Nat.lt_succ_self _)).trans (by simp), (MM1.out.next ((Below.refl _ _).alloc (Nat.le_refl _) _)).next (by simpa using hW)⟩)
          have c0 := (BB1.out.cell (p := ⟨w.heap.size, 0, none⟩) hzwr').trans HCWR.out
          have hzk1 : w.heap.size < v1.heap.size := by omega
          have c13 := (RX0.out v1 BX0_1.out).1
          have hz13_1 : v0.heap.size < v1.heap.size := by omega
          clear b1' m1 n1'
          go_wp2_with fail
          refine (K2.out _ (below_up BB1.out ((Below.refl _ _).alloc (Nat.le_refl _) _) (by have := BB1.out.size; omega))).mono ?_
          rintro e v2 ⟨g2, rfl, n2', m2, b2'⟩
          unfold PtM.v
          clear c0 c13
          have hz2 : v1.heap.size + 1 ≤ v2.heap.size := by have := b2'.size; simpa using this
          have BB2 := Lib.hid (below_up BB1.out (((Below.refl _ _).alloc (Nat.le_refl _) _).trans (b2'.mono (by simp))) (by omega) : Below wr.heap.size wr v2)
          have BX0_2 := Lib.hid (below_up BX0_1.out (((Below.refl _ _).alloc (Nat.le_refl _) _).trans (b2'.mono (by simp))) (by omega) : Below (v0.heap.size + 1) (v0.alloc (.cells #[.slice g0.pn g0.ms.length g0.c] 25)) v2)
          have BX1_2 := Lib.hid (show Below (v1.heap.size + 1) (v1.alloc (.cells #[.slice g1.pn g1.ms.length g1.c] 25)) v2 from by have h := b2'; simp only [World.size_alloc] at h; exact h)
          have MM2 := Lib.hid m2; have NN2 := Lib.hid n2'
          have RX2 : Hid (∀ W, Below (v2.heap.size + 1) (v2.alloc (.cells #[.slice g2.pn g2.ms.length g2.c] 25)) W → W.cell? ⟨v2.heap.size, 0, none⟩ = some (.slice g2.pn g2.ms.length g2.c) ∧ Mine (v1.alloc (.cells #[.slice g1.pn g1.ms.length g1.c] 25)).heap.size g2 W) := Lib.hid (fun W hW => ⟨(hW.cell (p := ⟨v2.heap.size, 0, none⟩) (Nat.lt_succ_self _)).trans (by simp), (MM2.out.next ((Below.refl _ _).alloc (Nat.le_refl _) _)).next (by simpa using hW)⟩)
          have c0 := (BB2.out.cell (p := ⟨w.heap.size, 0, none⟩) hzwr').trans HCWR.out
          have hzk2 : w.heap.size < v2.heap.size := by omega
          have c13 := (RX0.out v2 BX0_2.out).1
          have hz13_2 : v0.heap.size < v2.heap.size := by omega
          clear b2' m2 n2'
          go_wp2_with fail
          refine (K3.out _ (below_up BB2.out ((Below.refl _ _).alloc (Nat.le_refl _) _) (by have := BB2.out.size; omega))).mono ?_
          rintro e v3 ⟨g3, rfl, n3', m3, b3'⟩
          unfold PtM.v
          clear c0 c13
          have hz3 : v2.heap.size + 1 ≤ v3.heap.size := by have := b3'.size; simpa using this
          have BB3 := Lib.hid (below_up BB2.out (((Below.refl _ _).alloc (Nat.le_refl _) _).trans (b3'.mono (by simp))) (by omega) : Below wr.heap.size wr v3)
          have BX0_3 := Lib.hid (below_up BX0_2.out (((Below.refl _ _).alloc (Nat.le_refl _) _).trans (b3'.mono (by simp))) (by omega) : Below (v0.heap.size + 1) (v0.alloc (.cells #[.slice g0.pn g0.ms.length g0.c] 25)) v3)
          have BX1_3 := Lib.hid (below_up BX1_2.out (((Below.refl _ _).alloc (Nat.le_refl _) _).trans (b3'.mono (by simp))) (by omega) : Below (v1.heap.size + 1) (v1.alloc (.cells #[.slice g1.pn g1.ms.length g1.c] 25)) v3)
          have BX2_3 := Lib.hid (show Below (v2.heap.size + 1) (v2.alloc (.cells #[.slice g2.pn g2.ms.length g2.c] 25)) v3 from by have h := b3'; simp only [World.size_alloc] at h; exact h)
          have MM3 := Lib.hid m3; have NN3 := Lib.hid n3'
          have RX3 : Hid (∀ W, Below (v3.heap.size + 1) (v3.alloc (.cells #[.slice g3.pn g3.ms.length g3.c] 25)) W → W.cell? ⟨v3.heap.size, 0, none⟩ = some (.slice g3.pn g3.ms.length g3.c) ∧ Mine (v2.alloc (.cells #[.slice g2.pn g2.ms.length g2.c] 25)).heap.size g3 W) := Lib.hid (fun W hW => ⟨(hW.cell (p := ⟨v3.heap.size, 0, none⟩) (Nat.lt_succ_self _)).trans (by simp), (MM3.out.next ((Below.refl _ _).alloc (Nat.le_refl _) _)).next (by simpa using hW)⟩)
          have c0 := (BB3.out.cell (p := ⟨w.heap.size, 0, none⟩) hzwr').trans HCWR.out
          have hzk3 : w.heap.size < v3.heap.size := by omega
          have c13 := (RX0.out v3 BX0_3.out).1
          have hz13_3 : v0.heap.size < v3.heap.size := by omega
          clear b3' m3 n3'
          go_wp2_with fail
          refine (K4.out _ (below_up BB3.out ((Below.refl _ _).alloc (Nat.le_refl _) _) (by have := BB3.out.size; omega))).mono ?_
          rintro e v4 ⟨g4, rfl, n4', m4, b4'⟩
          unfold PtM.v
          clear c0 c13
          have hz4 : v3.heap.size + 1 ≤ v4.heap.size := by have := b4'.size; simpa using this
          have BB4 := Lib.hid (below_up BB3.out (((Below.refl _ _).alloc (Nat.le_refl _) _).trans (b4'.mono (by simp))) (by omega) : Below wr.heap.size wr v4)
          have BX0_4 := Lib.hid (below_up BX0_3.out (((Below.refl _ _).alloc (Nat.le_refl _) _).trans (b4'.mono (by simp))) (by omega) : Below (v0.heap.size + 1) (v0.alloc (.cells #[.slice g0.pn g0.ms.length g0.c] 25)) v4)
          have BX1_4 := Lib.hid (below_up BX1_3.out (((Below.refl _ _).alloc (Nat.le_refl _) _).trans (b4'.mono (by simp))) (by omega) : Below (v1.heap.size + 1) (v1.alloc (.cells #[.slice g1.pn g1.ms.length g1.c] 25)) v4)
          have BX2_4 := Lib.hid (below_up BX2_3.out (((Below.refl _ _).alloc (Nat.le_refl _) _).trans (b4'.mono (by simp))) (by omega) : Below (v2.heap.size + 1) (v2.alloc (.cells #[.slice g2.pn g2.ms.length g2.c] 25)) v4)
          have BX3_4 := Lib.hid (show Below (v3.heap.size + 1) (v3.alloc (.cells #[.slice g3.pn g3.ms.length g3.c] 25)) v4 from by have h := b4'; simp only [World.size_alloc] at h; exact h)
          have MM4 := Lib.hid m4; have NN4 := Lib.hid n4'
          have RX4 : Hid (∀ W, Below (v4.heap.size + 1) (v4.alloc (.cells #[.slice g4.pn g4.ms.length g4.c] 25)) W → W.cell? ⟨v4.heap.size, 0, none⟩ = some (.slice g4.pn g4.ms.length g4.c) ∧ Mine (v3.alloc (.cells #[.slice g3.pn g3.ms.length g3.c] 25)).heap.size g4 W) := Lib.hid (fun W hW => ⟨(hW.cell (p := ⟨v4.heap.size, 0, none⟩) (Nat.lt_succ_self _)).trans (by simp), (MM4.out.next ((Below.refl _ _).alloc (Nat.le_refl _) _)).next (by simpa using hW)⟩)
          have c0 := (BB4.out.cell (p := ⟨w.heap.size, 0, none⟩) hzwr').trans HCWR.out
          have hzk4 : w.heap.size < v4.heap.size := by omega
          have c13 := (RX0.out v4 BX0_4.out).1
          have hz13_4 : v0.heap.size < v4.heap.size := by omega
          clear b4' m4 n4'
          have kk5 := pstar_any g0 (v4.alloc (.cells #[.slice g4.pn g4.ms.length g4.c] 25)) ((RX0.out v4 BX0_4.out).2.next ((Below.refl _ _).alloc (Nat.le_refl _) (.cells #[.slice g4.pn g4.ms.length g4.c] 25))).i
          unfold PtM.v at kk5
          rw [NN0.out, ← HE3.out, ← HR8.out] at kk5
          have KK5 := Lib.hid kk5
          clear kk5
          go_wp2_with fail
          refine KK5.out.mono ?_
          rintro e v5 ⟨g5, rfl, n5', m5, b5'⟩
          unfold PtM.v
          clear c0 c13 KK5
          have hz5 : v4.heap.size + 1 ≤ v5.heap.size := by have := b5'.size; simpa using this
          have BB5 := Lib.hid (below_up BB4.out (((Below.refl _ _).alloc (Nat.le_refl _) _).trans (b5'.mono (by simp))) (by omega) : Below wr.heap.size wr v5)
          have BX0_5 := Lib.hid (below_up BX0_4.out (((Below.refl _ _).alloc (Nat.le_refl _) _).trans (b5'.mono (by simp))) (by omega) : Below (v0.heap.size + 1) (v0.alloc (.cells #[.slice g0.pn g0.ms.length g0.c] 25)) v5)
          have BX1_5 := Lib.hid (below_up BX1_4.out (((Below.refl _ _).alloc (Nat.le_refl _) _).trans (b5'.mono (by simp))) (by omega) : Below (v1.heap.size + 1) (v1.alloc (.cells #[.slice g1.pn g1.ms.length g1.c] 25)) v5)
          have BX2_5 := Lib.hid (below_up BX2_4.out (((Below.refl _ _).alloc (Nat.le_refl _) _).trans (b5'.mono (by simp))) (by omega) : Below (v2.heap.size + 1) (v2.alloc (.cells #[.slice g2.pn g2.ms.length g2.c] 25)) v5)
          have BX3_5 := Lib.hid (below_up BX3_4.out (((Below.refl _ _).alloc (Nat.le_refl _) _).trans (b5'.mono (by simp))) (by omega) : Below (v3.heap.size + 1) (v3.alloc (.cells #[.slice g3.pn g3.ms.length g3.c] 25)) v5)
          have BX4_5 := Lib.hid (show Below (v4.heap.size + 1) (v4.alloc (.cells #[.slice g4.pn g4.ms.length g4.c] 25)) v5 from by have h := b5'; simp only [World.size_alloc] at h; exact h)
          have MM5 := Lib.hid m5; have NN5 := Lib.hid n5'
          have RX5 : Hid (∀ W, Below (v5.heap.size + 1) (v5.alloc (.cells #[.slice g5.pn g5.ms.length g5.c] 25)) W → W.cell? ⟨v5.heap.size, 0, none⟩ = some (.slice g5.pn g5.ms.length g5.c) ∧ Mine (v4.alloc (.cells #[.slice g4.pn g4.ms.length g4.c] 25)).heap.size g5 W) := Lib.hid (fun W hW => ⟨(hW.cell (p := ⟨v5.heap.size, 0, none⟩) (Nat.lt_succ_self _)).trans (by simp), (MM5.out.next ((Below.refl _ _).alloc (Nat.le_refl _) _)).next (by simpa using hW)⟩)
          have c0 := (BB5.out.cell (p := ⟨w.heap.size, 0, none⟩) hzwr').trans HCWR.out
          have hzk5 : w.heap.size < v5.heap.size := by omega
          have c13 := (RX0.out v5 BX0_5.out).1
          have hz13_5 : v0.heap.size < v5.heap.size := by omega
          clear b5' m5 n5'
          go_wp2_with fail
          refine (K6.out _ (below_up BB5.out ((Below.refl _ _).alloc (Nat.le_refl _) _) (by have := BB5.out.size; omega))).mono ?_
          rintro e v6 ⟨g6, rfl, n6', m6, b6'⟩
          unfold PtM.v
          clear c0 c13
          have hz6 : v5.heap.size + 1 ≤ v6.heap.size := by have := b6'.size; simpa using this
          have BB6 := Lib.hid (below_up BB5.out (((Below.refl _ _).alloc (Nat.le_refl _) _).trans (b6'.mono (by simp))) (by omega) : Below wr.heap.size wr v6)
          have BX0_6 := Lib.hid (below_up BX0_5.out (((Below.refl _ _).alloc (Nat.le_refl _) _).trans (b6'.mono (by simp))) (by omega) : Below (v0.heap.size + 1) (v0.alloc (.cells #[.slice g0.pn g0.ms.length g0.c] 25)) v6)
          have BX1_6 := Lib.hid (below_up BX1_5.out (((Below.refl _ _).alloc (Nat.le_refl _) _).trans (b6'.mono (by simp))) (by omega) : Below (v1.heap.size + 1) (v1.alloc (.cells #[.slice g1.pn g1.ms.length g1.c] 25)) v6)
          have BX2_6 := Lib.hid (below_up BX2_5.out (((Below.refl _ _).alloc (Nat.le_refl _) _).trans (b6'.mono (by simp))) (by omega) : Below (v2.heap.size + 1) (v2.alloc (.cells #[.slice g2.pn g2.ms.length g2.c] 25)) v6)
          have BX3_6 := Lib.hid (below_up BX3_5.out (((Below.refl _ _).alloc (Nat.le_refl _) _).trans (b6'.mono (by simp))) (by omega) : Below (v3.heap.size + 1) (v3.alloc (.cells #[.slice g3.pn g3.ms.length g3.c] 25)) v6)
          have BX4_6 := Lib.hid (below_up BX4_5.out (((Below.refl _ _).alloc (Nat.le_refl _) _).trans (b6'.mono (by simp))) (by omega) : Below (v4.heap.size + 1) (v4.alloc (.cells #[.slice g4.pn g4.ms.length g4.c] 25)) v6)
          have BX5_6 := Lib.hid (show Below (v5.heap.size + 1) (v5.alloc (.cells #[.slice g5.pn g5.ms.length g5.c] 25)) v6 from by have h := b6'; simp only [World.size_alloc] at h; exact h)
          have MM6 := Lib.hid m6; have NN6 := Lib.hid n6'
          have RX6 : Hid (∀ W, Below (v6.heap.size + 1) (v6.alloc (.cells #[.slice g6.pn g6.ms.length g6.c] 25)) W → W.cell? ⟨v6.heap.size, 0, none⟩ = some (.slice g6.pn g6.ms.length g6.c) ∧ Mine (v5.alloc (.cells #[.slice g5.pn g5.ms.length g5.c] 25)).heap.size g6 W) := Lib.hid (fun W hW => ⟨(hW.cell (p := ⟨v6.heap.size, 0, none⟩) (Nat.lt_succ_self _)).trans (by simp), (MM6.out.next ((Below.refl _ _).alloc (Nat.le_refl _) _)).next (by simpa using hW)⟩)
          have c0 := (BB6.out.cell (p := ⟨w.heap.size, 0, none⟩) hzwr').trans HCWR.out
          have hzk6 : w.heap.size < v6.heap.size := by omega
          have c13 := (RX0.out v6 BX0_6.out).1
          have hz13_6 : v0.heap.size < v6.heap.size := by omega
          clear b6' m6 n6'
          have kk7 := popt_any g0 (v6.alloc (.cells #[.slice g6.pn g6.ms.length g6.c] 25)) ((RX0.out v6 BX0_6.out).2.next ((Below.refl _ _).alloc (Nat.le_refl _) (.cells #[.slice g6.pn g6.ms.length g6.c] 25))).i
          unfold PtM.v at kk7
          rw [NN0.out, ← HE3.out, ← HR9.out] at kk7
          have KK7 := Lib.hid kk7
          clear kk7
          go_wp2_with fail
          refine KK7.out.mono ?_
          rintro e v7 ⟨g7, rfl, n7', m7, b7'⟩
          unfold PtM.v
          clear c0 c13 KK7
          have hz7 : v6.heap.size + 1 ≤ v7.heap.size := by have := b7'.size; simpa using this
          have BB7 := Lib.hid (below_up BB6.out (((Below.refl _ _).alloc (Nat.le_refl _) _).trans (b7'.mono (by simp))) (by omega) : Below wr.heap.size wr v7)
          have BX0_7 := Lib.hid (below_up BX0_6.out (((Below.refl _ _).alloc (Nat.le_refl _) _).trans (b7'.mono (by simp))) (by omega) : Below (v0.heap.size + 1) (v0.alloc (.cells #[.slice g0.pn g0.ms.length g0.c] 25)) v7)
          have BX1_7 := Lib.hid (below_up BX1_6.out (((Below.refl _ _).alloc (Nat.le_refl _) _).trans (b7'.mono (by simp))) (by omega) : Below (v1.heap.size + 1) (v1.alloc (.cells #[.slice g1.pn g1.ms.length g1.c] 25)) v7)
          have BX2_7 := Lib.hid (below_up BX2_6.out (((Below.refl _ _).alloc (Nat.le_refl _) _).trans (b7'.mono (by simp))) (by omega) : Below (v2.heap.size + 1) (v2.alloc (.cells #[.slice g2.pn g2.ms.length g2.c] 25)) v7)
          have BX3_7 := Lib.hid (below_up BX3_6.out (((Below.refl _ _).alloc (Nat.le_refl _) _).trans (b7'.mono (by simp))) (by omega) : Below (v3.heap.size + 1) (v3.alloc (.cells #[.slice g3.pn g3.ms.length g3.c] 25)) v7)
          have BX4_7 := Lib.hid (below_up BX4_6.out (((Below.refl _ _).alloc (Nat.le_refl _) _).trans (b7'.mono (by simp))) (by omega) : Below (v4.heap.size + 1) (v4.alloc (.cells #[.slice g4.pn g4.ms.length g4.c] 25)) v7)
          have BX5_7 := Lib.hid (below_up BX5_6.out (((Below.refl _ _).alloc (Nat.le_refl _) _).trans (b7'.mono (by simp))) (by omega) : Below (v5.heap.size + 1) (v5.alloc (.cells #[.slice g5.pn g5.ms.length g5.c] 25)) v7)
          have BX6_7 := Lib.hid (show Below (v6.heap.size + 1) (v6.alloc (.cells #[.slice g6.pn g6.ms.length g6.c] 25)) v7 from by have h := b7'; simp only [World.size_alloc] at h; exact h)
          have MM7 := Lib.hid m7; have NN7 := Lib.hid n7'
          have RX7 : Hid (∀ W, Below (v7.heap.size + 1) (v7.alloc (.cells #[.slice g7.pn g7.ms.length g7.c] 25)) W → W.cell? ⟨v7.heap.size, 0, none⟩ = some (.slice g7.pn g7.ms.length g7.c) ∧ Mine (v6.alloc (.cells #[.slice g6.pn g6.ms.length g6.c] 25)).heap.size g7 W) := Lib.hid (fun W hW => ⟨(hW.cell (p := ⟨v7.heap.size, 0, none⟩) (Nat.lt_succ_self _)).trans (by simp), (MM7.out.next ((Below.refl _ _).alloc (Nat.le_refl _) _)).next (by simpa using hW)⟩)
          have c0 := (BB7.out.cell (p := ⟨w.heap.size, 0, none⟩) hzwr').trans HCWR.out
          have hzk7 : w.heap.size < v7.heap.size := by omega
          have c13 := (RX0.out v7 BX0_7.out).1
          have hz13_7 : v0.heap.size < v7.heap.size := by omega
          clear b7' m7 n7'
          go_wp2_with fail
          refine (K8.out _ (below_up BB7.out ((Below.refl _ _).alloc (Nat.le_refl _) _) (by have := BB7.out.size; omega))).mono ?_
          rintro e v8 ⟨g8, rfl, n8', m8, b8'⟩
          unfold PtM.v
          clear c0 c13
          have hz8 : v7.heap.size + 1 ≤ v8.heap.size := by have := b8'.size; simpa using this
          have BB8 := Lib.hid (below_up BB7.out (((Below.refl _ _).alloc (Nat.le_refl _) _).trans (b8'.mono (by simp))) (by omega) : Below wr.heap.size wr v8)
          have BX0_8 := Lib.hid (below_up BX0_7.out (((Below.refl _ _).alloc (Nat.le_refl _) _).trans (b8'.mono (by simp))) (by omega) : Below (v0.heap.size + 1) (v0.alloc (.cells #[.slice g0.pn g0.ms.length g0.c] 25)) v8)
          have BX1_8 := Lib.hid (below_up BX1_7.out (((Below.refl _ _).alloc (Nat.le_refl _) _).trans (b8'.mono (by simp))) (by omega) : Below (v1.heap.size + 1) (v1.alloc (.cells #[.slice g1.pn g1.ms.length g1.c] 25)) v8)
          have BX2_8 := Lib.hid (below_up BX2_7.out (((Below.refl _ _).alloc (Nat.le_refl _) _).trans (b8'.mono (by simp))) (by omega) : Below (v2.heap.size + 1) (v2.alloc (.cells #[.slice g2.pn g2.ms.length g2.c] 25)) v8)
          have BX3_8 := Lib.hid (below_up BX3_7.out (((Below.refl _ _).alloc (Nat.le_refl _) _).trans (b8'.mono (by simp))) (by omega) : Below (v3.heap.size + 1) (v3.alloc (.cells #[.slice g3.pn g3.ms.length g3.c] 25)) v8)
          have BX4_8 := Lib.hid (below_up BX4_7.out (((Below.refl _ _).alloc (Nat.le_refl _) _).trans (b8'.mono (by simp))) (by omega) : Below (v4.heap.size + 1) (v4.alloc (.cells #[.slice g4.pn g4.ms.length g4.c] 25)) v8)
          have BX5_8 := Lib.hid (below_up BX5_7.out (((Below.refl _ _).alloc (Nat.le_refl _) _).trans (b8'.mono (by simp))) (by omega) : Below (v5.heap.size + 1) (v5.alloc (.cells #[.slice g5.pn g5.ms.length g5.c] 25)) v8)
          have BX6_8 := Lib.hid (below_up BX6_7.out (((Below.refl _ _).alloc (Nat.le_refl _) _).trans (b8'.mono (by simp))) (by omega) : Below (v6.heap.size + 1) (v6.alloc (.cells #[.slice g6.pn g6.ms.length g6.c] 25)) v8)
          have BX7_8 := Lib.hid (show Below (v7.heap.size + 1) (v7.alloc (.cells #[.slice g7.pn g7.ms.length g7.c] 25)) v8 from by have h := b8'; simp only [World.size_alloc] at h; exact h)
          have MM8 := Lib.hid m8; have NN8 := Lib.hid n8'
          have RX8 : Hid (∀ W, Below (v8.heap.size + 1) (v8.alloc (.cells #[.slice g8.pn g8.ms.length g8.c] 25)) W → W.cell? ⟨v8.heap.size, 0, none⟩ = some (.slice g8.pn g8.ms.length g8.c) ∧ Mine (v7.alloc (.cells #[.slice g7.pn g7.ms.length g7.c] 25)).heap.size g8 W) := Lib.hid (fun W hW => ⟨(hW.cell (p := ⟨v8.heap.size, 0, none⟩) (Nat.lt_succ_self _)).trans (by simp), (MM8.out.next ((Below.refl _ _).alloc (Nat.le_refl _) _)).next (by simpa using hW)⟩)
          have c0 := (BB8.out.cell (p := ⟨w.heap.size, 0, none⟩) hzwr').trans HCWR.out
          have hzk8 : w.heap.size < v8.heap.size := by omega
          have c13 := (RX0.out v8 BX0_8.out).1
          have hz13_8 : v0.heap.size < v8.heap.size := by omega
          clear b8' m8 n8'
          have kk9 := (pturned_any g0.pn g0.bn g0.n0 g0.c g0.ms (v8.alloc (.cells #[.slice g8.pn g8.ms.length g8.c] 25)) ((RX0.out v8 BX0_8.out).2.next ((Below.refl _ _).alloc (Nat.le_refl _) (.cells #[.slice g8.pn g8.ms.length g8.c] 25))).i).mono fun e w' h => turn_one h
          rw [NN0.out, ← HET.out, ← HRT.out] at kk9
          have KK9 := Lib.hid kk9
          clear kk9
          go_wp2_with fail
          refine KK9.out.mono ?_
          rintro e v9 ⟨g9, rfl, n9', m9, b9'⟩
          unfold PtM.v
          clear c0 c13 KK9
          have hz9 : v8.heap.size + 1 ≤ v9.heap.size := by have := b9'.size; simpa using this
          have BB9 := Lib.hid (below_up BB8.out (((Below.refl _ _).alloc (Nat.le_refl _) _).trans (b9'.mono (by simp))) (by omega) : Below wr.heap.size wr v9)
          have BX0_9 := Lib.hid (below_up BX0_8.out (((Below.refl _ _).alloc (Nat.le_refl _) _).trans (b9'.mono (by simp))) (by omega) : Below (v0.heap.size + 1) (v0.alloc (.cells #[.slice g0.pn g0.ms.length g0.c] 25)) v9)
          have BX1_9 := Lib.hid (below_up BX1_8.out (((Below.refl _ _).alloc (Nat.le_refl _) _).trans (b9'.mono (by simp))) (by omega) : Below (v1.heap.size + 1) (v1.alloc (.cells #[.slice g1.pn g1.ms.length g1.c] 25)) v9)
          have BX2_9 := Lib.hid (below_up BX2_8.out (((Below.refl _ _).alloc (Nat.le_refl _) _).trans (b9'.mono (by simp))) (by omega) : Below (v2.heap.size + 1) (v2.alloc (.cells #[.slice g2.pn g2.ms.length g2.c] 25)) v9)
          have BX3_9 := Lib.hid (below_up BX3_8.out (((Below.refl _ _).alloc (Nat.le_refl _) _).trans (b9'.mono (by simp))) (by omega) : Below (v3.heap.size + 1) (v3.alloc (.cells #[.slice g3.pn g3.ms.length g3.c] 25)) v9)
          have BX4_9 := Lib.hid (below_up BX4_8.out (((Below.refl _ _).alloc (Nat.le_refl _) _).trans (b9'.mono (by simp))) (by omega) : Below (v4.heap.size + 1) (v4.alloc (.cells #[.slice g4.pn g4.ms.length g4.c] 25)) v9)
          have BX5_9 := Lib.hid (below_up BX5_8.out (((Below.refl _ _).alloc (Nat.le_refl _) _).trans (b9'.mono (by simp))) (by omega) : Below (v5.heap.size + 1) (v5.alloc (.cells #[.slice g5.pn g5.ms.length g5.c] 25)) v9)
          have BX6_9 := Lib.hid (below_up BX6_8.out (((Below.refl _ _).alloc (Nat.le_refl _) _).trans (b9'.mono (by simp))) (by omega) : Below (v6.heap.size + 1) (v6.alloc (.cells #[.slice g6.pn g6.ms.length g6.c] 25)) v9)
          have BX7_9 := Lib.hid (below_up BX7_8.out (((Below.refl _ _).alloc (Nat.le_refl _) _).trans (b9'.mono (by simp))) (by omega) : Below (v7.heap.size + 1) (v7.alloc (.cells #[.slice g7.pn g7.ms.length g7.c] 25)) v9)
          have BX8_9 := Lib.hid (show Below (v8.heap.size + 1) (v8.alloc (.cells #[.slice g8.pn g8.ms.length g8.c] 25)) v9 from by have h := b9'; simp only [World.size_alloc] at h; exact h)
          have MM9 := Lib.hid m9; have NN9 := Lib.hid n9'
          have RX9 : Hid (∀ W, Below (v9.heap.size + 1) (v9.alloc (.cells #[.slice g9.pn g9.ms.length g9.c] 25)) W → W.cell? ⟨v9.heap.size, 0, none⟩ = some (.slice g9.pn g9.ms.length g9.c) ∧ Mine (v8.alloc (.cells #[.slice g8.pn g8.ms.length g8.c] 25)).heap.size g9 W) := Lib.hid (fun W hW => ⟨(hW.cell (p := ⟨v9.heap.size, 0, none⟩) (Nat.lt_succ_self _)).trans (by simp), (MM9.out.next ((Below.refl _ _).alloc (Nat.le_refl _) _)).next (by simpa using hW)⟩)
          have c0 := (BB9.out.cell (p := ⟨w.heap.size, 0, none⟩) hzwr').trans HCWR.out
          have hzk9 : w.heap.size < v9.heap.size := by omega
          have c13 := (RX0.out v9 BX0_9.out).1
          have hz13_9 : v0.heap.size < v9.heap.size := by omega
          clear b9' m9 n9'
          go_wp2_with fail
          refine (K10.out _ (below_up BB9.out ((Below.refl _ _).alloc (Nat.le_refl _) _) (by have := BB9.out.size; omega))).mono ?_
          rintro e v10 ⟨g10, rfl, n10', m10, b10'⟩
          unfold PtM.v
          clear c0 c13
          have hz10 : v9.heap.size + 1 ≤ v10.heap.size := by have := b10'.size; simpa using this
          have BB10 := Lib.hid (below_up BB9.out (((Below.refl _ _).alloc (Nat.le_refl _) _).trans (b10'.mono (by simp))) (by omega) : Below wr.heap.size wr v10)
          have BX0_10 := Lib.hid (below_up BX0_9.out (((Below.refl _ _).alloc (Nat.le_refl _) _).trans (b10'.mono (by simp))) (by omega) : Below (v0.heap.size + 1) (v0.alloc (.cells #[.slice g0.pn g0.ms.length g0.c] 25)) v10)
          have BX1_10 := Lib.hid (below_up BX1_9.out (((Below.refl _ _).alloc (Nat.le_refl _) _).trans (b10'.mono (by simp))) (by omega) : Below (v1.heap.size + 1) (v1.alloc (.cells #[.slice g1.pn g1.ms.length g1.c] 25)) v10)
          have BX2_10 := Lib.hid (below_up BX2_9.out (((Below.refl _ _).alloc (Nat.le_refl _) _).trans (b10'.mono (by simp))) (by omega) : Below (v2.heap.size + 1) (v2.alloc (.cells #[.slice g2.pn g2.ms.length g2.c] 25)) v10)
          have BX3_10 := Lib.hid (below_up BX3_9.out (((Below.refl _ _).alloc (Nat.le_refl _) _).trans (b10'.mono (by simp))) (by omega) : Below (v3.heap.size + 1) (v3.alloc (.cells #[.slice g3.pn g3.ms.length g3.c] 25)) v10)
          have BX4_10 := Lib.hid (below_up BX4_9.out (((Below.refl _ _).alloc (Nat.le_refl _) _).trans (b10'.mono (by simp))) (by omega) : Below (v4.heap.size + 1) (v4.alloc (.cells #[.slice g4.pn g4.ms.length g4.c] 25)) v10)
          have BX5_10 := Lib.hid (below_up BX5_9.out (((Below.refl _ _).alloc (Nat.le_refl _) _).trans (b10'.mono (by simp))) (by omega) : Below (v5.heap.size + 1) (v5.alloc (.cells #[.slice g5.pn g5.ms.length g5.c] 25)) v10)
          have BX6_10 := Lib.hid (below_up BX6_9.out (((Below.refl _ _).alloc (Nat.le_refl _) _).trans (b10'.mono (by simp))) (by omega) : Below (v6.heap.size + 1) (v6.alloc (.cells #[.slice g6.pn g6.ms.length g6.c] 25)) v10)
          have BX7_10 := Lib.hid (below_up BX7_9.out (((Below.refl _ _).alloc (Nat.le_refl _) _).trans (b10'.mono (by simp))) (by omega) : Below (v7.heap.size + 1) (v7.alloc (.cells #[.slice g7.pn g7.ms.length g7.c] 25)) v10)
          have BX8_10 := Lib.hid (below_up BX8_9.out (((Below.refl _ _).alloc (Nat.le_refl _) _).trans (b10'.mono (by simp))) (by omega) : Below (v8.heap.size + 1) (v8.alloc (.cells #[.slice g8.pn g8.ms.length g8.c] 25)) v10)
          have BX9_10 := Lib.hid (show Below (v9.heap.size + 1) (v9.alloc (.cells #[.slice g9.pn g9.ms.length g9.c] 25)) v10 from by have h := b10'; simp only [World.size_alloc] at h; exact h)
          have MM10 := Lib.hid m10; have NN10 := Lib.hid n10'
          have RX10 : Hid (∀ W, Below (v10.heap.size + 1) (v10.alloc (.cells #[.slice g10.pn g10.ms.length g10.c] 25)) W → W.cell? ⟨v10.heap.size, 0, none⟩ = some (.slice g10.pn g10.ms.length g10.c) ∧ Mine (v9.alloc (.cells #[.slice g9.pn g9.ms.length g9.c] 25)).heap.size g10 W) := Lib.hid (fun W hW => ⟨(hW.cell (p := ⟨v10.heap.size, 0, none⟩) (Nat.lt_succ_self _)).trans (by simp), (MM10.out.next ((Below.refl _ _).alloc (Nat.le_refl _) _)).next (by simpa using hW)⟩)
          have c0 := (BB10.out.cell (p := ⟨w.heap.size, 0, none⟩) hzwr').trans HCWR.out
          have hzk10 : w.heap.size < v10.heap.size := by omega
          have c13 := (RX0.out v10 BX0_10.out).1
          have hz13_10 : v0.heap.size < v10.heap.size := by omega
          clear b10' m10 n10'
          have GX0 : Hid (∀ W, Below (v10.heap.size + 1) (v10.alloc (.cells #[.slice g10.pn g10.ms.length g10.c] 25)) W → W.cell? ⟨v0.heap.size, 0, none⟩ = some (.slice g0.pn g0.ms.length g0.c) ∧ Mine wr.heap.size g0 W) := Lib.hid (fun W hW => RX0.out W ((below_up BX0_10.out ((Below.refl _ _).alloc (Nat.le_refl _) _) (by omega)).trans (hW.mono (by omega))))
          have GX1 : Hid (∀ W, Below (v10.heap.size + 1) (v10.alloc (.cells #[.slice g10.pn g10.ms.length g10.c] 25)) W → W.cell? ⟨v1.heap.size, 0, none⟩ = some (.slice g1.pn g1.ms.length g1.c) ∧ Mine (v0.alloc (.cells #[.slice g0.pn g0.ms.length g0.c] 25)).heap.size g1 W) := Lib.hid (fun W hW => RX1.out W ((below_up BX1_10.out ((Below.refl _ _).alloc (Nat.le_refl _) _) (by omega)).trans (hW.mono (by omega))))
          have GX2 : Hid (∀ W, Below (v10.heap.size + 1) (v10.alloc (.cells #[.slice g10.pn g10.ms.length g10.c] 25)) W → W.cell? ⟨v2.heap.size, 0, none⟩ = some (.slice g2.pn g2.ms.length g2.c) ∧ Mine (v1.alloc (.cells #[.slice g1.pn g1.ms.length g1.c] 25)).heap.size g2 W) := Lib.hid (fun W hW => RX2.out W ((below_up BX2_10.out ((Below.refl _ _).alloc (Nat.le_refl _) _) (by omega)).trans (hW.mono (by omega))))
          have GX3 : Hid (∀ W, Below (v10.heap.size + 1) (v10.alloc (.cells #[.slice g10.pn g10.ms.length g10.c] 25)) W → W.cell? ⟨v3.heap.size, 0, none⟩ = some (.slice g3.pn g3.ms.length g3.c) ∧ Mine (v2.alloc (.cells #[.slice g2.pn g2.ms.length g2.c] 25)).heap.size g3 W) := Lib.hid (fun W hW => RX3.out W ((below_up BX3_10.out ((Below.refl _ _).alloc (Nat.le_refl _) _) (by omega)).trans (hW.mono (by omega))))
          have GX4 : Hid (∀ W, Below (v10.heap.size + 1) (v10.alloc (.cells #[.slice g10.pn g10.ms.length g10.c] 25)) W → W.cell? ⟨v4.heap.size, 0, none⟩ = some (.slice g4.pn g4.ms.length g4.c) ∧ Mine (v3.alloc (.cells #[.slice g3.pn g3.ms.length g3.c] 25)).heap.size g4 W) := Lib.hid (fun W hW => RX4.out W ((below_up BX4_10.out ((Below.refl _ _).alloc (Nat.le_refl _) _) (by omega)).trans (hW.mono (by omega))))
          have GX5 : Hid (∀ W, Below (v10.heap.size + 1) (v10.alloc (.cells #[.slice g10.pn g10.ms.length g10.c] 25)) W → W.cell? ⟨v5.heap.size, 0, none⟩ = some (.slice g5.pn g5.ms.length g5.c) ∧ Mine (v4.alloc (.cells #[.slice g4.pn g4.ms.length g4.c] 25)).heap.size g5 W) := Lib.hid (fun W hW => RX5.out W ((below_up BX5_10.out ((Below.refl _ _).alloc (Nat.le_refl _) _) (by omega)).trans (hW.mono (by omega))))
          have GX6 : Hid (∀ W, Below (v10.heap.size + 1) (v10.alloc (.cells #[.slice g10.pn g10.ms.length g10.c] 25)) W → W.cell? ⟨v6.heap.size, 0, none⟩ = some (.slice g6.pn g6.ms.length g6.c) ∧ Mine (v5.alloc (.cells #[.slice g5.pn g5.ms.length g5.c] 25)).heap.size g6 W) := Lib.hid (fun W hW => RX6.out W ((below_up BX6_10.out ((Below.refl _ _).alloc (Nat.le_refl _) _) (by omega)).trans (hW.mono (by omega))))
          have GX7 : Hid (∀ W, Below (v10.heap.size + 1) (v10.alloc (.cells #[.slice g10.pn g10.ms.length g10.c] 25)) W → W.cell? ⟨v7.heap.size, 0, none⟩ = some (.slice g7.pn g7.ms.length g7.c) ∧ Mine (v6.alloc (.cells #[.slice g6.pn g6.ms.length g6.c] 25)).heap.size g7 W) := Lib.hid (fun W hW => RX7.out W ((below_up BX7_10.out ((Below.refl _ _).alloc (Nat.le_refl _) _) (by omega)).trans (hW.mono (by omega))))
          have GX8 : Hid (∀ W, Below (v10.heap.size + 1) (v10.alloc (.cells #[.slice g10.pn g10.ms.length g10.c] 25)) W → W.cell? ⟨v8.heap.size, 0, none⟩ = some (.slice g8.pn g8.ms.length g8.c) ∧ Mine (v7.alloc (.cells #[.slice g7.pn g7.ms.length g7.c] 25)).heap.size g8 W) := Lib.hid (fun W hW => RX8.out W ((below_up BX8_10.out ((Below.refl _ _).alloc (Nat.le_refl _) _) (by omega)).trans (hW.mono (by omega))))
          have GX9 : Hid (∀ W, Below (v10.heap.size + 1) (v10.alloc (.cells #[.slice g10.pn g10.ms.length g10.c] 25)) W → W.cell? ⟨v9.heap.size, 0, none⟩ = some (.slice g9.pn g9.ms.length g9.c) ∧ Mine (v8.alloc (.cells #[.slice g8.pn g8.ms.length g8.c] 25)).heap.size g9 W) := Lib.hid (fun W hW => RX9.out W ((below_up BX9_10.out ((Below.refl _ _).alloc (Nat.le_refl _) _) (by omega)).trans (hW.mono (by omega))))
          have GX10 := RX10
          have GB : Hid (∀ W, Below (v10.heap.size + 1) (v10.alloc (.cells #[.slice g10.pn g10.ms.length g10.c] 25)) W → Below wr.heap.size wr W) := Lib.hid (fun W hW => (below_up BB10.out ((Below.refl _ _).alloc (Nat.le_refl _) _) (by have := BB10.out.size; omega)).trans (hW.mono (by have := BB10.out.size; omega)))
          have c1 := (RX1.out v10 BX1_10.out).1
          have hzz1 : v1.heap.size < v10.heap.size := by omega
          have c2 := (RX2.out v10 BX2_10.out).1
          have hzz2 : v2.heap.size < v10.heap.size := by omega
          have c3 := (RX3.out v10 BX3_10.out).1
          have hzz3 : v3.heap.size < v10.heap.size := by omega
          have c4 := (RX4.out v10 BX4_10.out).1
          have hzz4 : v4.heap.size < v10.heap.size := by omega
          have c5 := (RX5.out v10 BX5_10.out).1
          have hzz5 : v5.heap.size < v10.heap.size := by omega
          have c6 := (RX6.out v10 BX6_10.out).1
          have hzz6 : v6.heap.size < v10.heap.size := by omega
          have c7 := (RX7.out v10 BX7_10.out).1
          have hzz7 : v7.heap.size < v10.heap.size := by omega
          have c8 := (RX8.out v10 BX8_10.out).1
          have hzz8 : v8.heap.size < v10.heap.size := by omega
          have c9 := (RX9.out v10 BX9_10.out).1
          have hzz9 : v9.heap.size < v10.heap.size := by omega
          clear c0 c13 KO K1 K2 K3 K4 K6 K8 K10
          go_wp2_with fail
          refine (rlike_m g1 g2 _ (GX1.out _ (Below.refl _ _)).2.i (GX2.out _ (Below.refl _ _)).2.i (NN1.out.trans NN2.out.symm)).mono ?_
          rintro e y1 ⟨rfl, hy⟩
          have HY1 : Hid (Below (v10.heap.size + 1) (v10.alloc (.cells #[.slice g10.pn g10.ms.length g10.c] 25)) y1) := Lib.hid (by simp only [World.size_alloc] at hy; exact hy)
          clear hy c1 hzz1 c2 hzz2 c3 hzz3 c4 hzz4 c5 hzz5 c6 hzz6 c7 hzz7 c8 hzz8 c9 hzz9
          have d3 := (GX3.out y1 HY1.out).1
          have d4 := (GX4.out y1 HY1.out).1
          go_wp2_with fail
          refine (rlike_m g3 g4 _ (GX3.out _ HY1.out).2.i (GX4.out _ HY1.out).2.i (NN3.out.trans NN4.out.symm)).mono ?_
          rintro e y2 ⟨rfl, hy⟩
          have HY2 := Lib.hid (below_up HY1.out hy (by have := HY1.out.size; simp only [World.size_alloc] at this; omega))
          clear hy d3 d4
          have d5 := (GX5.out y2 HY2.out).1
          have d6 := (GX6.out y2 HY2.out).1
          go_wp2_with fail
          refine (rlike_m g5 g6 _ (GX5.out _ HY2.out).2.i (GX6.out _ HY2.out).2.i (NN5.out.trans NN6.out.symm)).mono ?_
          rintro e y3 ⟨rfl, hy⟩
          have HY3 := Lib.hid (below_up HY2.out hy (by have := HY2.out.size; simp only [World.size_alloc] at this; omega))
          clear hy d5 d6
          have d7 := (GX7.out y3 HY3.out).1
          have d8 := (GX8.out y3 HY3.out).1
          go_wp2_with fail
          refine (rlike_m g7 g8 _ (GX7.out _ HY3.out).2.i (GX8.out _ HY3.out).2.i (NN7.out.trans NN8.out.symm)).mono ?_
          rintro e y4 ⟨rfl, hy⟩
          have HY4 := Lib.hid (below_up HY3.out hy (by have := HY3.out.size; simp only [World.size_alloc] at this; omega))
          clear hy d7 d8
          have d9 := (GX9.out y4 HY4.out).1
          have d10 := (GX10.out y4 HY4.out).1
          go_wp2_with fail
          refine (rlike_m g9 g10 _ (GX9.out _ HY4.out).2.i (GX10.out _ HY4.out).2.i (NN9.out.trans NN10.out.symm)).mono ?_
          rintro e y5 ⟨rfl, hy⟩
          have HY5 := Lib.hid (below_up HY4.out hy (by have := HY4.out.size; simp only [World.size_alloc] at this; omega))
          clear hy d9 d10
          go_wp2_with fail
          refine (pempty_any y5).mono ?_
          rintro e ae ⟨qe, rfl, nqe, mqe, bqe⟩
          unfold PtM.v
          have HAe := Lib.hid (below_up HY5.out bqe (by have := HY5.out.size; simp only [World.size_alloc] at this; omega))
          have NAe := Lib.hid nqe; have MAe := Lib.hid mqe
          clear nqe mqe bqe
          go_wp2_with fail
          refine (rempty_any ae).mono ?_
          rintro e be ⟨pe, rfl, nqe, mqe, bqe⟩
          unfold PtM.v
          have HBe := Lib.hid (below_up HAe.out bqe (by have := HAe.out.size; simp only [World.size_alloc] at this; omega))
          have LKe := Lib.hid (rlike_m qe pe be ((MAe.out.next bqe).i) mqe.i (NAe.out.trans nqe.symm))
          clear nqe mqe bqe
          go_wp2_with fail
          refine LKe.out.mono ?_
          rintro e le ⟨rfl, hy⟩
          have HLe := Lib.hid (below_up HBe.out hy (by have := HBe.out.size; simp only [World.size_alloc] at this; omega))
          clear hy LKe NAe MAe
          go_wp2_with fail
          refine (prune_any r HR.out le).mono ?_
          rintro e ar ⟨qr, rfl, nqr, mqr, bqr⟩
          unfold PtM.v
          have HAr := Lib.hid (below_up HLe.out bqr (by have := HLe.out.size; simp only [World.size_alloc] at this; omega))
          have NAr := Lib.hid nqr; have MAr := Lib.hid mqr
          clear nqr mqr bqr
          go_wp2_with fail
          refine (rrune_any r HR.out ar).mono ?_
          rintro e br ⟨pr, rfl, nqr, mqr, bqr⟩
          unfold PtM.v
          have HBr := Lib.hid (below_up HAr.out bqr (by have := HAr.out.size; simp only [World.size_alloc] at this; omega))
          have LKr := Lib.hid (rlike_m qr pr br ((MAr.out.next bqr).i) mqr.i (NAr.out.trans nqr.symm))
          clear nqr mqr bqr
          go_wp2_with fail
          refine LKr.out.mono ?_
          rintro e lr ⟨rfl, hy⟩
          have HLr := Lib.hid (below_up HBr.out hy (by have := HBr.out.size; simp only [World.size_alloc] at this; omega))
          clear hy LKr NAr MAr
          go_wp2_with fail
          refine (pclass_any u1 u2 HU1.out HU2.out lr).mono ?_
          rintro e ak ⟨qk, rfl, nqk, mqk, bqk⟩
          unfold PtM.v
          have HAk := Lib.hid (below_up HLr.out bqk (by have := HLr.out.size; simp only [World.size_alloc] at this; omega))
          have NAk := Lib.hid nqk; have MAk := Lib.hid mqk
          clear nqk mqk bqk
          go_wp2_with fail
          refine (rclass_any u1 u2 HU1.out HU2.out ak).mono ?_
          rintro e bk9 ⟨pkk, rfl, nqk, mqk, bqk⟩
          unfold PtM.v
          have HBk := Lib.hid (below_up HAk.out bqk (by have := HAk.out.size; simp only [World.size_alloc] at this; omega))
          have LKk := Lib.hid (rlike_m qk pkk bk9 ((MAk.out.next bqk).i) mqk.i (NAk.out.trans nqk.symm))
          clear nqk mqk bqk
          go_wp2_with fail
          refine LKk.out.mono ?_
          rintro e lk ⟨rfl, hy⟩
          have HLk := Lib.hid (below_up HBk.out hy (by have := HBk.out.size; simp only [World.size_alloc] at this; omega))
          clear hy LKk NAk MAk
          go_wp2_with fail
          have GT : Hid (∀ W, Below (v10.heap.size + 1) (v10.alloc (.cells #[.slice g10.pn g10.ms.length g10.c] 25)) W → Below (v0.heap.size + 1) (v0.alloc (.cells #[.slice g0.pn g0.ms.length g0.c] 25)) W) := Lib.hid (fun W hW => (below_up BX0_10.out ((Below.refl _ _).alloc (Nat.le_refl _) _) (by omega)).trans (hW.mono (by omega)))
          have GB0 : Hid (∀ W, Below (v0.heap.size + 1) (v0.alloc (.cells #[.slice g0.pn g0.ms.length g0.c] 25)) W → Below wr.heap.size wr W) := Lib.hid (fun W hW => (below_up BB0.out ((Below.refl _ _).alloc (Nat.le_refl _) _) hz0).trans (hW.mono (by omega)))
          go_loopw [34, 35] (fun sv iv wx => sv = .bool true ∧ ∃ i : Nat, iv = .int .i64 i ∧ i ≤ no ∧ Hid (Below (v10.heap.size + 1) (v10.alloc (.cells #[.slice g10.pn g10.ms.length g10.c] 25)) wx)) (fun _ iv _ => no - (intOf iv).toNat)
          case atStart => exact ⟨rfl, 0, rfl, by omega, HLk⟩
          case round =>
            clear HLk
            obtain ⟨rfl, i, rfl, hi, HY⟩ := hrel
            by_cases hin : i < no
            · have hil : i < ps.length := by rw [← HN.out]; exact hin
              have hiq : i < qs.length := by rw [HQL.out]; exact hin
              have hbx := GB.out wr HY.out
              have hPw := HPS.out.next (below_up HBWR.out hbx HBWR.out.size)
              obtain ⟨hnq, bq, hpo⟩ := (HO.out.next hbx).psin (by rw [HQL.out]; omega)
              obtain rfl := hPw.at_ (by omega)
              obtain rfl := hpo.at_ (by omega)
              obtain ⟨p1, hp1⟩ : ∃ q, q = ps.getD i default := ⟨_, rfl⟩
              obtain ⟨q1, hq1⟩ : ∃ q, q = qs.getD i default := ⟨_, rfl⟩
              have a0 := hPw.cells i hil
              have a1 := hpo.cells i hiq
              have ip := (hPw.pats i hil).i
              have iq := (hpo.pats i hiq).i
              have hnn := HQN.out i hin
              rw [Nat.zero_add] at a1
              rw [← hp1] at a0 ip hnn
              rw [← hq1] at a1 iq hnn
              have c0 := (hbx.cell (p := ⟨w.heap.size, 0, none⟩) hzwr').trans HCWR.out
              have c13 := (GX0.out wr HY.out).1
              have i0 := (GX0.out wr HY.out).2.i
              have ipp := HP.out.i.next (below_up HBWR.out hbx HBWR.out.size)
              obtain ⟨S1, hS1⟩ : ∃ S, S = sameB (nds p.ms) (nds p1.ms) := ⟨_, rfl⟩
              obtain ⟨S2, hS2⟩ : ∃ S, S = treeB (nds p1.ms) := ⟨_, rfl⟩
              have s1 := fun (W : World) (hW : Below wr.heap.size wr W) => (psame_any g0.pn q1.pn g0.bn g0.n0 g0.c q1.bn q1.n0 q1.c g0.ms q1.ms W (i0.next hW) (iq.next hW)).mono fun e w' (h : e = _ ∧ Below W.heap.size W w') => (⟨h.1, hW.trans (h.2.mono hW.size)⟩ : e = _ ∧ Below wr.heap.size wr w')
              have s2 := fun (W : World) (hW : Below wr.heap.size wr W) => (rsame_any p.pn p1.pn p.bn p.n0 p.c p1.bn p1.n0 p1.c p.ms p1.ms W (ipp.next hW) (ip.next hW)).mono fun e w' (h : e = _ ∧ Below W.heap.size W w') => (⟨h.1, hW.trans (h.2.mono hW.size)⟩ : e = _ ∧ Below wr.heap.size wr w')
              have s3 := fun (W : World) (hW : Below wr.heap.size wr W) => (psame_any q1.pn q1.pn q1.bn q1.n0 q1.c q1.bn q1.n0 q1.c q1.ms q1.ms W (iq.next hW) (iq.next hW)).mono fun e w' (h : e = _ ∧ Below W.heap.size W w') => (⟨h.1, hW.trans (h.2.mono hW.size)⟩ : e = _ ∧ Below wr.heap.size wr w')
              have s4 := fun (W : World) (hW : Below wr.heap.size wr W) => (rtree_any p1.pn p1.bn p1.n0 p1.c p1.ms W (ip.next hW) S2 (by rw [hS2]; exact treeB_iff _)).mono fun e w' (h : e = _ ∧ Below W.heap.size W w') => (⟨h.1, hW.trans (h.2.mono hW.size)⟩ : e = Ending.returned (.bool S2) ∧ Below wr.heap.size wr w')
              simp only [NN0.out, hnn, sameB_self] at s1 s2 s3
              rw [← hS1] at s1
              rw [← hS1, ← HPN.out, ← HNP.out, ← HPC.out] at s2
              rw [← hS2] at s3
              obtain ⟨z1, hz1q⟩ : ∃ z, z = q1.ms.length := ⟨_, rfl⟩
              obtain ⟨z2, hz2q⟩ : ∃ z, z = p1.ms.length := ⟨_, rfl⟩
              rw [← hz1q] at s1 s3 a1
              rw [← hz2q] at s2 s4 a0
              have HS1 := Lib.hid s1; have HS2 := Lib.hid s2; have HS3 := Lib.hid s3; have HS4 := Lib.hid s4
              have hx0 : w.heap.size < wr.heap.size := blk_of_cell c0
              have hx13 : v0.heap.size < wr.heap.size := blk_of_cell c13
              have hxa := blk_of_cell a0
              have hxq := blk_of_cell a1
              have HJ := Lib.hid (show i + 1 ≤ no from hin)
              clear hnq s1 s2 s3 s4 hS1 hS2 hz1q hz2q hp1 hq1 hnn ip iq i0 ipp hPw hpo hbx
              have zi1 : (i : Int) < (no : Int) := by omega
              have zi2 : (0 : Int) ≤ (i : Int) := by omega
              clear HX HP HR HU1 HU2 HNP HPN HPC HW1 HBA HC0 HZ1 hzi HN3 HL2 HNP2 HT HBW HQL HQN HN hzwr' HE3 HR8 HR9 HET HRT HBWR HCWR HZWR BB0 hz0 MM0 NN0 RX0 hzk0 hz1 BB1 BX0_1 MM1 NN1 RX1 hzk1 hz13_1 hz2 BB2 BX0_2 BX1_2 MM2 NN2 RX2 hzk2 hz13_2 hz3 BB3 BX0_3 BX1_3 BX2_3 MM3 NN3 RX3 hzk3 hz13_3 hz4 BB4 BX0_4 BX1_4 BX2_4 BX3_4 MM4 NN4 RX4 hzk4 hz13_4 hz5 BB5 BX0_5 BX1_5 BX2_5 BX3_5 BX4_5 MM5 NN5 RX5 hzk5 hz13_5 hz6 BB6 BX0_6 BX1_6 BX2_6 BX3_6 BX4_6 BX5_6 MM6 NN6 RX6 hzk6 hz13_6 hz7 BB7 BX0_7 BX1_7 BX2_7 BX3_7 BX4_7 BX5_7 BX6_7 MM7 NN7 RX7 hzk7 hz13_7 hz8 BB8 BX0_8 BX1_8 BX2_8 BX3_8 BX4_8 BX5_8 BX6_8 BX7_8 MM8 NN8 RX8 hzk8 hz13_8 hz9 BB9 BX0_9 BX1_9 BX2_9 BX3_9 BX4_9 BX5_9 BX6_9 BX7_9 BX8_9 MM9 NN9 RX9 hzk9 hz13_9 hz10 BB10 BX0_10 BX1_10 BX2_10 BX3_10 BX4_10 BX5_10 BX6_10 BX7_10 BX8_10 BX9_10 MM10 NN10 RX10 hzk10 hz13_10 GX0 GX1 GX2 GX3 GX4 GX5 GX6 GX7 GX8 GX9 GX10 GB HY1 HY2 HY3 HY4 HY5 HAe HBe HLe HAr HBr HLr HAk HBk GT GB0 hil hiq HPS HO
              go_upto_block 3 with fail
              go_cut [34] from 186 to 218 (fun s34 wc => s34 = .bool true ∧ Hid (Below wr.heap.size wr wc))
              case first =>
                go_wp2_with fail
                go_region_held3 (fun w' => Below wr.heap.size wr w' ∧ w'.cell? ⟨w.heap.size, 0, none⟩ = some (.slice pn np pc) ∧ w'.cell? ⟨v0.heap.size, 0, none⟩ = some (.slice g0.pn g0.ms.length g0.c) ∧ w'.cell? ⟨bp, p0 + i, none⟩ = some (.slice p1.pn z2 p1.c) ∧ w'.cell? ⟨bq, i, none⟩ = some (.slice q1.pn z1 q1.c)) (first | exact ⟨(Below.refl _ _).drew, c0, c13, a0, a1⟩ | exact ⟨hacc, (hacc.cell (p := ⟨w.heap.size, 0, none⟩) hx0).trans c0, (hacc.cell (p := ⟨v0.heap.size, 0, none⟩) hx13).trans c13, (hacc.cell (p := ⟨bp, p0 + i, none⟩) hxa).trans a0, (hacc.cell (p := ⟨bq, i, none⟩) hxq).trans a1⟩) (first
                  | (go_at_call 23; (with_reducible refine (HS1.out _ ?_).mono ?_); (exact (by first | exact (Below.refl _ _).drew | exact hacc | exact hacc.drew)); rintro _ wa ⟨rfl, hacc⟩)
                  | (go_at_call 24; (with_reducible refine (HS2.out _ ?_).mono ?_); (exact (by first | exact (Below.refl _ _).drew | exact hacc | exact hacc.drew)); rintro _ wb ⟨rfl, hacc⟩)
                  | (go_at_call 23; (with_reducible refine (HS3.out _ ?_).mono ?_); (exact (by first | exact (Below.refl _ _).drew | exact hacc | exact hacc.drew)); rintro _ wc ⟨rfl, hacc⟩)
                  | (go_at_call 25; (with_reducible refine (HS4.out _ ?_).mono ?_); (exact (by first | exact (Below.refl _ _).drew | exact hacc | exact hacc.drew)); rintro _ wd ⟨rfl, hacc⟩))
                all_goals
                  (try go_wp2_with fail)
                  go_meet
                  first | exact ⟨rfl, hacc⟩ | exact ⟨rfl, hacc.drew⟩ | exact ⟨by simp, hacc⟩
              case rest =>
                obtain ⟨rfl, hacc⟩ := hcut
                have HYN := Lib.hid (below_up HY.out hacc.out (by have := HY.out.size; simp only [World.size_alloc] at this; omega))
                go_wp2_with fail
                go_roundw
                case rel => exact ⟨rfl, i + 1, by go_num, HJ.out, HYN⟩
                case measure => have := HJ.out; simp [intOf]; omega
            · obtain rfl : no = i := by omega
              have ty := GT.out wr HY.out
              have TY0 := Lib.hid ty
              have d1 := (GX1.out wr HY.out).1
              have M1 := Lib.hid (GX1.out wr HY.out).2
              have P3_0 := Lib.hid (GX3.out wr HY.out).1
              have M3_0 := Lib.hid (GX3.out wr HY.out).2
              have P5_0 := Lib.hid (GX5.out wr HY.out).1
              have M5_0 := Lib.hid (GX5.out wr HY.out).2
              have P7_0 := Lib.hid (GX7.out wr HY.out).1
              have M7_0 := Lib.hid (GX7.out wr HY.out).2
              have P9_0 := Lib.hid (GX9.out wr HY.out).1
              have M9_0 := Lib.hid (GX9.out wr HY.out).2
              have M1_0 := M1
              clear ty
              go_wp2_with fail
              refine (spoil_p _ g1 _ M1_0.out).mono ?_
              rintro e s1 ⟨rfl, hb⟩
              have bk : ∀ k, Bk g1 k → v0.heap.size + 1 ≤ k ∧ k < v1.heap.size := fun k hk => by have := MM1.out.bk k hk; simp only [World.size_alloc] at this; exact this
              have P3_1 := Lib.hid (hb.cell (p := ⟨v3.heap.size, 0, none⟩) P3_0.out (fun e => by have := (bk v3.heap.size e).2; omega))
              have M3_1 := Lib.hid (M3_0.out.keep hb (fun k h1 h2 e => by have := (bk k e).2; simp only [World.size_alloc] at h1; omega))
              have P5_1 := Lib.hid (hb.cell (p := ⟨v5.heap.size, 0, none⟩) P5_0.out (fun e => by have := (bk v5.heap.size e).2; omega))
              have M5_1 := Lib.hid (M5_0.out.keep hb (fun k h1 h2 e => by have := (bk k e).2; simp only [World.size_alloc] at h1; omega))
              have P7_1 := Lib.hid (hb.cell (p := ⟨v7.heap.size, 0, none⟩) P7_0.out (fun e => by have := (bk v7.heap.size e).2; omega))
              have M7_1 := Lib.hid (M7_0.out.keep hb (fun k h1 h2 e => by have := (bk k e).2; simp only [World.size_alloc] at h1; omega))
              have P9_1 := Lib.hid (hb.cell (p := ⟨v9.heap.size, 0, none⟩) P9_0.out (fun e => by have := (bk v9.heap.size e).2; omega))
              have M9_1 := Lib.hid (M9_0.out.keep hb (fun k h1 h2 e => by have := (bk k e).2; simp only [World.size_alloc] at h1; omega))
              have TY1 := Lib.hid (TY0.out.trans (hb.below (by have := TY0.out.size; simp only [World.size_alloc] at this; omega) (fun k hk e => by have := (bk k e).1; omega)))
              clear hb bk d1
              have d3 := P3_1.out
              go_wp2_with fail
              refine (spoil_p _ g3 _ M3_1.out).mono ?_
              rintro e s2 ⟨rfl, hb⟩
              have bk : ∀ k, Bk g3 k → v2.heap.size + 1 ≤ k ∧ k < v3.heap.size := fun k hk => by have := MM3.out.bk k hk; simp only [World.size_alloc] at this; exact this
              have P5_2 := Lib.hid (hb.cell (p := ⟨v5.heap.size, 0, none⟩) P5_1.out (fun e => by have := (bk v5.heap.size e).2; omega))
              have M5_2 := Lib.hid (M5_1.out.keep hb (fun k h1 h2 e => by have := (bk k e).2; simp only [World.size_alloc] at h1; omega))
              have P7_2 := Lib.hid (hb.cell (p := ⟨v7.heap.size, 0, none⟩) P7_1.out (fun e => by have := (bk v7.heap.size e).2; omega))
              have M7_2 := Lib.hid (M7_1.out.keep hb (fun k h1 h2 e => by have := (bk k e).2; simp only [World.size_alloc] at h1; omega))
              have P9_2 := Lib.hid (hb.cell (p := ⟨v9.heap.size, 0, none⟩) P9_1.out (fun e => by have := (bk v9.heap.size e).2; omega))
              have M9_2 := Lib.hid (M9_1.out.keep hb (fun k h1 h2 e => by have := (bk k e).2; simp only [World.size_alloc] at h1; omega))
              have TY2 := Lib.hid (TY1.out.trans (hb.below (by have := TY1.out.size; simp only [World.size_alloc] at this; omega) (fun k hk e => by have := (bk k e).1; omega)))
              clear hb bk d3
              have d5 := P5_2.out
              go_wp2_with fail
              refine (spoil_p _ g5 _ M5_2.out).mono ?_
              rintro e s3 ⟨rfl, hb⟩
              have bk : ∀ k, Bk g5 k → v4.heap.size + 1 ≤ k ∧ k < v5.heap.size := fun k hk => by have := MM5.out.bk k hk; simp only [World.size_alloc] at this; exact this
              have P7_3 := Lib.hid (hb.cell (p := ⟨v7.heap.size, 0, none⟩) P7_2.out (fun e => by have := (bk v7.heap.size e).2; omega))
              have M7_3 := Lib.hid (M7_2.out.keep hb (fun k h1 h2 e => by have := (bk k e).2; simp only [World.size_alloc] at h1; omega))
              have P9_3 := Lib.hid (hb.cell (p := ⟨v9.heap.size, 0, none⟩) P9_2.out (fun e => by have := (bk v9.heap.size e).2; omega))
              have M9_3 := Lib.hid (M9_2.out.keep hb (fun k h1 h2 e => by have := (bk k e).2; simp only [World.size_alloc] at h1; omega))
              have TY3 := Lib.hid (TY2.out.trans (hb.below (by have := TY2.out.size; simp only [World.size_alloc] at this; omega) (fun k hk e => by have := (bk k e).1; omega)))
              clear hb bk d5
              have d7 := P7_3.out
              go_wp2_with fail
              refine (spoil_p _ g7 _ M7_3.out).mono ?_
              rintro e s4 ⟨rfl, hb⟩
              have bk : ∀ k, Bk g7 k → v6.heap.size + 1 ≤ k ∧ k < v7.heap.size := fun k hk => by have := MM7.out.bk k hk; simp only [World.size_alloc] at this; exact this
              have P9_4 := Lib.hid (hb.cell (p := ⟨v9.heap.size, 0, none⟩) P9_3.out (fun e => by have := (bk v9.heap.size e).2; omega))
              have M9_4 := Lib.hid (M9_3.out.keep hb (fun k h1 h2 e => by have := (bk k e).2; simp only [World.size_alloc] at h1; omega))
              have TY4 := Lib.hid (TY3.out.trans (hb.below (by have := TY3.out.size; simp only [World.size_alloc] at this; omega) (fun k hk e => by have := (bk k e).1; omega)))
              clear hb bk d7
              have d9 := P9_4.out
              go_wp2_with fail
              refine (spoil_p _ g9 _ M9_4.out).mono ?_
              rintro e s5 ⟨rfl, hb⟩
              have bk : ∀ k, Bk g9 k → v8.heap.size + 1 ≤ k ∧ k < v9.heap.size := fun k hk => by have := MM9.out.bk k hk; simp only [World.size_alloc] at this; exact this
              have TY5 := Lib.hid (TY4.out.trans (hb.below (by have := TY4.out.size; simp only [World.size_alloc] at this; omega) (fun k hk e => by have := (bk k e).1; omega)))
              clear hb bk d9
              go_wp2_with fail
              go_loopw [34, 36] (fun sv iv wx => sv = .bool true ∧ ∃ i : Nat, iv = .int .i64 i ∧ i ≤ no ∧ Hid (Below (v0.heap.size + 1) (v0.alloc (.cells #[.slice g0.pn g0.ms.length g0.c] 25)) wx)) (fun _ iv _ => no - (intOf iv).toNat)
              case atStart => exact ⟨rfl, 0, rfl, by omega, TY5⟩
              case round =>
                clear TY0 TY1 TY2 TY3 TY4 TY5 HY
                obtain ⟨rfl, i, rfl, hi, HY⟩ := hrel
                have hbx := GB0.out wr HY.out
                by_cases hin : i < no
                · have hil : i < ps.length := by rw [← HN.out]; exact hin
                  have hiq : i < qs.length := by rw [HQL.out]; exact hin
                  have hPw := HPS.out.next (below_up HBWR.out hbx HBWR.out.size)
                  obtain ⟨hnq, bq, hpo⟩ := (HO.out.next hbx).psin (by rw [HQL.out]; omega)
                  obtain rfl := hPw.at_ (by omega)
                  obtain rfl := hpo.at_ (by omega)
                  obtain ⟨p1, hp1⟩ : ∃ q, q = ps.getD i default := ⟨_, rfl⟩
                  obtain ⟨q1, hq1⟩ : ∃ q, q = qs.getD i default := ⟨_, rfl⟩
                  have a0 := hPw.cells i hil
                  have a1 := hpo.cells i hiq
                  have ip := (hPw.pats i hil).i
                  have iq := (hpo.pats i hiq).i
                  have hnn := HQN.out i hin
                  rw [Nat.zero_add] at a1
                  rw [← hp1] at a0 ip hnn
                  rw [← hq1] at a1 iq hnn
                  have s1 := fun (W : World) (hW : Below wr.heap.size wr W) => (rlike_m q1 p1 W (iq.next hW) (ip.next hW) hnn).mono fun e w' (h : e = _ ∧ Below W.heap.size W w') => (⟨h.1, hW.trans (h.2.mono hW.size)⟩ : e = _ ∧ Below wr.heap.size wr w')
                  obtain ⟨z1, hz1q⟩ : ∃ z, z = q1.ms.length := ⟨_, rfl⟩
                  obtain ⟨z2, hz2q⟩ : ∃ z, z = p1.ms.length := ⟨_, rfl⟩
                  rw [← hz1q] at s1 a1
                  rw [← hz2q] at s1 a0
                  have HS1 := Lib.hid s1
                  have hxa := blk_of_cell a0
                  have hxq := blk_of_cell a1
                  have HJ := Lib.hid (show i + 1 ≤ no from hin)
                  clear hnq s1 hz1q hz2q hp1 hq1 hnn ip iq hPw hpo hbx
                  have zi1 : (i : Int) < (no : Int) := by omega
                  have zi2 : (0 : Int) ≤ (i : Int) := by omega
                  clear HX HP HR HU1 HU2 HNP HPN HPC HW1 HBA HC0 HZ1 hzi HN3 HL2 HNP2 HT HBW HQL HQN HN hzwr' HE3 HR8 HR9 HET HRT HBWR HCWR HZWR BB0 hz0 MM0 NN0 RX0 hzk0 hz1 BB1 BX0_1 MM1 NN1 RX1 hzk1 hz13_1 hz2 BB2 BX0_2 BX1_2 MM2 NN2 RX2 hzk2 hz13_2 hz3 BB3 BX0_3 BX1_3 BX2_3 MM3 NN3 RX3 hzk3 hz13_3 hz4 BB4 BX0_4 BX1_4 BX2_4 BX3_4 MM4 NN4 RX4 hzk4 hz13_4 hz5 BB5 BX0_5 BX1_5 BX2_5 BX3_5 BX4_5 MM5 NN5 RX5 hzk5 hz13_5 hz6 BB6 BX0_6 BX1_6 BX2_6 BX3_6 BX4_6 BX5_6 MM6 NN6 RX6 hzk6 hz13_6 hz7 BB7 BX0_7 BX1_7 BX2_7 BX3_7 BX4_7 BX5_7 BX6_7 MM7 NN7 RX7 hzk7 hz13_7 hz8 BB8 BX0_8 BX1_8 BX2_8 BX3_8 BX4_8 BX5_8 BX6_8 BX7_8 MM8 NN8 RX8 hzk8 hz13_8 hz9 BB9 BX0_9 BX1_9 BX2_9 BX3_9 BX4_9 BX5_9 BX6_9 BX7_9 BX8_9 MM9 NN9 RX9 hzk9 hz13_9 hz10 BB10 BX0_10 BX1_10 BX2_10 BX3_10 BX4_10 BX5_10 BX6_10 BX7_10 BX8_10 BX9_10 MM10 NN10 RX10 hzk10 hz13_10 GX0 GX1 GX2 GX3 GX4 GX5 GX6 GX7 GX8 GX9 GX10 GB HY1 HY2 HY3 HY4 HY5 HAe HBe HLe HAr HBr HLr HAk HBk GT GB0 M1 P3_0 M3_0 P5_0 M5_0 P7_0 M7_0 P9_0 M9_0 M1_0 P3_1 M3_1 P5_1 M5_1 P7_1 M7_1 P9_1 M9_1 P5_2 M5_2 P7_2 M7_2 P9_2 M9_2 P7_3 M7_3 P9_3 M9_3 P9_4 M9_4 hil hiq HPS HO
                  go_upto_block 5 with fail
                  go_cut [34] from 235 to 246 (fun s34 wc => s34 = .bool true ∧ Hid (Below wr.heap.size wr wc))
                  case first =>
                    go_wp2_with fail
                    go_region_held3 (fun w' => Below wr.heap.size wr w' ∧ w'.cell? ⟨bp, p0 + i, none⟩ = some (.slice p1.pn z2 p1.c) ∧ w'.cell? ⟨bq, i, none⟩ = some (.slice q1.pn z1 q1.c)) (first | exact ⟨(Below.refl _ _).drew, a0, a1⟩ | exact ⟨hacc, (hacc.cell (p := ⟨bp, p0 + i, none⟩) hxa).trans a0, (hacc.cell (p := ⟨bq, i, none⟩) hxq).trans a1⟩) (first
                      | (go_at_call 16; (with_reducible refine (HS1.out _ ?_).mono ?_); (exact (by first | exact (Below.refl _ _).drew | exact hacc | exact hacc.drew)); rintro _ wa ⟨rfl, hacc⟩))
                    all_goals
                      (try go_wp2_with fail)
                      go_meet
                      first | exact ⟨rfl, hacc⟩ | exact ⟨rfl, hacc.drew⟩ | exact ⟨by simp, hacc⟩
                  case rest =>
                    obtain ⟨rfl, hacc⟩ := hcut
                    have HYN := Lib.hid (below_up HY.out hacc.out (by have := HY.out.size; simp only [World.size_alloc] at this; omega))
                    go_wp2_with fail
                    go_roundw
                    case rel => exact ⟨rfl, i + 1, by go_num, HJ.out, HYN⟩
                    case measure => have := HJ.out; simp [intOf]; omega
                · obtain rfl : no = i := by omega
                  have c0 := (hbx.cell (p := ⟨w.heap.size, 0, none⟩) hzwr').trans HCWR.out
                  have c13 := (RX0.out wr HY.out).1
                  have s1 := rlike_m g0 p wr (RX0.out wr HY.out).2.i (HP.out.i.next (below_up HBWR.out hbx HBWR.out.size)) NN0.out
                  rw [← HPN.out, ← HNP.out, ← HPC.out] at s1
                  have HS1 := Lib.hid s1
                  have HWW := Lib.hid (below_up HBWR.out hbx HBWR.out.size)
                  clear s1 hbx
                  go_wp2_with fail
                  refine HS1.out.mono ?_
                  rintro e wz ⟨rfl, hb⟩
                  have HF := Lib.hid (below_up HWW.out hb HWW.out.size)
                  clear hb
                  go_wp2_with fail
                  go_ret
                  exact ⟨rfl, HF.out⟩

end Go.Proofs.Ytnlojgomildajaa
