/-
  WALKS: pattern.Same.
  WALKS: cognatelaw04.letters; what the program answers of it, closed.
  WALKS: cognatelaw04.alive.
  WALKS: cognatelaw04.wrong; what PatternNames asks, closed.
-/
import Derived.Deep.CutRange
import Derived.Test.YtmechinlaladiaaDoorZBA
import Derived.Test.YtmechinlaladiaaDoorZAZ
import Derived.Test.YtmechinlaladiaaDoorZAI
import Derived.Test.YtmechinlaladiaaDoorZAV
import Derived.Test.YtmechinlaladiaaDoorZAX
import Derived.Test.YtmechinlaladiaaDoorZAY
namespace Go.Proofs.YtmechinlaladiaaDoor
open Go.RowKit Go.Lib
set_option linter.unusedVariables false
theorem Below.undrew {n : Nat} {w w' : World} (h : RowKit.Below n w.drew w') : RowKit.Below n w w' := ⟨h.os, h.tape, h.output, h.size, h.block⟩
/-- numbered, of a whole tree. -/
theorem numbered_t (pn : Option Addr) (bn n0 c : Nat) (ms : List NdM) (w W : World) (h : NsIn pn bn n0 ms w) (hT : IsTree (nds ms)) (hW : Below w.heap.size w W) :
    Calls Tryd.prog 17 #[.slice pn ms.length c, .int .i64 0] W fun e w' => ∃ q : PtM, e = .returned (.agg #[.slice q.pn q.ms.length q.c]) ∧ nds q.ms = normN (nds ms) ∧ Mine W.heap.size q w' ∧ Below W.heap.size W w' ∧ Below w.heap.size w w' := by
  refine (numbered_any pn bn n0 c ms W (h.next hW) 0 (tr0 (nds ms)) (tr0_at hT) (by rw [tr0_sz hT]; have := hT.most; omega)).mono ?_
  rintro e w' ⟨q, rfl, h1, h2, h3⟩
  exact ⟨q, rfl, h1, h2, h3, hW.trans (h3.mono hW.size)⟩
set_option maxHeartbeats 8000000 in
set_option maxRecDepth 100000 in
theorem psame_any (pa pb : Option Addr) (ba a0 ca bb b0 cb : Nat) (a b : List NdM) (w : World) (hA : NsIn pa ba a0 a w) (hB : NsIn pb bb b0 b w) :
    Calls Tryd.prog 11 #[.agg #[.slice pa a.length ca], .agg #[.slice pb b.length cb]] w fun e w' => e = .returned (.bool (sameB (nds a) (nds b))) ∧ Below w.heap.size w w' := by
  obtain ⟨n, hn⟩ : ∃ n, n = a.length := ⟨_, rfl⟩
  obtain ⟨m, hm⟩ : ∃ n, n = b.length := ⟨_, rfl⟩
  obtain ⟨B1, hB1⟩ : ∃ B, B = treeB (nds a) := ⟨_, rfl⟩
  obtain ⟨B2, hB2⟩ : ∃ B, B = treeB (nds b) := ⟨_, rfl⟩
  obtain ⟨S, hS⟩ : ∃ B, B = sameB (nds a) (nds b) := ⟨_, rfl⟩
  have k1 := fun (W : World) (hW : Below w.heap.size w W) => isTree_any pa ba a0 ca a W (hA.next hW) B1 (by rw [hB1]; exact treeB_iff _)
  have k2 := fun (W : World) (hW : Below w.heap.size w W) => isTree_any pb bb b0 cb b W (hB.next hW) B2 (by rw [hB2]; exact treeB_iff _)
  have k3 := fun (W0 W : World) (hT : IsTree (nds a)) (h0 : Below w.heap.size w W0) (hW : Below W0.heap.size W0 W) => numbered_t pa ba a0 ca a W0 W (hA.next h0) hT hW
  have k4 := fun (W0 W : World) (hT : IsTree (nds b)) (h0 : Below w.heap.size w W0) (hW : Below W0.heap.size W0 W) => numbered_t pb bb b0 cb b W0 W (hB.next h0) hT hW
  have hSf1 : B1 = false → S = false := fun h => by
    cases hs : S with
    | false => rfl
    | true => rw [hS] at hs; have := ((sameB_iff _ _).1 hs).1; rw [← treeB_iff, ← hB1, h] at this; cases this
  have hSf2 : B2 = false → S = false := fun h => by
    cases hs : S with
    | false => rfl
    | true => rw [hS] at hs; have := ((sameB_iff _ _).1 hs).2.1; rw [← treeB_iff, ← hB2, h] at this; cases this
  rw [← hS]
  rw [← hn] at k1 k3 ⊢
  rw [← hm] at k2 k4 ⊢
  have K1 := Lib.hid k1; have K2 := Lib.hid k2; have K3 := Lib.hid k3; have K4 := Lib.hid k4; have HS := Lib.hid hS; have HB1 := Lib.hid hB1; have HB2 := Lib.hid hB2; have S1 := Lib.hid hSf1; have S2 := Lib.hid hSf2
  have HA0 := Lib.hid (show Below w.heap.size w ((w.alloc (.cells #[.slice pa n ca] 24)).alloc (.cells #[.slice pb m cb] 24)) from ((Below.refl _ _).alloc (Nat.le_refl _) _).alloc (by simp) _)
  clear k1 k2 k3 k4 hS hB1 hB2 hSf1 hSf2 hn hm hA hB
  go_enter Tryd.func11, Tryd.ntmps11
  go_wp2_with fail
  refine (K1.out _ HA0.out).mono ?_
  rintro e w2 ⟨rfl, hb2⟩
  have c0 : w2.cell? ⟨w.heap.size, 0, none⟩ = some (.slice pa n ca) := (hb2.cell (p := ⟨w.heap.size, 0, none⟩) (by simp; omega)).trans (by simp)
  have c1 : w2.cell? ⟨w.heap.size + 1, 0, none⟩ = some (.slice pb m cb) := (hb2.cell (p := ⟨w.heap.size + 1, 0, none⟩) (by simp)).trans (by simp)
  have hz2 : w.heap.size + 2 ≤ w2.heap.size := by have := hb2.size; simp at this; omega
  have HB2' := Lib.hid (HA0.out.trans (hb2.mono HA0.out.size))
  have HC0 := Lib.hid c0; have HC1 := Lib.hid c1
  clear hb2 K1
  cases B1 with
  | false =>
    obtain rfl : S = false := S1.out rfl
    go_wp2_with fail
    go_ret
    exact ⟨rfl, HB2'.out⟩
  | true =>
    have HT1 := Lib.hid ((treeB_iff _).1 HB1.out.symm)
    go_wp2_with fail
    refine (K2.out _ HB2'.out).mono ?_
    rintro e w3 ⟨rfl, hb3⟩
    have c3 := (hb3.cell (p := ⟨w.heap.size, 0, none⟩) (by show w.heap.size < _; omega)).trans HC0.out
    have c4 := (hb3.cell (p := ⟨w.heap.size + 1, 0, none⟩) (by show w.heap.size + 1 < _; omega)).trans HC1.out
    have hz3 : w.heap.size + 1 < w3.heap.size := by have := hb3.size; omega
    have hz3' : w.heap.size < w3.heap.size := by omega
    have HB3 := Lib.hid (HB2'.out.trans (hb3.mono HB2'.out.size))
    clear hb3 K2 c0 c1 HC0 HC1 hz2
    cases B2 with
    | false =>
      obtain rfl : S = false := S2.out rfl
      go_wp2_with fail
      go_ret
      exact ⟨rfl, HB3.out⟩
    | true =>
      have HT2 := Lib.hid ((treeB_iff _).1 HB2.out.symm)
      have N1 := Lib.hid (fun W => K3.out w3 W HT1.out HB3.out)
      have N2 := Lib.hid (fun W => K4.out w3 W HT2.out HB3.out)
      have E3 := Lib.hid (fun (W : World) (qp qq : PtM) (h1 : NsIn qp.pn qp.bn qp.n0 qp.ms W) (h2 : NsIn qq.pn qq.bn qq.n0 qq.ms W) (e1 : nds qp.ms = normN (nds a)) (e2 : nds qq.ms = normN (nds b)) (hW : Below w3.heap.size w3 W) =>
        (equalF_any qp.pn qq.pn qp.bn qp.n0 qp.c qq.bn qq.n0 qq.c qp.ms qq.ms W h1 h2 S (by rw [HS.out, sameB_iff, e1, e2]; exact ⟨fun h => h.2.2, fun h => ⟨HT1.out, HT2.out, h⟩⟩)).mono fun e w' (h : e = _ ∧ Below W.heap.size W w') => (⟨h.1, hW.trans (h.2.mono hW.size)⟩ : e = Ending.returned (.bool S) ∧ Below w3.heap.size w3 w'))
      clear K3 K4
      have hfd : ∀ (W : World) (o : Option Addr) (n c : Nat), (Instr.field 24 (.agg #[.slice o n c]) 0).run Tryd.prog W = .ok (.slice o n c) W := fun W o n c => by kernel_rfl
      go_upto_region 3 with fail
      go_cut [4] from 13 (fun s4 wc => s4 = .bool S ∧ Hid (Below w3.heap.size w3 wc))
      case first =>
        go_region_held3 (fun w' => Below w3.heap.size w3 w' ∧ w'.cell? ⟨w.heap.size, 0, none⟩ = some (.slice pa n ca) ∧ w'.cell? ⟨w.heap.size + 1, 0, none⟩ = some (.slice pb m cb)) (first | exact ⟨(Below.refl _ _).drew, c3, c4⟩ | exact ⟨hacc, (hacc.cell (p := ⟨w.heap.size, 0, none⟩) hz3').trans c3, (hacc.cell (p := ⟨w.heap.size + 1, 0, none⟩) hz3).trans c4⟩) (first
          | (go_at_call 17; (with_reducible refine (N1.out _ ?_).mono ?_); (exact (by first | exact (Below.refl _ _).drew | exact hacc | exact hacc.drew)); rintro _ wp ⟨qp, rfl, hnp, hmp, hbp, hacc⟩)
          | (go_at_call 17; (with_reducible refine (N2.out _ ?_).mono ?_); (exact (by first | exact (Below.refl _ _).drew | exact hacc | exact hacc.drew)); rintro _ wq ⟨qq, rfl, hnq, hmq, hbq, hacc⟩; have hmp2 := (by first | exact hmp.next hbq | exact hmp.next (Below.undrew hbq) : Mine _ qp wq))
          | (go_at_call 23; refine (E3.out _ qp qq (by first | exact hmp2.i | exact hmp2.i.next (Below.refl _ _).drew) (by first | exact hmq.i | exact hmq.i.next (Below.refl _ _).drew) hnp hnq (by first | exact hacc | exact hacc.drew)).mono ?_; rintro _ we ⟨rfl, hacc⟩))
        all_goals
          (try go_wp2_with fail)
          go_meet
          exact ⟨rfl, hacc⟩
      case rest =>
        obtain ⟨rfl, HBc⟩ := hcut
        have HF := Lib.hid (HB3.out.trans (HBc.out.mono HB3.out.size))
        go_wp2_with fail
        go_ret
        exact ⟨rfl, HF.out⟩
end Go.Proofs.YtmechinlaladiaaDoor
namespace Go.Proofs.YtmechinlaladiaaDoor
open Go.RowKit Go.Lib
set_option linter.unusedVariables false

set_option maxHeartbeats 400000 in
set_option maxRecDepth 100000 in
theorem letters_any (w : World) :
    Calls Tryd.prog 5 #[] w fun e w' => ∃ b1 b2, e = .returned (smp b1 b2).v ∧ (smp b1 b2).In w' ∧ Below w.heap.size w w' := by
  go_enter Tryd.func5, Tryd.ntmps5
  go_wp2_with fail
  refine bodyPost_ret (v := .agg #[.slice (some ⟨w.heap.size + 1, 0, none⟩) 3 3, .slice (some ⟨w.heap.size + 1 + 1, 0, none⟩) 5 5]) (by simp [results, Tryd.results5, go_sem, *]) rfl ?_
  refine ⟨w.heap.size + 1, w.heap.size + 1 + 1, rfl, smp_in _ _ _ ?_ ?_, (((Below.refl _ _).alloc (Nat.le_refl _) _).alloc (by simp) _).alloc (by simp; omega) _⟩
  · intro j hj
    rw [World.cell?_alloc_past _ _ _ (by simp), World.cell?_alloc_at _ _ _ _ (by simp)]
    rfl
  · intro j hj
    rw [World.cell?_alloc_at _ _ _ _ (by simp)]
    rfl
def ns5 : List Nd := [⟨6, 0, 0, 0, [1, 2, 4]⟩, ⟨3, 0, 1, 0, []⟩, ⟨8, 0, 0, 0, [3]⟩, ⟨2, 97, 0, 0, []⟩, ⟨5, 0, 0, 0, []⟩]
def s5 : ByteArray := ⟨#[40, 91, 43, 118, 111, 105, 99, 101, 100, 93, 97, 42, 35, 41]⟩
theorem rd5 (b1 b2 : Nat) : rdR (smp b1 b2) s5 = (ns5, 0, 0) := by kernel_rfl
def t5 : Tr := .nd 6 0 0 0 (.cons (.nd 3 0 1 0 .nil) (.cons (.nd 8 0 0 0 (.cons (.nd 2 97 0 0 .nil) .nil)) (.cons (.nd 5 0 0 0 .nil) .nil)))
theorem t5_flat : t5.flat 0 = ns5 := by kernel_rfl
theorem t5_txt (b1 b2 : Nat) : t5.txt (smp b1 b2) = s5.data.toList := by kernel_rfl
theorem t5_of (b1 b2 : Nat) : ns5.all (isOfB (smp b1 b2)) = true := by kernel_rfl
theorem smp_aac0 (b1 b2 : Nat) : aacR (smp b1 b2) 0 0 = 0 := smp_aac b1 b2 0 0 (by decide)
theorem flat_tree {t : Tr} {ns : List Nd} (h : t.flat 0 = ns) (hok : t.ok) (hs : t.sz ≤ 256) : treeB ns = true ∧ tr0 ns = t := by
  subst h
  exact ⟨(treeB_iff _).2 (Tr.flat_is hok hs), tr0_flat hok hs⟩
theorem txt_of {A : Al} {t : Tr} {ns : List Nd} (h : t.flat 0 = ns) (hok : t.ok) (hs : t.sz ≤ 256) (h0 : aacR A 0 0 = 0) (ha : ns.all (isOfB A) = true) (l : List UInt8) (hl : t.txt A = l) (hl2 : l.length ≤ 65536) : txtR A ns = (l, 0) := by
  obtain ⟨h1, h2⟩ := flat_tree h hok hs
  have hc : chkP A ns = 0 := by unfold chkP; rw [if_neg (by simpa using h0), h1, if_neg (by simp), if_pos ha]
  unfold txtR
  rw [if_neg (by simpa using hc), h2, hl, if_neg (by omega)]
theorem t5_ok : t5.ok := by simp [t5, Tr.ok, Ts.oks, nodeB, Ts.len]
theorem tx5 (b1 b2 : Nat) : txtR (smp b1 b2) ns5 = (s5.data.toList, 0) := txt_of t5_flat t5_ok (by decide) (smp_aac0 b1 b2) (t5_of b1 b2) _ (t5_txt b1 b2) (by decide)
def ta : Tr := .nd 2 97 0 0 .nil
def tb : Tr := .nd 2 98 0 0 .nil
def nsab : List Nd := [⟨6, 0, 0, 0, [1, 2]⟩, ⟨2, 97, 0, 0, []⟩, ⟨2, 98, 0, 0, []⟩]
def nsba : List Nd := [⟨6, 0, 0, 0, [1, 2]⟩, ⟨2, 98, 0, 0, []⟩, ⟨2, 97, 0, 0, []⟩]
def tab : Tr := .nd 6 0 0 0 (.cons ta (.cons tb .nil))
theorem ta_ok : ta.ok := by simp [ta, Tr.ok, Ts.oks, nodeB, Ts.len]
theorem tb_ok : tb.ok := by simp [tb, Tr.ok, Ts.oks, nodeB, Ts.len]
theorem tab_ok : tab.ok := by simp [tab, ta, tb, Tr.ok, Ts.oks, nodeB, Ts.len]
theorem la_is : treeB (leafN 2 97 0 0) = true ∧ tr0 (leafN 2 97 0 0) = ta := flat_tree (by rfl) ta_ok (by decide)
theorem lb_is : treeB (leafN 2 98 0 0) = true ∧ tr0 (leafN 2 98 0 0) = tb := flat_tree (by rfl) tb_ok (by decide)
theorem ab_is : treeB nsab = true ∧ tr0 nsab = tab := flat_tree (by rfl) tab_ok (by decide)
theorem ab_turn : turnN nsab = nsba := by unfold turnN; rw [ab_is.2]; kernel_rfl
end Go.Proofs.YtmechinlaladiaaDoor
namespace Go.Proofs.YtmechinlaladiaaDoor
open Go.RowKit Go.Lib
set_option linter.unusedVariables false

theorem mine_node {lo : Nat} {q : PtM} {w : World} (h : Mine lo q w) {ns : List Nd} (hn : nds q.ms = ns) (h0 : 0 < ns.length) : q.v = .agg #[.slice (some ⟨q.bn, 0, none⟩) ns.length q.c] ∧ ∀ (j : Nat) (n : Nd), ns[j]? = some n →
    w.cell? ⟨q.bn, j * 5, none⟩ = some (.int .u8 n.k) ∧ w.cell? ⟨q.bn, j * 5 + 1, none⟩ = some (.int .i32 n.r) ∧ w.cell? ⟨q.bn, j * 5 + 2, none⟩ = some (.int .u32 n.p) ∧ w.cell? ⟨q.bn, j * 5 + 3, none⟩ = some (.int .u32 n.m) ∧
    ∃ pk kb k0 kc, w.cell? ⟨q.bn, j * 5 + 4, none⟩ = some (.slice pk n.ks.length kc) ∧ (0 < n.ks.length → pk = some ⟨kb, k0, none⟩) ∧ ∀ i, i < n.ks.length → w.cell? ⟨kb, k0 + i, none⟩ = some (.int .i64 (n.ks.getD i 0)) := by
  subst hn
  rw [nds_length] at h0
  have hb := h.i.at_ h0
  have hn0 : q.n0 = 0 := by
    have ho := h.own.own.2
    rcases ho with ⟨e, _⟩ | ⟨g, cap, cur, e, _⟩
    · injection e with e1 e2 e3; omega
    · rw [hb] at e
      injection e with e1
      injection e1 with e1
      injection e1
  refine ⟨by unfold PtM.v; rw [hb, hn0, nds_length], fun j n hj => ?_⟩
  have hjl : j < q.ms.length := by have := (List.getElem?_eq_some_iff.1 hj).1; rwa [nds_length] at this
  have e : (q.ms.getD j default).nd = n := by
    have h1 := nds_at q.ms j hjl
    rw [List.getElem?_eq_getElem (by rw [nds_length]; exact hjl)] at hj
    rw [← h1]
    exact Option.some.inj hj
  obtain ⟨c0, c1, c2, c3, c4⟩ := h.i.node j hjl
  have hk := h.i.kids j hjl
  rw [hn0, Nat.zero_add] at c0 c1 c2 c3 c4
  rw [e] at c0 c1 c2 c3 c4 hk
  exact ⟨c0, c1, c2, c3, _, _, _, _, c4, hk.at_, hk.cells⟩
theorem bx (w W : World) (v : Value) (hb : Below (w.alloc (.cells #[v] 24)).heap.size (w.alloc (.cells #[v] 24)) W) : W.cell? ⟨w.heap.size, 0, none⟩ = some v := (hb.cell (p := ⟨w.heap.size, 0, none⟩) (by simp)).trans (by simp)
theorem u_p5 (b1 b2 : Nat) (w : World) (h : (smp b1 b2).In w) (hT : Tabs w) : Calls Tryd.prog 4 #[.agg #[.slice (some ⟨b1, 0, none⟩) 3 3, .slice (some ⟨b2, 0, none⟩) 5 5], .string ⟨#[40, 91, 43, 118, 111, 105, 99, 101, 100, 93, 97, 42, 35, 41]⟩] w
    fun e w' => ∃ q : PtM, e = .returned (.tuple #[.agg #[.slice (some ⟨q.bn, 0, none⟩) 5 q.c], .int .i64 0, .int .i64 0]) ∧ nds q.ms = ns5 ∧ Mine w.heap.size q w' ∧ Below w.heap.size w w' := by
  have hc := pparse_any (smp b1 b2) s5 w h hT
  rw [rd5] at hc
  refine hc.mono ?_
  rintro e w' ⟨q, he, hn, hm, hb⟩
  have hv := (mine_node hm hn (by decide)).1
  rw [hv] at he
  exact ⟨q, he, hn, hm, hb⟩
theorem u_t5 (b1 b2 : Nat) (q : PtM) (w : World) (h : (smp b1 b2).In w) {lo : Nat} (hm : Mine lo q w) (hn : nds q.ms = ns5) : Calls Tryd.prog 20 #[.agg #[.slice (some ⟨b1, 0, none⟩) 3 3, .slice (some ⟨b2, 0, none⟩) 5 5], .agg #[.slice (some ⟨q.bn, 0, none⟩) 5 q.c]] w
    fun e w' => e = .returned (.tuple #[.string ⟨#[40, 91, 43, 118, 111, 105, 99, 101, 100, 93, 97, 42, 35, 41]⟩, .int .i64 0]) ∧ Below w.heap.size w w' := by
  have hc := ptext_any (smp b1 b2) q w h hm.i
  rw [hn, tx5, (mine_node hm hn (by decide)).1] at hc
  exact hc
theorem u_seq (qa qb : PtM) (w : World) {la lb : Nat} (ha : Mine la qa w) (hna : nds qa.ms = leafN 2 97 0 0) (hb : Mine lb qb w) (hnb : nds qb.ms = leafN 2 98 0 0) : Calls Tryd.prog 7 #[.slice (some ⟨w.heap.size, 0, none⟩) 2 2] (w.alloc (.cells #[.slice (some ⟨qa.bn, 0, none⟩) 1 qa.c, .slice (some ⟨qb.bn, 0, none⟩) 1 qb.c] 24))
    fun e w' => ∃ q : PtM, e = .returned (.tuple #[.agg #[.slice (some ⟨q.bn, 0, none⟩) 3 q.c], .int .i64 0]) ∧ nds q.ms = nsab ∧ Mine w.heap.size q w' ∧ Below w.heap.size w w' := by
  have hB : Below w.heap.size w (w.alloc (.cells #[.slice (some ⟨qa.bn, 0, none⟩) 1 qa.c, .slice (some ⟨qb.bn, 0, none⟩) 1 qb.c] 24)) := (Below.refl _ _).alloc (Nat.le_refl _) _
  have hva := (mine_node ha hna (by decide)).1
  have hvb := (mine_node hb hnb (by decide)).1
  unfold PtM.v at hva hvb
  have hps : PsIn (some ⟨w.heap.size, 0, none⟩) w.heap.size 0 [qa, qb] (w.alloc (.cells #[.slice (some ⟨qa.bn, 0, none⟩) 1 qa.c, .slice (some ⟨qb.bn, 0, none⟩) 1 qb.c] 24)) := by
    have e1 : Value.slice qa.pn qa.ms.length qa.c = .slice (some ⟨qa.bn, 0, none⟩) 1 qa.c := by simpa [leafN] using hva
    have e2 : Value.slice qb.pn qb.ms.length qb.c = .slice (some ⟨qb.bn, 0, none⟩) 1 qb.c := by simpa [leafN] using hvb
    refine ⟨fun _ => rfl, fun j hj => ?_, fun j hj => ?_, by simp⟩
    · match j, hj with
      | 0, _ => show World.cell? _ ⟨w.heap.size, 0, none⟩ = some (Value.slice qa.pn qa.ms.length qa.c); rw [e1]; simp
      | 1, _ => show World.cell? _ ⟨w.heap.size, 0 + 1, none⟩ = some (Value.slice qb.pn qb.ms.length qb.c); rw [e2]; simp
    · match j, hj with
      | 0, _ => exact ⟨ha.i.next hB⟩
      | 1, _ => exact ⟨hb.i.next hB⟩
  have hc := pseq_any (some ⟨w.heap.size, 0, none⟩) w.heap.size 0 2 [qa, qb] _ hps
  have hpn : pN [qa, qb] = [leafN 2 97 0 0, leafN 2 98 0 0] := by unfold pN; simp [hna, hnb]
  have hE : madeE [leafN 2 97 0 0, leafN 2 98 0 0] = 0 := by
    unfold madeE
    rw [if_neg (by decide), if_pos (by rw [List.all_cons, List.all_cons, la_is.1, lb_is.1]; rfl), if_neg (by decide)]
  have hN : madeR 6 [leafN 2 97 0 0, leafN 2 98 0 0] = nsab := by
    unfold madeR
    rw [if_pos hE]
    unfold madeN
    rw [List.map_cons, List.map_cons, la_is.2, lb_is.2]
    rfl
  rw [hpn, hE, hN] at hc
  refine hc.mono ?_
  rintro e w' ⟨q, he, hn, hm, hb'⟩
  rw [(mine_node hm hn (by decide)).1] at he
  exact ⟨q, he, hn, hm.lower hB.size, hB.trans (hb'.mono hB.size)⟩
theorem u_turn (q : PtM) (w : World) {lo : Nat} (hm : Mine lo q w) (hn : nds q.ms = nsab) : Calls Tryd.prog 21 #[.agg #[.slice (some ⟨q.bn, 0, none⟩) 3 q.c]] w
    fun e w' => ∃ r : PtM, e = .returned (.tuple #[.agg #[.slice (some ⟨r.bn, 0, none⟩) 3 r.c], .int .i64 0]) ∧ nds r.ms = nsba ∧ Mine w.heap.size r w' ∧ Below w.heap.size w w' := by
  have hc := pturned_any q.pn q.bn q.n0 q.c q.ms w hm.i
  have hv := (mine_node hm hn (by decide)).1
  unfold PtM.v at hv
  rw [hv, hn] at hc
  refine hc.mono ?_
  rintro e w' ⟨h1, _⟩
  obtain ⟨r, he, hr, hmr, hb⟩ := h1 ab_is.1
  rw [ab_turn] at hr
  rw [(mine_node hmr hr (by decide)).1] at he
  exact ⟨r, he, hr, hmr, hb⟩
theorem u_rune (r : Int) (hr : -2147483648 ≤ r ∧ r ≤ 2147483647) (w : World) : Calls Tryd.prog 8 #[.int .i32 r] w fun e w' => ∃ q : PtM, e = .returned (.agg #[.slice (some ⟨q.bn, 0, none⟩) 1 q.c]) ∧ nds q.ms = leafN 2 r 0 0 ∧ Mine w.heap.size q w' ∧ Below w.heap.size w w' := by
  refine (prune_any r hr w).mono ?_
  rintro e w' ⟨q, he, hn, hm, hb⟩
  rw [(mine_node hm hn (by simp [leafN])).1] at he
  exact ⟨q, he, hn, hm, hb⟩
theorem undrew {n : Nat} {w w' : World} (h : Below n w.drew w') : Below n w w' := ⟨h.os, h.tape, h.output, h.size, h.block⟩
set_option maxHeartbeats 4000000 in
set_option maxRecDepth 100000 in
theorem alive4_any (w : World) (hT : Tabs w) : Calls Tryd.prog 10 #[] w fun e w' => e = .returned (.bool true) ∧ Below w.heap.size w w' := by
  have HT := Lib.hid hT
  clear hT
  go_enter Tryd.func10, Tryd.ntmps10
  go_wp2_with fail
  (with_reducible refine (letters_any _).mono ?_)
  rintro e W1 ⟨b1, b2, rfl, hA1, hb1⟩
  rw [smp_v]
  have HA1 := Lib.hid hA1; have HB1 := Lib.hid hb1
  clear hA1 hb1
  go_wp2_with fail
  (with_reducible refine (u_p5 b1 b2 _ HA1.out (HT.out.next HB1.out)).mono ?_)
  rintro e W2 ⟨q, rfl, hq, hm, hb2⟩
  have HQ := Lib.hid hq; have HM := Lib.hid hm; have HB2 := Lib.hid (HB1.out.trans (hb2.mono HB1.out.size))
  clear hq hm hb2 HA1 HB1
  go_wp2_with fail
  go_upto_region 2 with fail
  obtain ⟨W3, hW3⟩ : ∃ W3, W3 = W2.alloc (.cells #[.slice (some ⟨q.bn, 0, none⟩) 5 q.c] 24) := ⟨_, rfl⟩
  have hB3 : Below W2.heap.size W2 W3 := by rw [hW3]; exact (Below.refl _ _).alloc (Nat.le_refl _) _
  have cB : W3.cell? ⟨W2.heap.size, 0, none⟩ = some (.slice (some ⟨q.bn, 0, none⟩) 5 q.c) := by rw [hW3]; simp
  rw [← hW3]
  have HM3 := Lib.hid (HM.out.next hB3); have HB3 := Lib.hid (HB2.out.trans (hB3.mono HB2.out.size))
  have hlB := blk_of_cell cB
  have CB := Lib.hid cB; have HLB := Lib.hid hlB
  clear hW3 hB3 HM HB2
  go_cut [4, 5] from 16 to 22 (fun s4 s5 wc => s4 = .string ⟨#[40, 91, 43, 118, 111, 105, 99, 101, 100, 93, 97, 42, 35, 41]⟩ ∧ s5 = .int .i64 0 ∧ Hid (Below W3.heap.size W3 wc))
  case first =>
    go_region_with (first | (go_at_call 5; (with_reducible refine (letters_any _).mono ?_); rintro _ wq ⟨c1, c2, rfl, hAq, hbq⟩; have HAQ := Lib.hid hAq; have HBQ := Lib.hid (show Below W3.heap.size W3 wq from undrew hbq); have cBq : wq.cell? ⟨W2.heap.size, 0, none⟩ = some (.slice (some ⟨q.bn, 0, none⟩) 5 q.c) := ((undrew hbq).cell (p := ⟨W2.heap.size, 0, none⟩) HLB.out).trans CB.out; clear hAq hbq; rw [smp_v]) | (go_at_call 20; (with_reducible refine (u_t5 c1 c2 q _ HAQ.out (HM3.out.next HBQ.out) HQ.out).mono ?_); rintro _ wr ⟨rfl, hbr⟩; have HBR := Lib.hid (HBQ.out.trans (hbr.mono HBQ.out.size)); clear hbr))
    all_goals
      go_wp2_with fail
      go_meet
      exact ⟨rfl, rfl, HBR⟩
  case rest =>
    obtain ⟨rfl, rfl, HBc⟩ := hcut
    have hcB := (HBc.out.cell (p := ⟨W2.heap.size, 0, none⟩) HLB.out).trans CB.out
    have HMc := Lib.hid (HM3.out.next HBc.out); have HBw := Lib.hid (HB3.out.trans (HBc.out.mono HB3.out.size)); have HCB := Lib.hid hcB
    clear HBc HM3 HB3 CB cB hlB HLB hcB
    go_wp2_with fail
    (with_reducible refine (u_rune 97 (by decide) _).mono ?_)
    rintro e W4 ⟨qa, rfl, hna, hma, hb4⟩
    have HNA := Lib.hid hna; have HMA := Lib.hid hma; have HM4 := Lib.hid (HMc.out.next hb4); have HCB4 := Lib.hid ((hb4.cell (p := ⟨W2.heap.size, 0, none⟩) (blk_of_cell HCB.out)).trans HCB.out); have HB4 := Lib.hid (HBw.out.trans (hb4.mono HBw.out.size))
    clear hna hma hb4 HMc HCB HBw
    go_wp2_with fail
    (with_reducible refine (u_rune 98 (by decide) _).mono ?_)
    rintro e W5 ⟨qb, rfl, hnb, hmb, hb5⟩
    have HNB := Lib.hid hnb; have HMB := Lib.hid hmb; have HMA5 := Lib.hid (HMA.out.next hb5); have HM5 := Lib.hid (HM4.out.next hb5); have HCB5 := Lib.hid ((hb5.cell (p := ⟨W2.heap.size, 0, none⟩) (blk_of_cell HCB4.out)).trans HCB4.out); have HB5 := Lib.hid (HB4.out.trans (hb5.mono HB4.out.size))
    clear hnb hmb hb5 HMA HM4 HCB4 HB4
    go_wp2_with fail
    (with_reducible refine (u_seq qa qb _ HMA5.out HNA.out HMB.out HNB.out).mono ?_)
    rintro e W6 ⟨r, rfl, hnr, hmr, hb6⟩
    have HNR := Lib.hid hnr; have HMR := Lib.hid hmr; have HM6 := Lib.hid (HM5.out.next hb6); have HCB6 := Lib.hid ((hb6.cell (p := ⟨W2.heap.size, 0, none⟩) (blk_of_cell HCB5.out)).trans HCB5.out); have HB6 := Lib.hid (HB5.out.trans (hb6.mono HB5.out.size))
    clear hnr hmr hb6 HMA5 HNA HMB HNB HM5 HCB5 HB5
    go_wp2_with fail
    (with_reducible refine (u_turn r _ (HMR.out.next ((Below.refl _ _).alloc (Nat.le_refl _) _)) HNR.out).mono ?_)
    rintro e W7 ⟨t, rfl, hnt, hmt, hb7⟩
    have hb67 := ((Below.refl W6.heap.size W6).alloc (Nat.le_refl _) (.cells #[.slice (some ⟨r.bn, 0, none⟩) 3 r.c] 24)).trans (hb7.mono (by simp))
    have HB7 := Lib.hid (HB6.out.trans (hb67.mono HB6.out.size))
    have hM7 := HM6.out.next hb67
    have cb := (hb67.cell (p := ⟨W2.heap.size, 0, none⟩) (blk_of_cell HCB6.out)).trans HCB6.out
    obtain ⟨_, hp⟩ := mine_node hM7 HQ.out (by decide)
    obtain ⟨a0, a1, a2, a3, pk, kb, k0, kc, a4, apk, akc⟩ := hp 0 _ rfl
    obtain ⟨e0, e1, e2, e3, _⟩ := hp 1 _ rfl
    obtain ⟨f0, f1, f2, f3, _⟩ := hp 2 _ rfl
    obtain ⟨g0, g1, g2, g3, _⟩ := hp 3 _ rfl
    obtain rfl := apk (by decide)
    have k2 := akc 2 (by decide)
    obtain ⟨_, ht⟩ := mine_node hmt hnt (by decide)
    obtain ⟨h0, h1, h2, h3, _⟩ := ht 1 _ rfl
    have z1 : W7.cell? ⟨q.bn, 7, none⟩ = some (.int .u32 1) := e2
    have z2 : W7.cell? ⟨q.bn, 4, none⟩ = some (.slice (some ⟨kb, k0, none⟩) 3 kc) := a4
    have z3 : W7.cell? ⟨kb, k0 + 2, none⟩ = some (.int .i64 4) := k2
    have z4 : W7.cell? ⟨q.bn, 10, none⟩ = some (.int .u8 8) := f0
    have z5 : W7.cell? ⟨q.bn, 16, none⟩ = some (.int .i32 97) := g1
    have z6 : W7.cell? ⟨t.bn, 6, none⟩ = some (.int .i32 98) := h1
    have y1 := blk_of_cell z1
    have y2 := blk_of_cell z3
    have y3 := blk_of_cell z6
    have y4 := blk_of_cell cb
    clear a0 a1 a2 a3 a4 e0 e1 e2 e3 f0 f1 f2 f3 g0 g1 g2 g3 h0 h1 h2 h3 hp ht akc apk k2 hM7 hb67 hb7 hmt hnt HM6 HCB6 HB6 HMR HNR HQ HT
    go_wp2_with fail
    go_ret
    exact ⟨rfl, HB7.out.alloc HB7.out.size _⟩
end Go.Proofs.YtmechinlaladiaaDoor
namespace Go.Proofs.YtmechinlaladiaaDoor
open Go.RowKit Go.Lib
set_option linter.unusedVariables false

set_option maxHeartbeats 4000000 in
set_option maxRecDepth 100000 in
theorem wrong_any (s : ByteArray) (a : Nat) (z : Int) (hz : z = (a : Int)) (hr : ∀ b1 b2, rdR (smp b1 b2) s = ([], a, 40)) (w : World) (hT : Tabs w) : Calls Tryd.prog 6 #[.string s, .int .i64 z] w fun e w' => e = .returned (.bool true) ∧ Below w.heap.size w w' := by
  subst hz
  have HT := Lib.hid hT
  have HP := Lib.hid (fun (b1 b2 : Nat) (W : World) (h : (smp b1 b2).In W) (hT : Tabs W) => (show Calls Tryd.prog 4 #[.agg #[.slice (some ⟨b1, 0, none⟩) 3 3, .slice (some ⟨b2, 0, none⟩) 5 5], .string s] W fun e w' => ∃ o c, e = .returned (.tuple #[.agg #[.slice o 0 c], .int .i64 a, .int .i64 40]) ∧ Below W.heap.size W w' from by
    have hc := pparse_any (smp b1 b2) s W h hT
    rw [hr] at hc
    refine hc.mono ?_
    rintro e w' ⟨q, he, hn, _, hb⟩
    have hl : q.ms.length = 0 := by rw [← nds_length, hn]; rfl
    unfold PtM.v at he
    rw [hl] at he
    exact ⟨_, _, he, hb⟩))
  clear hT hr
  go_enter Tryd.func6, Tryd.ntmps6
  go_wp2_with fail
  (with_reducible refine (letters_any _).mono ?_)
  rintro e W1 ⟨b1, b2, rfl, hA1, hb1⟩
  rw [smp_v]
  have HA1 := Lib.hid hA1; have HB1 := Lib.hid hb1
  clear hA1 hb1
  go_wp2_with fail
  (with_reducible refine (HP.out b1 b2 _ HA1.out (HT.out.next HB1.out)).mono ?_)
  rintro e W2 ⟨o, c, rfl, hb2⟩
  have HB2 := Lib.hid (HB1.out.trans (hb2.mono HB1.out.size))
  clear hb2 HA1 HB1 HP
  go_wp2_with fail
  go_ret
  exact ⟨rfl, HB2.out.alloc HB2.out.size _⟩
theorem rw1 (b1 b2 : Nat) : rdR (smp b1 b2) ⟨#[]⟩ = ([], 0, 40) := by kernel_rfl
theorem rw2 (b1 b2 : Nat) : rdR (smp b1 b2) ⟨#[120]⟩ = ([], 0, 40) := by kernel_rfl
theorem rw3 (b1 b2 : Nat) : rdR (smp b1 b2) ⟨#[40, 97]⟩ = ([], 2, 40) := by kernel_rfl
theorem rw4 (b1 b2 : Nat) : rdR (smp b1 b2) ⟨#[97, 98]⟩ = ([], 1, 40) := by kernel_rfl
theorem rw5 (b1 b2 : Nat) : rdR (smp b1 b2) ⟨#[123, 97]⟩ = ([], 2, 40) := by kernel_rfl
theorem rw6 (b1 b2 : Nat) : rdR (smp b1 b2) ⟨#[91, 118, 111, 105, 99, 101, 100, 93]⟩ = ([], 1, 40) := by kernel_rfl
theorem rw7 (b1 b2 : Nat) : rdR (smp b1 b2) ⟨#[91, 43, 110, 97, 115, 97, 108]⟩ = ([], 0, 40) := by kernel_rfl
def nsP : List Nd := [⟨9, 0, 0, 0, [1]⟩, ⟨7, 0, 0, 0, [2, 3, 6]⟩, ⟨2, 97, 0, 0, []⟩, ⟨6, 0, 0, 0, [4, 5]⟩, ⟨2, 112, 0, 0, []⟩, ⟨2, 98, 0, 0, []⟩, ⟨1, 0, 0, 0, []⟩]
theorem rdP (b1 b2 : Nat) : rdR (smp b1 b2) ⟨#[123, 97, 124, 40, 112, 98, 41, 124, 126, 125, 63]⟩ = (nsP, 0, 0) := by kernel_rfl
theorem rdQ (b1 b2 : Nat) : rdR (smp b1 b2) ⟨#[40, 41]⟩ = ([⟨6, 0, 0, 0, []⟩], 0, 0) := by kernel_rfl
theorem rdRr (b1 b2 : Nat) : rdR (smp b1 b2) ⟨#[123, 125]⟩ = ([⟨7, 0, 0, 0, []⟩], 0, 0) := by kernel_rfl
def nsS : List Nd := [⟨9, 0, 0, 0, [1]⟩, ⟨8, 0, 0, 0, [2]⟩, ⟨2, 97, 0, 0, []⟩]
theorem rdS (b1 b2 : Nat) : rdR (smp b1 b2) ⟨#[97, 42, 63]⟩ = (nsS, 0, 0) := by kernel_rfl
theorem rdT (b1 b2 : Nat) : rdR (smp b1 b2) ⟨#[91, 93]⟩ = ([⟨3, 0, 0, 0, []⟩], 0, 0) := by kernel_rfl
/-- A parse of the letters whose answer is known. -/
theorem u_par (s : ByteArray) (ns : List Nd) (k : Nat) (hk : k = ns.length) (h0 : 0 < ns.length) (hr : ∀ b1 b2, rdR (smp b1 b2) s = (ns, 0, 0)) (b1 b2 : Nat) (w : World) (h : (smp b1 b2).In w) (hT : Tabs w) : Calls Tryd.prog 4 #[.agg #[.slice (some ⟨b1, 0, none⟩) 3 3, .slice (some ⟨b2, 0, none⟩) 5 5], .string s] w
    fun e w' => ∃ q : PtM, e = .returned (.tuple #[.agg #[.slice (some ⟨q.bn, 0, none⟩) k q.c], .int .i64 0, .int .i64 0]) ∧ nds q.ms = ns ∧ Mine w.heap.size q w' ∧ Below w.heap.size w w' := by
  subst hk
  have hc := pparse_any (smp b1 b2) s w h hT
  rw [hr] at hc
  refine hc.mono ?_
  rintro e w' ⟨q, he, hn, hm, hb⟩
  have hv := (mine_node hm hn h0).1
  rw [hv] at he
  exact ⟨q, he, hn, hm, hb⟩
def nsPair : List Nd := [⟨6, 0, 0, 0, [2, 1]⟩, ⟨2, 98, 0, 0, []⟩, ⟨2, 97, 0, 0, []⟩]
def nsBad : List Nd := [⟨8, 0, 0, 0, [1, 2]⟩, ⟨4, 0, 0, 0, []⟩, ⟨4, 0, 0, 0, []⟩]
theorem pair_is : IsTree nsPair := by
  refine ⟨by decide, by decide, fun i n hi => ?_, fun i n hi k hk => ?_, by decide, by decide⟩
  · match i, hi with
    | 0, hi => injection hi with hi; subst hi; decide
    | 1, hi => injection hi with hi; subst hi; decide
    | 2, hi => injection hi with hi; subst hi; decide
    | (i + 3), hi => simp [nsPair] at hi
  · match i, hi with
    | 0, hi =>
      injection hi with hi; subst hi
      simp at hk
      rcases hk with rfl | rfl <;> decide
    | 1, hi => injection hi with hi; subst hi; simp at hk
    | 2, hi => injection hi with hi; subst hi; simp at hk
    | (i + 3), hi => simp [nsPair] at hi
theorem pair_tr : tr0 nsPair = tab := by kernel_rfl
theorem same_pair : sameB nsab nsPair = true := by
  rw [sameB_iff]
  refine ⟨(treeB_iff _).1 ab_is.1, pair_is, ?_⟩
  unfold normN
  rw [ab_is.2, pair_tr]
theorem same_ab : sameB (leafN 2 97 0 0) (leafN 2 98 0 0) = false := by
  cases h : sameB (leafN 2 97 0 0) (leafN 2 98 0 0) with
  | false => rfl
  | true =>
    have h2 := ((sameB_iff _ _).1 h).2.2
    unfold normN at h2
    rw [la_is.2, lb_is.2] at h2
    have h3 : (ta.flat 0).map Nd.r = (tb.flat 0).map Nd.r := by rw [h2]
    exact absurd h3 (by decide)
theorem same_nil : sameB [] [] = false := by
  cases h : sameB [] [] with
  | false => rfl
  | true =>
    have h2 := ((sameB_iff _ _).1 h).1.one
    exact absurd h2 (by decide)
theorem bad_no : treeB nsBad = false := by
  cases h : treeB nsBad with
  | false => rfl
  | true =>
    have h2 := ((treeB_iff _).1 h).node 0 _ rfl
    exact absurd h2 (by decide)
theorem bad_made : madeE [nsBad] = 40 := by
  unfold madeE
  rw [if_neg (by decide), if_neg (by rw [List.all_cons, bad_no]; decide)]
theorem nil_chkP (ns : List Nd) : chkP nilAl ns = 7 := by
  have h : aacR nilAl 0 0 = 7 := by kernel_rfl
  unfold chkP
  rw [if_pos (by rw [h]; decide), h]
/-- A pattern of three nodes, the first with two kids, as literals lie. -/
theorem lit3 {W : World} {kb nb : Nat} {k0 k1 k2 : Nat} {r1 r2 : Int} {x y : Int} {c : Nat} (hk0 : k0 < 256) (hk1 : k1 < 256) (hk2 : k2 < 256) (hr1 : -2147483648 ≤ r1 ∧ r1 ≤ 2147483647) (hr2 : -2147483648 ≤ r2 ∧ r2 ≤ 2147483647) (hx : 0 ≤ x ∧ x ≤ 2) (hy : 0 ≤ y ∧ y ≤ 2)
    (hk : W.cell? ⟨kb, 0, none⟩ = some (.int .i64 x) ∧ W.cell? ⟨kb, 1, none⟩ = some (.int .i64 y))
    (hn : ∀ j v, (#[.int .u8 k0, .int .i32 0, .int .u32 0, .int .u32 0, .slice (some ⟨kb, 0, none⟩) 2 2, .int .u8 k1, .int .i32 r1, .int .u32 0, .int .u32 0, .slice none 0 0, .int .u8 k2, .int .i32 r2, .int .u32 0, .int .u32 0, .slice none 0 0] : Array Value)[j]? = some v → W.cell? ⟨nb, j, none⟩ = some v) :
    NsIn (some ⟨nb, 0, none⟩) nb 0 [⟨⟨k0, 0, 0, 0, [x, y]⟩, some ⟨kb, 0, none⟩, kb, 0, 2⟩, ⟨⟨k1, r1, 0, 0, []⟩, none, 0, 0, 0⟩, ⟨⟨k2, r2, 0, 0, []⟩, none, 0, 0, 0⟩] W := by
  refine ⟨fun _ => rfl, fun j hj => ?_, fun j hj => ?_, fun j hj => ?_, (show 3 ≤ 140737488355328 by omega)⟩
  · match j, hj with
    | 0, _ => exact ⟨hn 0 _ rfl, hn 1 _ rfl, hn 2 _ rfl, hn 3 _ rfl, hn 4 _ rfl⟩
    | 1, _ => exact ⟨hn 5 _ rfl, hn 6 _ rfl, hn 7 _ rfl, hn 8 _ rfl, hn 9 _ rfl⟩
    | 2, _ => exact ⟨hn 10 _ rfl, hn 11 _ rfl, hn 12 _ rfl, hn 13 _ rfl, hn 14 _ rfl⟩
  · match j, hj with
    | 0, _ =>
      refine ⟨fun _ => rfl, fun i hi => ?_, Nat.le_refl _, (show 2 ≤ 140737488355328 by omega), fun k hk => ?_⟩
      · match i, hi with
        | 0, _ => exact hk.1
        | 1, _ => exact hk.2
      · have hk' : k = x ∨ k = y := by
          have h9 : k ∈ [x, y] := hk
          simpa using h9
        omega
    | 1, _ => exact ⟨fun h => absurd h (Nat.lt_irrefl 0), fun i hi => absurd hi (Nat.not_lt_zero i), Nat.le_refl _, (show 0 ≤ 140737488355328 by omega), fun k hk => by cases hk⟩
    | 2, _ => exact ⟨fun h => absurd h (Nat.lt_irrefl 0), fun i hi => absurd hi (Nat.not_lt_zero i), Nat.le_refl _, (show 0 ≤ 140737488355328 by omega), fun k hk => by cases hk⟩
  · match j, hj with
    | 0, _ => exact ⟨hk0, ⟨(show (-2147483648 : Int) ≤ 0 by decide), (show (0 : Int) ≤ 2147483647 by decide)⟩, (show (0 : Nat) < 4294967296 by decide), (show (0 : Nat) < 4294967296 by decide)⟩
    | 1, _ => exact ⟨hk1, hr1, (show (0 : Nat) < 4294967296 by decide), (show (0 : Nat) < 4294967296 by decide)⟩
    | 2, _ => exact ⟨hk2, hr2, (show (0 : Nat) < 4294967296 by decide), (show (0 : Nat) < 4294967296 by decide)⟩
/-- A pattern in a box, its nodes known. -/
structure Lv (B : Nat) (q : PtM) (ns : List Nd) (k : Nat) (W : World) : Prop where
  c : W.cell? ⟨B, 0, none⟩ = some (.slice (some ⟨q.bn, 0, none⟩) k q.c)
  m : ∃ lo, Mine lo q W
  n : nds q.ms = ns
theorem Lv.next {B : Nat} {q : PtM} {ns : List Nd} {k : Nat} {W W' : World} (h : Lv B q ns k W) (hb : Below W.heap.size W W') : Lv B q ns k W' := by
  obtain ⟨lo, hm⟩ := h.m
  exact ⟨(hb.cell (p := ⟨B, 0, none⟩) (blk_of_cell h.c)).trans h.c, ⟨lo, hm.next hb⟩, h.n⟩
theorem Lv.new {q : PtM} {ns : List Nd} {k : Nat} {W : World} {lo : Nat} (hm : Mine lo q W) (hn : nds q.ms = ns) : Lv W.heap.size q ns k (W.alloc (.cells #[.slice (some ⟨q.bn, 0, none⟩) k q.c] 24)) :=
  ⟨by simp, ⟨lo, hm.next ((Below.refl _ _).alloc (Nat.le_refl _) _)⟩, hn⟩
theorem mine_k {lo : Nat} {q : PtM} {ns : List Nd} {W : World} (hm : Mine lo q W) (hn : nds q.ms = ns) (j : Nat) (n : Nd) (hj : ns[j]? = some n) :
    W.cell? ⟨q.bn, j * 5, none⟩ = some (.int .u8 n.k) ∧ q.bn < W.heap.size ∧ ∃ pk kb k0 kc, W.cell? ⟨q.bn, j * 5 + 4, none⟩ = some (.slice pk n.ks.length kc) ∧ (0 < n.ks.length → pk = some ⟨kb, k0, none⟩ ∧ kb < W.heap.size) ∧ ∀ i, i < n.ks.length → W.cell? ⟨kb, k0 + i, none⟩ = some (.int .i64 (n.ks.getD i 0)) := by
  obtain ⟨c0, _, _, _, pk, kb, k0, kc, c4, h1, h2⟩ := (mine_node hm hn (by have := (List.getElem?_eq_some_iff.1 hj).1; omega)).2 j n hj
  exact ⟨c0, blk_of_cell c0, pk, kb, k0, kc, c4, fun h0 => ⟨h1 h0, blk_of_cell (h2 0 h0)⟩, h2⟩
theorem Lv.kd {B : Nat} {q : PtM} {ns : List Nd} {k : Nat} {W : World} (h : Lv B q ns k W) (j : Nat) (n : Nd) (hj : ns[j]? = some n) : W.cell? ⟨q.bn, j * 5, none⟩ = some (.int .u8 n.k) ∧ q.bn < W.heap.size := by
  obtain ⟨lo, hm⟩ := h.m
  exact ⟨(mine_k hm h.n j n hj).1, (mine_k hm h.n j n hj).2.1⟩
/-- The literal pattern. -/
def prMs (kb : Nat) : List NdM := [⟨⟨6, 0, 0, 0, [2, 1]⟩, some ⟨kb, 0, none⟩, kb, 0, 2⟩, ⟨⟨2, 98, 0, 0, []⟩, none, 0, 0, 0⟩, ⟨⟨2, 97, 0, 0, []⟩, none, 0, 0, 0⟩]
def bdMs (kb : Nat) : List NdM := [⟨⟨8, 0, 0, 0, [1, 2]⟩, some ⟨kb, 0, none⟩, kb, 0, 2⟩, ⟨⟨4, 0, 0, 0, []⟩, none, 0, 0, 0⟩, ⟨⟨4, 0, 0, 0, []⟩, none, 0, 0, 0⟩]
structure Pr (W : World) (B kb nb : Nat) (W' : World) : Prop where
  c : W'.cell? ⟨B, 0, none⟩ = some (.slice (some ⟨nb, 0, none⟩) 3 3)
  i : NsIn (some ⟨nb, 0, none⟩) nb 0 (prMs kb) W'
theorem Pr.next {V W W' : World} {B kb nb : Nat} (h : Pr V B kb nb W) (hb : Below W.heap.size W W') : Pr V B kb nb W' := ⟨(hb.cell (p := ⟨B, 0, none⟩) (blk_of_cell h.c)).trans h.c, h.i.next hb⟩
def prO : Obj := .cells #[.int .u8 6, .int .i32 0, .int .u32 0, .int .u32 0, .slice none 0 0] 36
theorem lit_cells (W : World) (x y : Int) (l : Array Value) (hl : l.size = 15) : let V := (W.alloc (.cells #[.int .i64 x, .int .i64 y] 3)).alloc (.cells l 36)
    (V.cell? ⟨W.heap.size, 0, none⟩ = some (.int .i64 x) ∧ V.cell? ⟨W.heap.size, 1, none⟩ = some (.int .i64 y)) ∧ ∀ j v, l[j]? = some v → V.cell? ⟨W.heap.size + 1, j, none⟩ = some v := by
  intro V
  refine ⟨⟨by simp [V], by simp [V]⟩, fun j v hj => ?_⟩
  rw [World.cell?_alloc_at _ _ _ _ (by simp)]
  exact hj
theorem u_same_pair (r : PtM) (W : World) {lo kb nb : Nat} (hm : Mine lo r W) (hn : nds r.ms = nsab) (hp : NsIn (some ⟨nb, 0, none⟩) nb 0 (prMs kb) W) : Calls Tryd.prog 11 #[.agg #[.slice (some ⟨r.bn, 0, none⟩) 3 r.c], .agg #[.slice (some ⟨nb, 0, none⟩) 3 3]] W fun e w' => e = .returned (.bool true) ∧ Below W.heap.size W w' := by
  have hc := psame_any r.pn (some ⟨nb, 0, none⟩) r.bn r.n0 r.c nb 0 3 r.ms (prMs kb) W hm.i hp
  have hv := (mine_node hm hn (by decide)).1
  unfold PtM.v at hv
  rw [hv, hn, show nds (prMs kb) = nsPair from rfl, same_pair] at hc
  exact hc
theorem u_same_ab (qa qb : PtM) (W : World) {la lb : Nat} (ha : Mine la qa W) (hna : nds qa.ms = leafN 2 97 0 0) (hb : Mine lb qb W) (hnb : nds qb.ms = leafN 2 98 0 0) : Calls Tryd.prog 11 #[.agg #[.slice (some ⟨qa.bn, 0, none⟩) 1 qa.c], .agg #[.slice (some ⟨qb.bn, 0, none⟩) 1 qb.c]] W fun e w' => e = .returned (.bool false) ∧ Below W.heap.size W w' := by
  have hc := psame_any qa.pn qb.pn qa.bn qa.n0 qa.c qb.bn qb.n0 qb.c qa.ms qb.ms W ha.i hb.i
  have hva := (mine_node ha hna (by decide)).1
  have hvb := (mine_node hb hnb (by decide)).1
  unfold PtM.v at hva hvb
  rw [hva, hvb, hna, hnb, same_ab] at hc
  exact hc
theorem nil_ns (W : World) : NsIn none 0 0 [] W := ⟨fun h => absurd h (by decide), fun j hj => absurd hj (by simp), fun j hj => absurd hj (by simp), fun j hj => absurd hj (by simp), by decide⟩
theorem u_same_nil (W : World) : Calls Tryd.prog 11 #[.agg #[.slice none 0 0], .agg #[.slice none 0 0]] W fun e w' => e = .returned (.bool false) ∧ Below W.heap.size W w' := by
  have hc := psame_any none none 0 0 0 0 0 0 [] [] W (nil_ns W) (nil_ns W)
  rw [show nds [] = [] from rfl, same_nil] at hc
  exact hc
theorem u_check_nil (W : World) {kb nb : Nat} (hp : NsIn (some ⟨nb, 0, none⟩) nb 0 (prMs kb) W) : Calls Tryd.prog 12 #[.agg #[.slice none 0 0, .slice none 0 0], .agg #[.slice (some ⟨nb, 0, none⟩) 3 3]] W fun e w' => e = .returned (.int .i64 7) ∧ Below W.heap.size W w' := by
  have hc := pcheck_any nilAl ⟨prMs kb, some ⟨nb, 0, none⟩, nb, 0, 3⟩ W (nilAl_in W) hp
  rw [nil_chkP] at hc
  exact hc
theorem u_star_bad (W : World) {kb nb : Nat} (hp : NsIn (some ⟨nb, 0, none⟩) nb 0 (bdMs kb) W) : Calls Tryd.prog 9 #[.agg #[.slice (some ⟨nb, 0, none⟩) 3 3]] W fun e w' => ∃ o c, e = .returned (.tuple #[.agg #[.slice o 0 c], .int .i64 40]) ∧ Below W.heap.size W w' := by
  have hc := pstar_any ⟨bdMs kb, some ⟨nb, 0, none⟩, nb, 0, 3⟩ W hp
  have e1 : madeR 8 [nsBad] = [] := by unfold madeR; rw [bad_made]; rfl
  rw [show nds (PtM.mk (bdMs kb) (some ⟨nb, 0, none⟩) nb 0 3).ms = nsBad from rfl, bad_made, e1] at hc
  refine hc.mono ?_
  rintro e w' ⟨q, he, hn, _, hb⟩
  have hl : q.ms.length = 0 := by rw [← nds_length, hn]; rfl
  unfold PtM.v at he
  rw [hl] at he
  exact ⟨_, _, he, hb⟩
end Go.Proofs.YtmechinlaladiaaDoor
