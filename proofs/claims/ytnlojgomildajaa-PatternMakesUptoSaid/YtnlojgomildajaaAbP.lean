/-
  A NODE ABOVE PATTERNS, BEING MADE: what both sides' loops keep.
-/
import Derived.Test.YtnlojgomildajaaRpT
import Derived.Test.YtnlojgomildajaaPtn
namespace Go.Proofs.Ytnlojgomildajaa
open Go.RowKit Go.Lib
set_option linter.unusedVariables false
/-- j trees are put below M's node. -/
structure RbL (N : Nat) (W0 : World) (M : NdM) (tl : List Tr) (j : Nat) (kv vj : Value) (msj : List NdM) (st : List Int) (wr : World) : Prop where
  below : Below N W0 wr
  out : OutN N (fun _ => False) vj (M.bare :: msj) wr
  far : SofarL tl j (nds msj) st
  stl : st.length = j
  kown : wr.ownsRow N 3 1 kv st.length (st.map fun k => .int .i64 k)
  kap : ∀ b, kv.ownBlock = some b → ¬ vj.ownBlock = some b ∧ ∀ q ∈ M.bare :: msj, 0 < q.nd.ks.length → ¬ q.bk = b
  frk : ∀ q ∈ msj, FrK N q wr
theorem RbL.next {N : Nat} {W0 : World} {M : NdM} {tl : List Tr} {j : Nat} {kv vj : Value} {msj : List NdM} {st : List Int} {wr wr' : World} (h : RbL N W0 M tl j kv vj msj st wr) (hN : N ≤ wr.heap.size) (hb : Below wr.heap.size wr wr') : RbL N W0 M tl j kv vj msj st wr' :=
  ⟨h.below.trans (hb.mono hN), h.out.next hb, h.far, h.stl, ownN_below h.kown hb, h.kap, fun q hq => (h.frk q hq).keep (But.of_below (X := fun _ => False) hb) (fun _ e => e)⟩
theorem RbL.step {N : Nat} {W0 : World} {M : NdM} {tl : List Tr} {j : Nat} {kv vj : Value} {msj : List NdM} {st : List Int} {wr : World}
    (h : RbL N W0 M tl j kv vj msj st wr) (hw : W0.heap.size = N) (hj : j < tl.length) (hsz : 1 + (ofL tl).sz ≤ 100000) :
    ∃ (z : Nat), z ≤ 100000 ∧ (∃ o c, vj = .slice o z c) ∧ (M.bare :: msj).length + (tl.getD j default).sz ≤ 100000 ∧
      ∀ o kv' w3, w3.ownsRow N 3 1 kv' (st ++ [(z : Int)]).length ((st ++ [(z : Int)]).map fun k => .int .i64 k) → (wr.alloc o).grownBy w3 kv.ownBlock → (kv'.ownBlock = kv.ownBlock ∨ kv'.ownBlock = some (wr.alloc o).heap.size) →
        Below N W0 w3 ∧ OutN N (fun _ => False) vj (M.bare :: msj) w3 ∧ N ≤ w3.heap.size ∧ ∀ e w4, PtR N vj (M.bare :: msj) (tl.getD j default) w3 e w4 →
          ∃ vj' msj', e = .returned vj' ∧ RbL N W0 M tl (j + 1) kv' vj' msj' (st ++ [(z : Int)]) w4 := by
  have hNw : N ≤ wr.heap.size := by have := h.below.size; omega
  obtain ⟨hle, hf2⟩ := h.far.step hj
  have hlp : (nds msj).length = msj.length := nds_length msj
  have hlen : (M.bare :: msj).length = 1 + msj.length := by simp; omega
  refine ⟨1 + msj.length, by omega, by obtain ⟨o, c, e⟩ := h.out.len; exact ⟨o, c, by rw [e, hlen]⟩, by omega, ?_⟩
  intro o kv' w3 hk3 hg3 hat3
  have hkb : ∀ b, kv.ownBlock = some b → N ≤ b ∧ b < wr.heap.size := fun b hb => h.kown.lt b hb
  have hB3 : But (fun q => kv.ownBlock = some q) wr w3 := (But.refl (fun q => kv.ownBlock = some q) wr).alloc o |>.trans (But.of_grown hg3 (fun k e => e)) (fun i _ e => e)
  have hs3 := hB3.size
  have hbel : Below N W0 w3 := h.below.trans (hB3.below (by omega) (fun k hk e => by have := hkb k e; omega))
  have ho3 : OutN N (fun _ => False) vj (M.bare :: msj) w3 := h.out.keep hB3 (fun k e hk => (h.kap k hk).1 e) (fun q hq h0 e => (h.kap q.bk e).2 q hq h0 rfl)
  refine ⟨hbel, ho3, by omega, ?_⟩
  rintro e w4 ⟨v', ms', rfl, hout, hnd, hfk, hbut, hvat⟩
  have hs4 := hbut.size
  have hk'b : ∀ b, kv'.ownBlock = some b → N ≤ b ∧ b < w3.heap.size ∧ ¬ vj.ownBlock = some b ∧ ∀ q ∈ M.bare :: msj, 0 < q.nd.ks.length → ¬ q.bk = b := fun b hb => by
    have h1 := hk3.lt b hb
    rcases hat3 with e | e
    · rw [e] at hb
      exact ⟨h1.1, h1.2, h.kap b hb⟩
    · rw [e] at hb
      cases hb
      refine ⟨h1.1, h1.2, fun e2 => ?_, fun q hq h0 e2 => ?_⟩
      · have := (h.out.own.lt _ e2).2
        simp at this
        omega
      · have := (h.out.kids q hq).lt h0
        simp at e2
        omega
  have hv'b : ∀ b, v'.ownBlock = some b → vj.ownBlock = some b ∨ w3.heap.size ≤ b := fun b hb => by
    rcases hvat with e | ⟨b', e, hle'⟩
    · exact Or.inl (e ▸ hb)
    · rw [e] at hb; cases hb; exact Or.inr hle'
  have happ : M.bare :: (msj ++ ms') = (M.bare :: msj) ++ ms' := rfl
  refine ⟨v', msj ++ ms', rfl, ?_, by rw [happ]; exact hout, ?_, ?_, own_keep hk3 hbut (fun k e => (hk'b k e).2.2.1), ?_, ?_⟩
  · exact hbel.trans (hbut.below (by omega) (fun k hk e => by have := (h.out.own.lt k e).1; omega))
  · rw [nds_app, hnd, show ((1 + msj.length : Nat) : Int) = ((1 + (nds msj).length : Nat) : Int) by rw [hlp], hlen, ← hlp]
    exact hf2
  · rw [List.length_append, h.stl]; rfl
  · intro b hb
    obtain ⟨k1, k2, k3, k4⟩ := hk'b b hb
    rw [happ]
    refine ⟨fun e => ?_, fun q hq h0 e => ?_⟩
    · rcases hv'b b e with e2 | e2
      · exact k3 e2
      · omega
    · rcases List.mem_append.1 hq with hq | hq
      · exact k4 q hq h0 e
      · have := (hfk q hq h0).1
        omega
  · intro q hq
    rcases List.mem_append.1 hq with hq2 | hq2
    · exact ((h.frk q hq2).keep hB3 (fun h0 e => (h.kap q.bk e).2 q (by simp [hq2]) h0 rfl)).keep hbut (fun h0 e => (ho3.apart q (by simp [hq2]) h0).1 e)
    · exact (hfk q hq2).mono (by omega)
theorem RbL.fin {N : Nat} {W0 : World} {kind : Nat} {tl : List Tr} {j : Nat} {kv vj : Value} {msj : List NdM} {st : List Int} {wr : World} {M : NdM} (hM : M = ⟨⟨kind, 0, 0, 0, []⟩, none, 0, 0, 0⟩)
    (h : RbL N W0 M tl j kv vj msj st wr) (hj : j = tl.length) (hsz : 1 + (ofL tl).sz ≤ 100000) (hjl : j ≤ 100000) :
    ∃ g n c u, vj = .slice (some ⟨g, 0, none⟩) n c ∧ 0 < n ∧ n ≤ 100000 ∧ N ≤ g ∧ wr.cell? ⟨g, 4, none⟩ = some u ∧ wr.frozen? ⟨g, 4, none⟩ = false ∧
      ∃ q : PtM, q.v = .agg #[vj] ∧ nds q.ms = (Tr.nd kind 0 0 0 (ofL tl)).flat 0 ∧ Mine N q (wr.setCell ⟨g, 4, none⟩ kv) := by
  have hfar := h.far
  rw [hj] at hfar
  obtain ⟨hfl, hst⟩ := hfar.done
  have hszj : msj.length ≤ (ofL tl).sz := by have := hfar.sz; rw [nds_length] at this; omega
  obtain ⟨g, c, hv, hvb, hgN, hgl, hcell, hfz⟩ := h.out.some (by simp)
  have hlen : (M.bare :: msj).length = 1 + msj.length := by simp; omega
  have hbits : ∀ k ∈ st, -9223372036854775808 ≤ k ∧ k ≤ 9223372036854775807 := by rw [hst]; exact starts_bits _ _ (by omega)
  obtain ⟨pk', bk', c', hkv, hKs, hkb⟩ := own_ks h.kown (by rw [h.stl]; omega) hbits
  obtain ⟨M', hM'⟩ : ∃ M' : NdM, M' = ⟨⟨M.nd.k, M.nd.r, M.nd.p, M.nd.m, st⟩, pk', bk', 0, c'⟩ := ⟨_, rfl⟩
  have hcu : ∃ u, wr.cell? ⟨g, 4, none⟩ = some u := by
    have h1 := hcell 4 (by omega)
    have h2 := (nsC_at (M.bare :: msj) 0 (by omega)).2.2.2.2
    exact ⟨_, h1.trans h2⟩
  obtain ⟨u, hu⟩ := hcu
  have hB : But (fun q => q = g) wr (wr.setCell ⟨g, 4, none⟩ kv) := (But.refl (fun q => q = g) wr).setCell (p := ⟨g, 4, none⟩) (fun _ => rfl) _
  have hout := h.out
  have hkap := h.kap
  rw [hv] at hout
  have hmo : OutN N (fun _ => False) vj (M' :: msj) (wr.setCell ⟨g, 4, none⟩ kv) := by
    have := OutN.setK (a := []) (m' := M') hout (by rw [hM']; exact ⟨rfl, rfl, rfl, rfl⟩) (by rw [hM']; exact hKs) (by
      rw [hM']
      intro h0
      have hb := hkb h0
      exact ⟨fun e => (hkap bk' hb.2).1 (by rw [hvb, e]), fun e => e⟩)
    rw [hv, hkv]
    rw [hM'] at this ⊢
    simpa using this
  have hfk : ∀ q ∈ M' :: msj, FrK N q (wr.setCell ⟨g, 4, none⟩ kv) := by
    intro q hq
    rcases List.mem_cons.1 hq with rfl | hq
    · intro h0
      rw [hM'] at h0 ⊢
      have hb := hkb h0
      refine ⟨hb.1, ?_, fun o => ?_⟩
      · have := (h.kown.lt bk' hb.2).2
        simpa [World.setCell] using this
      · rw [World.frozen?_setCell]; exact own_unfrozen h.kown hb.2 o
    · exact (h.frk q hq).keep hB (fun h0 e => (h.out.apart q (by simp [hq]) h0).1 (by rw [hvb]; exact congrArg some e.symm))
  rw [hv] at hmo
  obtain ⟨q, h1, h2, h3⟩ := mine_of hmo hfk (by simp; omega)
  refine ⟨g, 1 + msj.length, c, u, by rw [hv, hlen], by omega, by omega, hgN, hu, hfz _, q, by rw [h1, hv], ?_, h3⟩
  rw [h2, show nds (M' :: msj) = M'.nd :: nds msj from rfl, hfl, hM', hst, hM]
  rfl
/-- Some patterns' nodes. -/
def pN (ps : List PtM) : List (List Nd) := ps.map fun p => nds p.ms
theorem pN_len (ps : List PtM) : (pN ps).length = ps.length := by simp [pN]
theorem pN_take {ps : List PtM} {i : Nat} (h : i < ps.length) : (pN ps).take (i + 1) = (pN ps).take i ++ [nds (ps.getD i default).ms] := by
  unfold pN
  rw [← List.map_take, ← List.map_take, List.take_succ_eq_append_getElem h, List.map_append, List.getD_eq_getElem?_getD, List.getElem?_eq_getElem h]
  rfl
theorem pN_tl {ps : List PtM} {i : Nat} (h : i < ps.length) : ((pN ps).map tr0).getD i default = tr0 (nds (ps.getD i default).ms) := by
  rw [List.getD_eq_getElem?_getD, List.getElem?_map, List.getElem?_eq_getElem (by rw [pN_len]; exact h), List.getD_eq_getElem?_getD, List.getElem?_eq_getElem h]
  simp [pN]
theorem all_take {l : List (List Nd)} (h : l.all treeB = false) (i : Nat) (hi : l.length ≤ i) : (l.take i).all treeB = false := by rw [List.take_of_length_le hi]; exact h
theorem all_no {l : List (List Nd)} {i : Nat} (h : i < l.length) (hx : treeB l[i] = false) : l.all treeB = false := by
  cases ha : l.all treeB with
  | false => rfl
  | true => have := List.all_eq_true.1 ha l[i] (List.getElem_mem h); rw [hx] at this; cases this
noncomputable def madeR (kind : Nat) (l : List (List Nd)) : List Nd := if madeE l = 0 then madeN kind l else []
end Go.Proofs.Ytnlojgomildajaa
