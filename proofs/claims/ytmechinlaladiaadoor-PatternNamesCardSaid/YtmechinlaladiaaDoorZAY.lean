/-
  WALKS: cognateref04.put, by induction on the tree.
  WALKS: slices.Clone at []api.Node and []int; slices.Reverse at []int.
  WALKS: patterns of one node, both sides.
-/
import Derived.Lib.SliceRun
import Derived.Test.YtmechinlaladiaaDoorZAN
namespace Go.Proofs.YtmechinlaladiaaDoor
open Go.RowKit Go.Lib
set_option linter.unusedVariables false

/-- A node without kids. -/
def NdM.bare (M : NdM) : NdM := ⟨⟨M.nd.k, M.nd.r, M.nd.p, M.nd.m, []⟩, none, 0, 0, 0⟩
/-- put's loop: j kids are put. -/
structure RpL (tb : Bool) (N : Nat) (ls : List NdM) (W0 w : World) (v : Value) (ms : List NdM) (M : NdM) (ts : Ts) (ks : List Int) (j : Nat) (kv vj : Value) (msj : List NdM) (st : List Int) (rest : Ts) (wr : World) : Prop where
  below : Below N W0 wr
  out : OutN N (fun _ => False) vj (ms ++ M.bare :: msj) wr
  far : Sofar tb (nds ls) (ms.length + 1) ts (nds msj) st rest (ks.drop j)
  stl : st.length = j
  kown : wr.ownsRow w.heap.size 3 1 kv st.length (st.map fun k => .int .i64 k)
  kap : ∀ b, kv.ownBlock = some b → ¬ vj.ownBlock = some b ∧ ∀ q ∈ ms ++ M.bare :: msj, 0 < q.nd.ks.length → ¬ q.bk = b
  frk : ∀ q ∈ msj, FrK w.heap.size q wr
  but : But (fun k => v.ownBlock = some k) w wr
  vat : vj.ownBlock = v.ownBlock ∨ ∃ b, vj.ownBlock = some b ∧ w.heap.size ≤ b
theorem RpL.step {tb : Bool} {N : Nat} {ls : List NdM} {W0 w : World} {v : Value} {ms : List NdM} {M : NdM} {ts : Ts} {ks : List Int} {j : Nat} {kv vj : Value} {msj : List NdM} {st : List Int} {rest : Ts} {wr : World} {s : Nat}
    (h : RpL tb N ls W0 w v ms M ts ks j kv vj msj st rest wr) (hw : W0.heap.size = N) (hNw : N ≤ w.heap.size) (hj : j < ks.length) (hts : ts.sz ≤ s) (hsz : ms.length + 1 + ts.sz ≤ 100000) :
    ∃ (t1 : Tr) (z : Nat), t1.At (nds ls) (ks.getD j 0) ∧ t1.sz ≤ s ∧ z ≤ 100000 ∧ (∃ o c, vj = .slice o z c) ∧ (ms ++ M.bare :: msj).length + t1.sz ≤ 100000 ∧
      ∀ o kv' w3, w3.ownsRow w.heap.size 3 1 kv' (st ++ [(z : Int)]).length ((st ++ [(z : Int)]).map fun k => .int .i64 k) → (wr.alloc o).grownBy w3 kv.ownBlock → (kv'.ownBlock = kv.ownBlock ∨ kv'.ownBlock = some (wr.alloc o).heap.size) →
        Below N W0 w3 ∧ OutN N (fun _ => False) vj (ms ++ M.bare :: msj) w3 ∧ ∀ e w4, PtR N vj (ms ++ M.bare :: msj) (t1.tn tb) w3 e w4 →
          ∃ vj' msj' rest', e = .returned vj' ∧ RpL tb N ls W0 w v ms M ts ks (j + 1) kv' vj' msj' (st ++ [(z : Int)]) rest' w4 := by
  have hsw := h.but.size
  have hfar := h.far
  rw [List.drop_eq_getElem_cons hj] at hfar
  obtain ⟨t1, rest', hat, hle, hf2⟩ := hfar.step
  have hks : ks[j] = ks.getD j 0 := by rw [List.getD_eq_getElem?_getD, List.getElem?_eq_getElem hj]; rfl
  rw [hks] at hat
  have hlp : (nds msj).length = msj.length := nds_length msj
  have hlen : (ms ++ M.bare :: msj).length = ms.length + 1 + msj.length := by simp; omega
  refine ⟨t1, ms.length + 1 + msj.length, hat, by omega, by omega, by obtain ⟨o, c, e⟩ := h.out.len; exact ⟨o, c, by rw [e, hlen]⟩, by omega, ?_⟩
  intro o kv' w3 hk3 hg3 hat3
  have hkb : ∀ b, kv.ownBlock = some b → w.heap.size ≤ b ∧ b < wr.heap.size := fun b hb => h.kown.lt b hb
  have hB3 : But (fun q => kv.ownBlock = some q) wr w3 := (But.refl (fun q => kv.ownBlock = some q) wr).alloc o |>.trans (But.of_grown hg3 (fun k e => e)) (fun i _ e => e)
  have hs3 := hB3.size
  have hbel : Below N W0 w3 := h.below.trans (hB3.below (by omega) (fun k hk e => by have := hkb k e; omega))
  have ho3 : OutN N (fun _ => False) vj (ms ++ M.bare :: msj) w3 := h.out.keep hB3 (fun k e hk => (h.kap k hk).1 e) (fun q hq h0 e => (h.kap q.bk e).2 q hq h0 rfl)
  refine ⟨hbel, ho3, ?_⟩
  rintro e w4 ⟨v', ms', rfl, hout, hnd, hfk, hbut, hvat⟩
  have hs4 := hbut.size
  have hk'b : ∀ b, kv'.ownBlock = some b → w.heap.size ≤ b ∧ b < w3.heap.size ∧ ¬ vj.ownBlock = some b ∧ ∀ q ∈ ms ++ M.bare :: msj, 0 < q.nd.ks.length → ¬ q.bk = b := fun b hb => by
    have h1 := hk3.lt b hb
    rcases hat3 with e | e
    · rw [e] at hb
      exact ⟨h1.1, h1.2, h.kap b hb⟩
    · rw [e] at hb
      cases hb
      refine ⟨h1.1, h1.2, fun e2 => ?_, fun q hq h0 e2 => ?_⟩
      · have := (h.out.own.lt _ e2).2
        simp at this
        omega
      · have := (h.out.kids q hq).lt h0
        simp at e2
        omega
  have hv'b : ∀ b, v'.ownBlock = some b → vj.ownBlock = some b ∨ w3.heap.size ≤ b := fun b hb => by
    rcases hvat with e | ⟨b', e, hle'⟩
    · exact Or.inl (e ▸ hb)
    · rw [e] at hb; cases hb; exact Or.inr hle'
  have happ : ms ++ M.bare :: (msj ++ ms') = (ms ++ M.bare :: msj) ++ ms' := by simp
  refine ⟨v', msj ++ ms', rest', rfl, ?_, by rw [happ]; exact hout, ?_, ?_, own_keep hk3 hbut (fun k e => (hk'b k e).2.2.1), ?_, ?_, ?_, ?_⟩
  · exact hbel.trans (hbut.below (by omega) (fun k hk e => by have := (h.out.own.lt k e).1; omega))
  · rw [nds_app, hnd, show ((ms.length + 1 + msj.length : Nat) : Int) = ((ms.length + 1 + (nds msj).length : Nat) : Int) by rw [hlp], hlen, ← hlp]
    exact hf2
  · rw [List.length_append, h.stl]; rfl
  · intro b hb
    obtain ⟨k1, k2, k3, k4⟩ := hk'b b hb
    rw [happ]
    refine ⟨fun e => ?_, fun q hq h0 e => ?_⟩
    · rcases hv'b b e with e2 | e2
      · exact k3 e2
      · omega
    · rcases List.mem_append.1 hq with hq | hq
      · exact k4 q hq h0 e
      · have := (hfk q hq h0).1
        omega
  · intro q hq
    rcases List.mem_append.1 hq with hq2 | hq2
    · exact ((h.frk q hq2).keep hB3 (fun h0 e => (h.kap q.bk e).2 q (by simp [hq2]) h0 rfl)).keep hbut (fun h0 e => (ho3.apart q (by simp [hq2]) h0).1 e)
    · exact (hfk q hq2).mono (by omega)
  · have h1 : But (fun k => v.ownBlock = some k) w w3 := h.but.trans hB3 (fun i hi e => by have := hkb i e; omega)
    exact h1.trans hbut (fun i hi e => by
      rcases h.vat with e2 | ⟨b, e2, hb⟩
      · exact e2 ▸ e
      · rw [e2] at e; cases e; omega)
  · rcases hvat with e | ⟨b, e, hb⟩
    · rw [e]; exact h.vat
    · exact Or.inr ⟨b, e, by omega⟩
theorem RpL.fin {tb : Bool} {N : Nat} {ls : List NdM} {W0 w : World} {v : Value} {ms : List NdM} {M : NdM} {ts : Ts} {ks : List Int} {j : Nat} {kv vj : Value} {msj : List NdM} {st : List Int} {rest : Ts} {wr : World}
    (h : RpL tb N ls W0 w v ms M ts ks j kv vj msj st rest wr) (hj : j = ks.length) (hsz : ms.length + 1 + ts.sz ≤ 100000) (hM : M.Ok) (hkl : ks.length ≤ 100000) :
    ∃ g n c u, vj = .slice (some ⟨g, 0, none⟩) n c ∧ ms.length < n ∧ n ≤ 100000 ∧ wr.cell? ⟨g, ms.length * 5 + 4, none⟩ = some u ∧ wr.frozen? ⟨g, ms.length * 5 + 4, none⟩ = false ∧
      PtR N v ms (.nd M.nd.k M.nd.r M.nd.p M.nd.m (ts.tns tb)) w (.returned vj) (wr.setCell ⟨g, ms.length * 5 + 4, none⟩ kv) := by
  have hfar := h.far
  rw [hj, List.drop_length] at hfar
  obtain ⟨hfl, hst⟩ := hfar.done
  have hszj : msj.length ≤ ts.sz := by have := hfar.sz; rw [nds_length] at this; omega
  obtain ⟨g, c, hv, hvb, hgN, hgl, hcell, hfz⟩ := h.out.some (by simp; omega)
  have hlen : (ms ++ M.bare :: msj).length = ms.length + 1 + msj.length := by simp; omega
  have hbits : ∀ k ∈ st, -9223372036854775808 ≤ k ∧ k ≤ 9223372036854775807 := by rw [hst]; exact starts_bits _ _ (by rw [Ts.tns_sz]; omega)
  obtain ⟨pk', bk', c', hkv, hKs, hkb⟩ := own_ks h.kown (by rw [h.stl]; omega) hbits
  obtain ⟨M', hM'⟩ : ∃ M' : NdM, M' = ⟨⟨M.nd.k, M.nd.r, M.nd.p, M.nd.m, st⟩, pk', bk', 0, c'⟩ := ⟨_, rfl⟩
  have hcu : ∃ u, wr.cell? ⟨g, ms.length * 5 + 4, none⟩ = some u := by
    have h1 := hcell (ms.length * 5 + 4) (by omega)
    have h2 := (nsC_at (ms ++ M.bare :: msj) ms.length (by omega)).2.2.2.2
    exact ⟨_, h1.trans h2⟩
  obtain ⟨u, hu⟩ := hcu
  have hB : But (fun q => q = g) wr (wr.setCell ⟨g, ms.length * 5 + 4, none⟩ kv) := (But.refl (fun q => q = g) wr).setCell (p := ⟨g, ms.length * 5 + 4, none⟩) (fun _ => rfl) _
  have hout := h.out
  have hkap := h.kap
  rw [hv] at hout
  have hmo : OutN N (fun _ => False) vj (ms ++ M' :: msj) (wr.setCell ⟨g, ms.length * 5 + 4, none⟩ kv) := by
    have := hout.setK (m' := M') (by rw [hM']; exact ⟨rfl, rfl, rfl, rfl⟩) (by rw [hM']; exact hKs) (by
      rw [hM']
      intro h0
      have hb := hkb h0
      exact ⟨fun e => (hkap bk' hb.2).1 (by rw [hvb, e]), fun e => e⟩)
    rw [hv, hkv]
    rw [hM'] at this ⊢
    exact this
  refine ⟨g, ms.length + 1 + msj.length, c, u, by rw [hv, hlen], by omega, by omega, hu, hfz _, vj, M' :: msj, rfl, hmo, ?_, ?_, ?_, h.vat⟩
  · rw [show nds (M' :: msj) = M'.nd :: nds msj from rfl, hfl, hM', hst]
    rfl
  · intro q hq
    rcases List.mem_cons.1 hq with rfl | hq
    · intro h0
      rw [hM'] at h0 ⊢
      have hb := hkb h0
      refine ⟨hb.1, ?_, fun o => ?_⟩
      · have := (h.kown.lt bk' hb.2).2
        simpa [World.setCell] using this
      · rw [World.frozen?_setCell]; exact own_unfrozen h.kown hb.2 o
    · exact (h.frk q hq).keep hB (fun h0 e => (h.out.apart q (by simp [hq]) h0).1 (by rw [hvb]; exact congrArg some e.symm))
  · exact h.but.trans hB (fun i hi e => by
      subst e
      rcases h.vat with e2 | ⟨b, e2, hb⟩
      · exact e2 ▸ hvb
      · rw [hvb] at e2; cases e2; omega)
theorem PtR.back {N : Nat} {v : Value} {ms : List NdM} {t : Tr} {w W1 : World} {e : Ending} {w' : World} (h : PtR N v ms t W1 e w') (hb : Below w.heap.size w W1) : PtR N v ms t w e w' := by
  obtain ⟨v', ms', h1, h2, h3, h4, h5, h6⟩ := h
  have hs := hb.size
  refine ⟨v', ms', h1, h2, h3, fun m hm => (h4 m hm).mono hs, (But.of_below hb).trans h5 (fun i _ e => e), ?_⟩
  rcases h6 with e | ⟨b, e, hb2⟩
  · exact Or.inl e
  · exact Or.inr ⟨b, e, by omega⟩
theorem bare_ks (M : NdM) (w : World) : KsIn M.bare.pk M.bare.bk M.bare.k0 M.bare.c M.bare.nd.ks w := ⟨fun h => absurd h (Nat.lt_irrefl 0), fun j hj => absurd hj (Nat.not_lt_zero _), Nat.le_refl 0, Nat.zero_le _, fun k hk => absurd hk (by simp [NdM.bare])⟩
theorem bare_ok {M : NdM} (h : M.Ok) : M.bare.Ok := ⟨h.k, h.r, h.p, h.m_⟩
theorem Ts.Ats_rv {ns : List Nd} {ts : Ts} {ks : List Int} (h : ts.Ats ns ks) (B : Prop) [Decidable B] : (if B then ts.rev else ts).Ats ns (if B then ks.reverse else ks) := by
  split
  · exact Ts.Ats_rev h
  · exact h
end Go.Proofs.YtmechinlaladiaaDoor
namespace Go.Proofs.YtmechinlaladiaaDoor
open Go.RowKit Go.Lib
set_option linter.unusedVariables false
theorem NsIn.cell {pn : Option Addr} {bn n0 : Nat} {ms : List NdM} {w : World} (h : NsIn pn bn n0 ms w) : ∀ i u, (nsC ms)[i]? = some u → w.cell? ⟨bn, n0 + i, none⟩ = some u := by
  intro i u hu
  have hi : i < ms.length * 5 := by
    have := (List.getElem?_eq_some_iff.1 hu).1
    rw [nsC_length] at this; exact this
  obtain ⟨j, hj⟩ : ∃ j, j = i / 5 := ⟨_, rfl⟩
  have hjl : j < ms.length := by omega
  obtain ⟨c0, c1, c2, c3, c4⟩ := nsC_at ms j hjl
  have hn := h.node j hjl
  have hm : i = j * 5 ∨ i = j * 5 + 1 ∨ i = j * 5 + 2 ∨ i = j * 5 + 3 ∨ i = j * 5 + 4 := by omega
  rcases hm with rfl | rfl | rfl | rfl | rfl
  · rw [c0] at hu; rw [hn.c0]; exact hu
  · rw [c1] at hu; rw [show n0 + (j * 5 + 1) = n0 + j * 5 + 1 by omega, hn.c1]; exact hu
  · rw [c2] at hu; rw [show n0 + (j * 5 + 2) = n0 + j * 5 + 2 by omega, hn.c2]; exact hu
  · rw [c3] at hu; rw [show n0 + (j * 5 + 3) = n0 + j * 5 + 3 by omega, hn.c3]; exact hu
  · rw [c4] at hu; rw [show n0 + (j * 5 + 4) = n0 + j * 5 + 4 by omega, hn.c4]; exact hu
theorem below_gn {w w' : World} {b : Nat} (h : w.grownBy w' (some b)) : Below b w w' → Below b w w' := fun h => h
theorem mem_getD {ms : List NdM} {m : NdM} (h : m ∈ ms) : ∃ j, j < ms.length ∧ ms.getD j default = m := by
  obtain ⟨j, hj, rfl⟩ := List.getElem_of_mem h
  exact ⟨j, hj, by rw [List.getD_eq_getElem?_getD, List.getElem?_eq_getElem hj]; rfl⟩
set_option maxHeartbeats 4000000 in
set_option maxRecDepth 100000 in
theorem cloneN_any (pn : Option Addr) (bn n0 c : Nat) (ms : List NdM) (w : World) (h : NsIn pn bn n0 ms w) (hl : ms.length ≤ 100000) :
    Calls Tryd.prog 37 #[.slice pn ms.length c] w fun e w' => ∃ o cv, e = .returned (.slice o ms.length cv) ∧ OutN w.heap.size (fun _ => False) (.slice o ms.length cv) ms w' ∧ Below w.heap.size w w' := by
  obtain ⟨n, hn⟩ : ∃ n, n = ms.length := ⟨_, rfl⟩
  cases pn with
  | none =>
    have h0 : ms = [] := by
      cases ms with
      | nil => rfl
      | cons a l => have := h.at_ (by simp); cases this
    subst h0
    have hnil := fun (W : World) (a : Option Addr) (n c : Nat) => Go.Lib.run_eql_slice_nil (P := Tryd.prog) W 22 36 a n c 0 0 Tryd.underlying22
    go_enter Tryd.func37, Tryd.ntmps37
    go_wp2_with fail
    go_ret
    exact ⟨none, 0, rfl, OutN.nil _ _ _, Below.refl _ _⟩
  | some ad =>
    obtain ⟨i0, hi, hz0, hz1, hz2⟩ := node_parts
    have hnews : ∀ W, Below w.heap.size w W → ∀ j u, (nsC ms)[j]? = some u → W.cell? (ad.add j) = some u := fun W hb j u hu => by
      have hj : 0 < ms.length := by
        have := (List.getElem?_eq_some_iff.1 hu).1
        rw [nsC_length] at this; omega
      have e := h.at_ hj
      cases e
      rw [show (⟨bn, n0, none⟩ : Addr).add j = ⟨bn, n0 + j, none⟩ from by simp [Addr.add]]
      exact (h.next hb).cell j u hu
    have hlen := nsC_length ms
    rw [← hn] at hlen hl ⊢
    have HI0 := Lib.hid hi; have HZ0 := Lib.hid hz0; have HZ1 := Lib.hid hz1; have HZ2 := Lib.hid hz2; have HNW := Lib.hid hnews; have HLN := Lib.hid hlen; have H := Lib.hid h; have HN := Lib.hid hn
    have hone := nsC_one ms
    have HO := Lib.hid hone
    obtain ⟨C, hC⟩ : ∃ C, C = nsC ms := ⟨_, rfl⟩
    rw [← hC] at HNW HLN HO
    have HC := Lib.hid hC
    clear hi hz0 hz1 hz2 hnews hlen h hn hone hC
    have hnil := fun (W : World) (a : Option Addr) (n c : Nat) => Go.Lib.run_eql_slice_nil (P := Tryd.prog) W 22 36 a n c 0 0 Tryd.underlying22
    go_enter Tryd.func37, Tryd.ntmps37
    go_wp2_with (at_builtin; refine wpList_append_own_at _ rfl (.tmp 5) (.tmp 6) 22 rfl w.heap.size 36 i0 (.agg #[.int .u8 0, .int .i32 0, .int .u32 0, .int .u32 0, .slice none 0 0]) 5 40 Tryd.underlying22 HI0.out HZ0.out HZ1.out HZ2.out rfl (by decide) (.slice (some ⟨w.heap.size, 0, none⟩) 0 0) 0 [] rfl (World.ownsRow_made w #[] 0 (Nat.le_refl _) (Nat.zero_le _) (by rfl)) ad n c C rfl HLN.out (HNW.out _ ((Below.refl _ _).alloc (Nat.le_refl _) _)) HO.out (by unfold maxLen; omega) (by omega) (by simp) ?_)
    intro v' w' hown hg _ hat
    obtain ⟨o, nv, cv, rfl⟩ : ∃ o n c, v' = .slice o n c := by obtain ⟨o, c, h⟩ := ownN_shape hown; exact ⟨o, _, c, h⟩
    have hnv : nv = n := by obtain ⟨o, c, h⟩ := ownN_shape hown; first | (injection h with _ h2 _; omega) | (injection h)
    subst hnv
    have hB : Below w.heap.size w w' := by
      have h1 : Below w.heap.size w (w.alloc (.cells #[] 36)) := (Below.refl _ _).alloc (Nat.le_refl _) _
      exact h1.grown hg (by simp) (fun k hk => by cases hk; exact Nat.le_refl _)
    have hout : OutN w.heap.size (fun _ => False) (.slice o nv cv) ms w' := by
      refine ⟨by rw [← HC.out, ← HN.out]; simpa using hown, fun m hm => ?_, fun m hm h0 => ⟨fun e => ?_, fun e => e⟩, fun m hm => ?_⟩
      · obtain ⟨j, hj, rfl⟩ := mem_getD hm
        exact (H.out.next hB).kids j hj
      · obtain ⟨j, hj, rfl⟩ := mem_getD hm
        have h1 := (H.out.kids j hj).lt h0
        have h2 := (hown.lt _ e).1
        omega
      · obtain ⟨j, hj, rfl⟩ := mem_getD hm
        exact H.out.ok j hj
    have HB := Lib.hid hB; have HOUT := Lib.hid hout
    clear hB hout hown hg hat
    go_wp2_with fail
    go_ret
    exact ⟨o, cv, rfl, HOUT.out, HB.out⟩
set_option maxHeartbeats 4000000 in
set_option maxRecDepth 100000 in
theorem cloneK_any (pk : Option Addr) (bk k0 c : Nat) (ks : List Int) (w : World) (h : KsIn pk bk k0 c ks w) (hl : ks.length ≤ 100000) :
    Calls Tryd.prog 38 #[.slice pk ks.length c] w fun e w' => ∃ o cv, e = .returned (.slice o ks.length cv) ∧ w'.ownsRow w.heap.size 3 1 (.slice o ks.length cv) ks.length (ks.map fun k => .int .i64 k) ∧ Below w.heap.size w w' := by
  obtain ⟨n, hn⟩ : ∃ n, n = ks.length := ⟨_, rfl⟩
  cases pk with
  | none =>
    have h0 : ks = [] := by
      cases ks with
      | nil => rfl
      | cons a l => have := h.at_ (by simp); cases this
    subst h0
    have hnil := fun (W : World) (a : Option Addr) (n c : Nat) => Go.Lib.run_eql_slice_nil (P := Tryd.prog) W 34 3 a n c 0 0 Tryd.underlying34
    go_enter Tryd.func38, Tryd.ntmps38
    go_wp2_with fail
    go_ret
    exact ⟨none, 0, rfl, World.ownsRow_nil _ _ _ _, Below.refl _ _⟩
  | some ad =>
    obtain ⟨i0, hi, hz0, hz1, hz2⟩ := info_parts int_info
    have hnews : ∀ W, Below w.heap.size w W → ∀ j u, (ks.map fun k => Value.int .i64 k)[j]? = some u → W.cell? (ad.add j) = some u := fun W hb j u hu => by
      have hj : j < ks.length := by simpa using (List.getElem?_eq_some_iff.1 hu).1
      have e := h.at_ (by omega)
      cases e
      rw [show (⟨bk, k0, none⟩ : Addr).add j = ⟨bk, k0 + j, none⟩ from by simp [Addr.add], (h.next hb).cells j hj, ← hu, List.getElem?_map, List.getD_eq_getElem?_getD, List.getElem?_eq_getElem hj]
      rfl
    have hlen : (ks.map fun k => Value.int .i64 k).length = ks.length * 1 := by simp
    rw [← hn] at hlen hl ⊢
    have hone : ∀ u ∈ (ks.map fun k => Value.int .i64 k), u.oneCell' = true := fun u hu => by obtain ⟨t, _, rfl⟩ := List.mem_map.1 hu; rfl
    have HI0 := Lib.hid hi; have HZ0 := Lib.hid hz0; have HZ1 := Lib.hid hz1; have HZ2 := Lib.hid hz2; have HNW := Lib.hid hnews; have HLN := Lib.hid hlen
    have HO := Lib.hid hone
    obtain ⟨C, hC⟩ : ∃ C, C = (ks.map fun k => Value.int .i64 k) := ⟨_, rfl⟩
    rw [← hC] at HNW HLN HO
    have HC := Lib.hid hC
    clear hi hz0 hz1 hz2 hnews hlen h hn hone hC
    have hnil := fun (W : World) (a : Option Addr) (n c : Nat) => Go.Lib.run_eql_slice_nil (P := Tryd.prog) W 34 3 a n c 0 0 Tryd.underlying34
    go_enter Tryd.func38, Tryd.ntmps38
    go_wp2_with (at_builtin; refine wpList_append_own_at _ rfl (.tmp 5) (.tmp 6) 34 rfl w.heap.size 3 i0 (.int .i64 0) 1 8 Tryd.underlying34 HI0.out HZ0.out HZ1.out HZ2.out rfl (by decide) (.slice (some ⟨w.heap.size, 0, none⟩) 0 0) 0 [] rfl (World.ownsRow_made w #[] 0 (Nat.le_refl _) (Nat.zero_le _) (by rfl)) ad n c C rfl HLN.out (HNW.out _ ((Below.refl _ _).alloc (Nat.le_refl _) _)) HO.out (by unfold maxLen; omega) (by omega) (by simp) ?_)
    intro v' w' hown hg _ hat
    obtain ⟨o, nv, cv, rfl⟩ : ∃ o n c, v' = .slice o n c := by obtain ⟨o, c, h⟩ := ownN_shape hown; exact ⟨o, _, c, h⟩
    have hnv : nv = n := by obtain ⟨o, c, h⟩ := ownN_shape hown; first | (injection h with _ h2 _; omega) | (injection h)
    subst hnv
    have hB : Below w.heap.size w w' := by
      have h1 : Below w.heap.size w (w.alloc (.cells #[] 3)) := (Below.refl _ _).alloc (Nat.le_refl _) _
      exact h1.grown hg (by simp) (fun k hk => by cases hk; exact Nat.le_refl _)
    have hout : w'.ownsRow w.heap.size 3 1 (.slice o nv cv) nv C := by simpa using hown
    have HB := Lib.hid hB; have HOUT := Lib.hid hout
    clear hB hout hown hg hat
    go_wp2_with fail
    go_ret
    exact ⟨o, cv, rfl, by rw [← HC.out]; exact HOUT.out, HB.out⟩
/-- Of a row, all behind j and ahead of i are turned round. -/
def RvTo (ks L : List Int) (i j : Int) : Prop := L.length = ks.length ∧ ∀ q : Nat, q < ks.length → L.getD q 0 = if (q : Int) < i ∨ j < (q : Int) then ks.getD (ks.length - 1 - q) 0 else ks.getD q 0
theorem rv_done {ks L : List Int} {i j : Int} (h : RvTo ks L i j) (hij : j ≤ i) (hs : i + j = (ks.length : Int) - 1) : L = ks.reverse := by
  apply List.ext_getElem (by rw [h.1, List.length_reverse])
  intro q h1 h2
  have hq : q < ks.length := by rw [← h.1]; exact h1
  have h3 := h.2 q hq
  rw [List.getD_eq_getElem?_getD, List.getElem?_eq_getElem h1] at h3
  rw [List.getElem_reverse]
  have h4 : L[q] = _ := h3
  rw [h4]
  split
  · rw [List.getD_eq_getElem?_getD, List.getElem?_eq_getElem (by omega)]; rfl
  · have e : ks.length - 1 - q = q := by omega
    rw [List.getD_eq_getElem?_getD, List.getElem?_eq_getElem hq]
    show ks[q] = _
    congr 1
    omega
theorem getD_set' (L : List Int) (i q : Nat) (x : Int) (hi : i < L.length) : (L.set i x).getD q 0 = if q = i then x else L.getD q 0 := by
  rw [List.getD_eq_getElem?_getD, List.getD_eq_getElem?_getD, List.getElem?_set]
  by_cases h : i = q
  · subst h; simp [hi]
  · rw [if_neg h, if_neg (fun e => h e.symm)]
theorem rv_step {ks L : List Int} {i j : Nat} (h : RvTo ks L i j) (hij : i < j) (hs : i + j = ks.length - 1) (hj : j < ks.length) :
    RvTo ks ((L.set i (L.getD j 0)).set j (L.getD i 0)) ((i : Int) + 1) ((j : Int) - 1) := by
  refine ⟨by simp [h.1], fun q hq => ?_⟩
  have hi1 := h.2 i (by omega)
  have hj1 := h.2 j hj
  have hq1 := h.2 q hq
  rw [if_neg (by omega)] at hi1 hj1
  rw [getD_set' _ _ _ _ (by simp [h.1]; omega), getD_set' _ _ _ _ (by rw [h.1]; omega)]
  by_cases e1 : q = j
  · rw [if_pos e1, hi1, if_pos (Or.inr (by omega)), e1]
    congr 1; omega
  · by_cases e2 : q = i
    · rw [if_neg e1, if_pos e2, hj1, if_pos (Or.inl (by omega)), e2]
      congr 1; omega
    · rw [if_neg e1, if_neg e2, hq1]
      by_cases e3 : (q : Int) < i ∨ (j : Int) < q
      · rw [if_pos e3, if_pos (by omega)]
      · rw [if_neg e3, if_neg (by omega)]
theorem own_int_at {w : World} {N n c : Nat} {o : Option Addr} {L : List Int} (h : w.ownsRow N 3 1 (.slice o n c) n (L.map fun k => .int .i64 k)) (h0 : 0 < n) : ∃ g, o = some ⟨g, 0, none⟩ ∧ N ≤ g ∧ g < w.heap.size ∧ (∀ q, q < n → w.cell? ⟨g, q, none⟩ = some (.int .i64 (L.getD q 0))) ∧ ∀ q, w.frozen? ⟨g, q, none⟩ = false := by
  have hl : L.length = n := by have := h.1; simpa using this
  rcases h.2 with ⟨e, hn⟩ | ⟨g, cap, cur, e, hg, hh, _⟩
  · omega
  · cases e
    refine ⟨g, rfl, hg, (Array.getElem?_eq_some_iff.1 hh).1, fun q hq => ?_, own_unfrozen h rfl⟩
    rw [h.cellAt q (by omega), List.getElem?_map, List.getD_eq_getElem?_getD, List.getElem?_eq_getElem (by omega)]
    rfl
theorem own_int_set {w : World} {N n c g : Nat} {L : List Int} (h : w.ownsRow N 3 1 (.slice (some ⟨g, 0, none⟩) n c) n (L.map fun k => .int .i64 k)) (i : Nat) (hi : i < n) (x : Int) : (w.setCell ⟨g, i, none⟩ (.int .i64 x)).ownsRow N 3 1 (.slice (some ⟨g, 0, none⟩) n c) n ((L.set i x).map fun k => .int .i64 k) := by
  rw [List.map_set]
  exact own_set h i (by omega) _
theorem own_drew {w : World} {N size n : Nat} {e : TypeId} {v : Value} {xs : List Value} (h : w.ownsRow N e size v n xs) : w.drew.ownsRow N e size v n xs := h
set_option maxHeartbeats 4000000 in
set_option maxRecDepth 100000 in
theorem revk_any (N : Nat) (o : Option Addr) (c : Nat) (ks : List Int) (w : World) (h : w.ownsRow N 3 1 (.slice o ks.length c) ks.length (ks.map fun k => .int .i64 k)) (hl : ks.length ≤ 100000) :
    Calls Tryd.prog 39 #[.slice o ks.length c] w fun e w' => e = .returned (.tuple #[]) ∧ w'.ownsRow N 3 1 (.slice o ks.length c) ks.length (ks.reverse.map fun k => .int .i64 k) ∧ But (fun k => (Value.slice o ks.length c).ownBlock = some k) w w' := by
  obtain ⟨n, hn⟩ : ∃ n, n = ks.length := ⟨_, rfl⟩
  rw [← hn] at h hl ⊢
  have H := Lib.hid h; have HN := Lib.hid hn
  clear h hn
  go_enter Tryd.func39, Tryd.ntmps39
  go_wp2_with fail
  go_loopw [2, 3] (fun iv jv wr => ∃ (i : Nat) (j : Int) (L : List Int), iv = .int .i64 i ∧ jv = .int .i64 j ∧ (i : Int) + j = (n : Int) - 1 ∧ (i : Int) ≤ j + 2 ∧ Hid (RvTo ks L i j) ∧ Hid (wr.ownsRow N 3 1 (.slice o n c) n (L.map fun k => .int .i64 k)) ∧ Hid (But (fun k => (Value.slice o n c).ownBlock = some k) w wr)) (fun iv jv _ => (intOf jv - intOf iv + 2).toNat)
  case atStart => exact ⟨0, (n : Int) - 1, ks, rfl, by go_num, by omega, by omega, Lib.hid ⟨rfl, fun q hq => by rw [if_neg (by have := HN.out; omega)]⟩, H, Lib.hid (But.refl _ _)⟩
  case round =>
    obtain ⟨i, j, L, rfl, rfl, hs, hij2, HR, HO, HB⟩ := hrel
    by_cases hij : (i : Int) < j
    · obtain ⟨j, rfl⟩ : ∃ q : Nat, j = (q : Int) := ⟨j.toNat, by omega⟩
      have hin : i < n := by omega
      have hjn : j < n := by omega
      obtain ⟨g, rfl, hgN, hgl, hcell, hfz⟩ := own_int_at HO.out (by omega)
      have c1 := hcell i hin
      have c2 := hcell j hjn
      have f1 := hfz i
      have f2 := hfz j
      have hne : ¬ i = j := by omega
      have hne2 : ¬ j = i := by omega
      have hrs := rv_step HR.out (by omega) (by have := HN.out; omega) (by have := HN.out; omega)
      obtain ⟨a, ha⟩ : ∃ z, z = L.getD i 0 := ⟨_, rfl⟩
      obtain ⟨b, hb⟩ : ∃ z, z = L.getD j 0 := ⟨_, rfl⟩
      rw [← ha] at c1 hrs
      rw [← hb] at c2 hrs
      have HRS := Lib.hid hrs
      have o1 := own_int_set (own_int_set HO.out i hin b) j hjn a
      have b1 := (HB.out.setCell (p := ⟨g, i, none⟩) (fun _ => rfl) (.int .i64 b)).setCell (p := ⟨g, j, none⟩) (fun _ => rfl) (.int .i64 a)
      have HO1 := Lib.hid o1; have HB1 := Lib.hid b1
      clear ha hb hrs o1 b1 hcell hfz
      go_wp2_with fail
      go_region
      go_wp2_with fail
      go_roundw
      case rel => exact ⟨i + 1, (j : Int) - 1, _, by go_num, by go_num, by omega, by omega, HRS, HO1, Lib.hid HB1.out.drew⟩
      case measure => simp [intOf]; omega
    · have hrv := rv_done HR.out (by omega) (by have := HN.out; omega)
      have HRV := Lib.hid hrv
      clear hrv
      go_wp2_with fail
      go_end0
      exact ⟨rfl, by rw [← List.map_reverse, ← HRV.out]; exact HO.out, HB.out⟩
end Go.Proofs.YtmechinlaladiaaDoor
namespace Go.Proofs.YtmechinlaladiaaDoor
open Go.RowKit Go.Lib
set_option linter.unusedVariables false
theorem one_node (k : Nat) (r : Int) (p m : Nat) (hk : k < 256) (hr : -2147483648 ≤ r ∧ r ≤ 2147483647) (hp : p < 4294967296) (hm : m < 4294967296) (w W : World) (hW : Below w.heap.size w W) (b : Nat) (hb : w.heap.size ≤ b) (hbl : b < W.heap.size) (cs : Array Value) (hcs : W.heap[b]? = some (.cells cs 36 (0, 0))) (hc5 : cs = #[.int .u8 k, .int .i32 r, .int .u32 p, .int .u32 m, .slice none 0 0]) :
    ∃ q : PtM, q.v = .agg #[.slice (some ⟨b, 0, none⟩) 1 1] ∧ nds q.ms = [⟨k, r, p, m, []⟩] ∧ Mine w.heap.size q W := by
  subst hc5
  obtain ⟨M, hM⟩ : ∃ M : NdM, M = ⟨⟨k, r, p, m, []⟩, none, 0, 0, 0⟩ := ⟨_, rfl⟩
  have hks : KsIn M.pk M.bk M.k0 M.c M.nd.ks W := by rw [hM]; exact ⟨fun h => absurd h (Nat.lt_irrefl 0), fun j hj => absurd hj (Nat.not_lt_zero _), Nat.le_refl 0, Nat.zero_le _, fun k hk => absurd hk (by simp)⟩
  have hl0 : ¬ 0 < M.nd.ks.length := by rw [hM]; exact Nat.lt_irrefl 0
  have hout : OutN w.heap.size (fun _ => False) (.slice (some ⟨b, 0, none⟩) 1 1) [M] W := by
    refine ⟨⟨by rw [nsC_length], Or.inr ⟨b, 1, _, rfl, hb, hcs, Nat.le_refl 1, by unfold maxLen; omega, rfl, ?_⟩⟩, fun q hq => ?_, fun q hq h0 => ?_, fun q hq => ?_⟩
    · rw [nsC_single, hM]; rfl
    · rw [List.mem_singleton.1 hq]; exact hks
    · rw [List.mem_singleton.1 hq] at h0; exact absurd h0 hl0
    · rw [List.mem_singleton.1 hq, hM]; exact ⟨hk, hr, hp, hm⟩
  obtain ⟨q, h1, h2, h3⟩ := mine_of hout (fun q hq h0 => by rw [List.mem_singleton.1 hq] at h0; exact absurd h0 hl0) (by simp)
  exact ⟨q, h1, by rw [h2, hM]; rfl, h3⟩
theorem MkPost.up {ns : List Nd} {w w1 : World} (hb : Below w.heap.size w w1) (hz : w.heap.size < w1.heap.size) {e : Ending} {w' : World} (h : MkPost ns w1 e w') : ∃ o n c, e = .returned (.agg #[.slice o n c]) ∧ Below w1.heap.size w1 w' ∧ ∀ u, MkPost ns w (.returned (.agg #[.slice o n c])) (w'.setCell ⟨w.heap.size, 0, none⟩ u) := by
  obtain ⟨q, rfl, h1, h2, h3⟩ := h
  refine ⟨q.pn, q.ms.length, q.c, rfl, h3, fun u => ⟨q, rfl, h1, ?_, ?_⟩⟩
  · have hb2 : But (fun k => k = w.heap.size) w' (w'.setCell ⟨w.heap.size, 0, none⟩ u) := (But.refl (fun k => k = w.heap.size) w').setCell (p := ⟨w.heap.size, 0, none⟩) (fun _ => rfl) _
    exact (h2.keep hb2 (fun k h1 h2 e => by omega)).lower hb.size
  · exact (hb.trans (h3.mono hb.size)).setCell (p := ⟨w.heap.size, 0, none⟩) (Nat.le_refl _) _
theorem MkPost2.up {err : Nat} {ns : List Nd} {w w1 : World} (hb : Below w.heap.size w w1) (hz : w.heap.size < w1.heap.size) {e : Ending} {w' : World} (h : MkPost2 err ns w1 e w') : ∃ o n c, e = .returned (.tuple #[.agg #[.slice o n c], .int .i64 err]) ∧ Below w1.heap.size w1 w' ∧ ∀ u, MkPost2 err ns w (.returned (.tuple #[.agg #[.slice o n c], .int .i64 err])) (w'.setCell ⟨w.heap.size, 0, none⟩ u) := by
  obtain ⟨q, rfl, h1, h2, h3⟩ := h
  refine ⟨q.pn, q.ms.length, q.c, rfl, h3, fun u => ⟨q, rfl, h1, ?_, ?_⟩⟩
  · have hb2 : But (fun k => k = w.heap.size) w' (w'.setCell ⟨w.heap.size, 0, none⟩ u) := (But.refl (fun k => k = w.heap.size) w').setCell (p := ⟨w.heap.size, 0, none⟩) (fun _ => rfl) _
    exact (h2.keep hb2 (fun k h1 h2 e => by omega)).lower hb.size
  · exact (hb.trans (h3.mono hb.size)).setCell (p := ⟨w.heap.size, 0, none⟩) (Nat.le_refl _) _
theorem MkPost2.down {err : Nat} {ns : List Nd} {w w1 : World} (hb : Below w.heap.size w w1) {e : Ending} {w' : World} (h : MkPost2 err ns w1 e w') : MkPost2 err ns w e w' := by
  obtain ⟨q, h0, h1, h2, h3⟩ := h
  exact ⟨q, h0, h1, h2.lower hb.size, hb.trans (h3.mono hb.size)⟩
def leafN (k : Nat) (r : Int) (p m : Nat) : List Nd := [⟨k, r, p, m, []⟩]
theorem leaf_end (k : Nat) (r : Int) (p m : Nat) (w : World) (hk : k < 256) (hr : -2147483648 ≤ r ∧ r ≤ 2147483647) (hp : p < 4294967296) (hm : m < 4294967296) :
    (((w.alloc (.cells #[.int .u8 k, .int .i32 r, .int .u32 p, .int .u32 m, .slice none 0 0] 36)).alloc (.cells #[.slice (some ⟨w.heap.size + 1 + 1, 0, none⟩) 1 1] 24)).alloc (.cells #[.int .u8 k, .int .i32 r, .int .u32 p, .int .u32 m, .slice none 0 0] 36)).cell? ⟨w.heap.size + 1, 0, none⟩ = some (.slice (some ⟨w.heap.size + 1 + 1, 0, none⟩) 1 1) ∧ MkPost (leafN k r p m) w (.returned (.agg #[.slice (some ⟨w.heap.size + 1 + 1, 0, none⟩) 1 1])) (((w.alloc (.cells #[.int .u8 k, .int .i32 r, .int .u32 p, .int .u32 m, .slice none 0 0] 36)).alloc (.cells #[.slice (some ⟨w.heap.size + 1 + 1, 0, none⟩) 1 1] 24)).alloc (.cells #[.int .u8 k, .int .i32 r, .int .u32 p, .int .u32 m, .slice none 0 0] 36)) := by
  obtain ⟨C, hC⟩ : ∃ C : Array Value, C = #[.int .u8 k, .int .i32 r, .int .u32 p, .int .u32 m, .slice none 0 0] := ⟨_, rfl⟩
  rw [← hC]
  obtain ⟨w1, hw1⟩ : ∃ w1, w1 = w.alloc (.cells C 36) := ⟨_, rfl⟩
  have hz1 : w1.heap.size = w.heap.size + 1 := by rw [hw1]; simp
  have hb1 : Below w.heap.size w w1 := by rw [hw1]; exact (Below.refl _ _).alloc (Nat.le_refl _) _
  rw [← hw1]
  obtain ⟨w2, hw2⟩ : ∃ w2, w2 = w1.alloc (.cells #[.slice (some ⟨w.heap.size + 1 + 1, 0, none⟩) 1 1] 24) := ⟨_, rfl⟩
  have hz2 : w2.heap.size = w.heap.size + 1 + 1 := by rw [hw2]; simp [hz1]
  have hb2 : Below w.heap.size w w2 := by rw [hw2]; exact hb1.alloc (by omega) _
  have hc2 : w2.cell? ⟨w.heap.size + 1, 0, none⟩ = some (.slice (some ⟨w.heap.size + 1 + 1, 0, none⟩) 1 1) := by
    rw [hw2, ← hz1, World.cell?_alloc_mark]; rfl
  rw [← hw2]
  have hb3 : Below w2.heap.size w2 (w2.alloc (.cells C 36)) := (Below.refl _ _).alloc (Nat.le_refl _) _
  refine ⟨(hb3.cell (p := ⟨w.heap.size + 1, 0, none⟩) (by show w.heap.size + 1 < _; omega)).trans hc2, ?_⟩
  have hB := hb2.trans (hb3.mono (by omega))
  obtain ⟨q, h1, h2, h3⟩ := one_node k r p m hk hr hp hm w (w2.alloc (.cells C 36)) hB (w.heap.size + 1 + 1) (by omega) (by simp; omega) C (by rw [← hz2]; exact heap_alloc_new w2 _) hC
  exact ⟨q, by rw [h1], h2, h3, hB⟩
set_option maxHeartbeats 4000000 in
set_option maxRecDepth 100000 in
theorem single_any (k : Nat) (r : Int) (p m : Nat) (w : World) (hk : k < 256) (hr : -2147483648 ≤ r ∧ r ≤ 2147483647) (hp : p < 4294967296) (hm : m < 4294967296) :
    Calls Tryd.prog 19 #[.agg #[.int .u8 k, .int .i32 r, .int .u32 p, .int .u32 m, .slice none 0 0]] w (MkPost (leafN k r p m) w) := by
  have HE := Lib.hid (leaf_end k r p m w hk hr hp hm)
  clear hk hr hp hm
  go_enter Tryd.func19, Tryd.ntmps19
  go_wp2_with fail
  have c0 := HE.out.1
  refine bodyPost_ret (v := .agg #[.slice (some ⟨w.heap.size + 1 + 1, 0, none⟩) 1 1]) (by simp [results, Tryd.results19, go_sem, *]) rfl ?_
  exact HE.out.2
set_option maxHeartbeats 4000000 in
set_option maxRecDepth 100000 in
theorem prune_any (r : Int) (hr : -2147483648 ≤ r ∧ r ≤ 2147483647) (w : World) : Calls Tryd.prog 8 #[.int .i32 r] w (MkPost (leafN 2 r 0 0) w) := by
  have k1 := fun W => single_any 2 r 0 0 W (by decide) hr (by decide) (by decide)
  have HK := Lib.hid k1
  have HUP := Lib.hid (fun (w1 : World) (hb : Below w.heap.size w w1) (hz : w.heap.size < w1.heap.size) e w' (h : MkPost (leafN 2 r 0 0) w1 e w') => h.up hb hz)
  clear k1
  go_enter Tryd.func8, Tryd.ntmps8
  go_wp2_with fail
  refine (HK.out _).mono ?_
  intro e w' hpost
  obtain ⟨o, n, c, rfl, hb, hR⟩ := HUP.out _ ((Below.refl _ _).alloc (Nat.le_refl _) _) (by simp) e w' hpost
  have c0 := (hb.cell (p := ⟨w.heap.size, 0, none⟩) (by simp)).trans (show _ = some (Value.slice none 0 0) by simp)
  have f0 := (hb.frozen (p := ⟨w.heap.size, 0, none⟩) (by simp)).trans (show _ = false by simp)
  have HR := Lib.hid hR
  clear hR hb hpost HK HUP
  go_wp2_with fail
  refine bodyPost_ret (v := .agg #[.slice o n c]) (by simp [results, Tryd.results8, go_sem, *]) rfl ?_
  exact HR.out _
end Go.Proofs.YtmechinlaladiaaDoor
