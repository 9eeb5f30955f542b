/-
  WALKS: cognateref04.put, by induction on the tree.
-/
import Derived.Test.YtnlojgomildajaaPtr
namespace Go.Proofs.Ytnlojgomildajaa
open Go.RowKit Go.Lib
set_option linter.unusedVariables false

/-- A node without kids. -/
def NdM.bare (M : NdM) : NdM := ⟨⟨M.nd.k, M.nd.r, M.nd.p, M.nd.m, []⟩, none, 0, 0, 0⟩
/-- put's loop: j kids are put. -/
structure RpL (tb : Bool) (N : Nat) (ls : List NdM) (W0 w : World) (v : Value) (ms : List NdM) (M : NdM) (ts : Ts) (ks : List Int) (j : Nat) (kv vj : Value) (msj : List NdM) (st : List Int) (rest : Ts) (wr : World) : Prop where
  below : Below N W0 wr
  out : OutN N (fun _ => False) vj (ms ++ M.bare :: msj) wr
  far : Sofar tb (nds ls) (ms.length + 1) ts (nds msj) st rest (ks.drop j)
  stl : st.length = j
  kown : wr.ownsRow w.heap.size 3 1 kv st.length (st.map fun k => .int .i64 k)
  kap : ∀ b, kv.ownBlock = some b → ¬ vj.ownBlock = some b ∧ ∀ q ∈ ms ++ M.bare :: msj, 0 < q.nd.ks.length → ¬ q.bk = b
  frk : ∀ q ∈ msj, FrK w.heap.size q wr
  but : But (fun k => v.ownBlock = some k) w wr
  vat : vj.ownBlock = v.ownBlock ∨ ∃ b, vj.ownBlock = some b ∧ w.heap.size ≤ b
theorem RpL.step {tb : Bool} {N : Nat} {ls : List NdM} {W0 w : World} {v : Value} {ms : List NdM} {M : NdM} {ts : Ts} {ks : List Int} {j : Nat} {kv vj : Value} {msj : List NdM} {st : List Int} {rest : Ts} {wr : World} {s : Nat}
    (h : RpL tb N ls W0 w v ms M ts ks j kv vj msj st rest wr) (hw : W0.heap.size = N) (hNw : N ≤ w.heap.size) (hj : j < ks.length) (hts : ts.sz ≤ s) (hsz : ms.length + 1 + ts.sz ≤ 100000) :
    ∃ (t1 : Tr) (z : Nat), t1.At (nds ls) (ks.getD j 0) ∧ t1.sz ≤ s ∧ z ≤ 100000 ∧ (∃ o c, vj = .slice o z c) ∧ (ms ++ M.bare :: msj).length + t1.sz ≤ 100000 ∧
      ∀ o kv' w3, w3.ownsRow w.heap.size 3 1 kv' (st ++ [(z : Int)]).length ((st ++ [(z : Int)]).map fun k => .int .i64 k) → (wr.alloc o).grownBy w3 kv.ownBlock → (kv'.ownBlock = kv.ownBlock ∨ kv'.ownBlock = some (wr.alloc o).heap.size) →
        Below N W0 w3 ∧ OutN N (fun _ => False) vj (ms ++ M.bare :: msj) w3 ∧ ∀ e w4, PtR N vj (ms ++ M.bare :: msj) (t1.tn tb) w3 e w4 →
          ∃ vj' msj' rest', e = .returned vj' ∧ RpL tb N ls W0 w v ms M ts ks (j + 1) kv' vj' msj' (st ++ [(z : Int)]) rest' w4 := by
  have hsw := h.but.size
  have hfar := h.far
  rw [List.drop_eq_getElem_cons hj] at hfar
  obtain ⟨t1, rest', hat, hle, hf2⟩ := hfar.step
  have hks : ks[j] = ks.getD j 0 := by rw [List.getD_eq_getElem?_getD, List.getElem?_eq_getElem hj]; rfl
  rw [hks] at hat
  have hlp : (nds msj).length = msj.length := nds_length msj
  have hlen : (ms ++ M.bare :: msj).length = ms.length + 1 + msj.length := by simp; omega
  refine ⟨t1, ms.length + 1 + msj.length, hat, by omega, by omega, by obtain ⟨o, c, e⟩ := h.out.len; exact ⟨o, c, by rw [e, hlen]⟩, by omega, ?_⟩
  intro o kv' w3 hk3 hg3 hat3
  have hkb : ∀ b, kv.ownBlock = some b → w.heap.size ≤ b ∧ b < wr.heap.size := fun b hb => h.kown.lt b hb
  have hB3 : But (fun q => kv.ownBlock = some q) wr w3 := (But.refl (fun q => kv.ownBlock = some q) wr).alloc o |>.trans (But.of_grown hg3 (fun k e => e)) (fun i _ e => e)
  have hs3 := hB3.size
  have hbel : Below N W0 w3 := h.below.trans (hB3.below (by omega) (fun k hk e => by have := hkb k e; omega))
  have ho3 : OutN N (fun _ => False) vj (ms ++ M.bare :: msj) w3 := h.out.keep hB3 (fun k e hk => (h.kap k hk).1 e) (fun q hq h0 e => (h.kap q.bk e).2 q hq h0 rfl)
  refine ⟨hbel, ho3, ?_⟩
  rintro e w4 ⟨v', ms', rfl, hout, hnd, hfk, hbut, hvat⟩
  have hs4 := hbut.size
  have hk'b : ∀ b, kv'.ownBlock = some b → w.heap.size ≤ b ∧ b < w3.heap.size ∧ ¬ vj.ownBlock = some b ∧ ∀ q ∈ ms ++ M.bare :: msj, 0 < q.nd.ks.length → ¬ q.bk = b := fun b hb => by
    have h1 := hk3.lt b hb
    rcases hat3 with e | e
    · rw [e] at hb
      exact ⟨h1.1, h1.2, h.kap b hb⟩
    · rw [e] at hb
      cases hb
      refine ⟨h1.1, h1.2, fun e2 => ?_, fun q hq h0 e2 => ?_⟩
      · have := (h.out.own.lt _ e2).2
        simp at this
        omega
      · have := (h.out.kids q hq).lt h0
        simp at e2
        omega
  have hv'b : ∀ b, v'.ownBlock = some b → vj.ownBlock = some b ∨ w3.heap.size ≤ b := fun b hb => by
    rcases hvat with e | ⟨b', e, hle'⟩
    · exact Or.inl (e ▸ hb)
    · rw [e] at hb; cases hb; exact Or.inr hle'
  have happ : ms ++ M.bare :: (msj ++ ms') = (ms ++ M.bare :: msj) ++ ms' := by simp
  refine ⟨v', msj ++ ms', rest', rfl, ?_, by rw [happ]; exact hout, ?_, ?_, own_keep hk3 hbut (fun k e => (hk'b k e).2.2.1), ?_, ?_, ?_, ?_⟩
  · exact hbel.trans (hbut.below (by omega) (fun k hk e => by have := (h.out.own.lt k e).1; omega))
  · rw [nds_app, hnd, show ((ms.length + 1 + msj.length : Nat) : Int) = ((ms.length + 1 + (nds msj).length : Nat) : Int) by rw [hlp], hlen, ← hlp]
    exact hf2
  · rw [List.length_append, h.stl]; rfl
  · intro b hb
    obtain ⟨k1, k2, k3, k4⟩ := hk'b b hb
    rw [happ]
    refine ⟨fun e => ?_, fun q hq h0 e => ?_⟩
    · rcases hv'b b e with e2 | e2
      · exact k3 e2
      · omega
    · rcases List.mem_append.1 hq with hq | hq
      · exact k4 q hq h0 e
      · have := (hfk q hq h0).1
        omega
  · intro q hq
    rcases List.mem_append.1 hq with hq2 | hq2
    · exact ((h.frk q hq2).keep hB3 (fun h0 e => (h.kap q.bk e).2 q (by simp [hq2]) h0 rfl)).keep hbut (fun h0 e => (ho3.apart q (by simp [hq2]) h0).1 e)
    · exact (hfk q hq2).mono (by omega)
  · have h1 : But (fun k => v.ownBlock = some k) w w3 := h.but.trans hB3 (fun i hi e => by have := hkb i e; omega)
    exact h1.trans hbut (fun i hi e => by
      rcases h.vat with e2 | ⟨b, e2, hb⟩
      · exact e2 ▸ e
      · rw [e2] at e; cases e; omega)
  · rcases hvat with e | ⟨b, e, hb⟩
    · rw [e]; exact h.vat
    · exact Or.inr ⟨b, e, by omega⟩
theorem RpL.fin {tb : Bool} {N : Nat} {ls : List NdM} {W0 w : World} {v : Value} {ms : List NdM} {M : NdM} {ts : Ts} {ks : List Int} {j : Nat} {kv vj : Value} {msj : List NdM} {st : List Int} {rest : Ts} {wr : World}
    (h : RpL tb N ls W0 w v ms M ts ks j kv vj msj st rest wr) (hj : j = ks.length) (hsz : ms.length + 1 + ts.sz ≤ 100000) (hM : M.Ok) (hkl : ks.length ≤ 100000) :
    ∃ g n c u, vj = .slice (some ⟨g, 0, none⟩) n c ∧ ms.length < n ∧ n ≤ 100000 ∧ wr.cell? ⟨g, ms.length * 5 + 4, none⟩ = some u ∧ wr.frozen? ⟨g, ms.length * 5 + 4, none⟩ = false ∧
      PtR N v ms (.nd M.nd.k M.nd.r M.nd.p M.nd.m (ts.tns tb)) w (.returned vj) (wr.setCell ⟨g, ms.length * 5 + 4, none⟩ kv) := by
  have hfar := h.far
  rw [hj, List.drop_length] at hfar
  obtain ⟨hfl, hst⟩ := hfar.done
  have hszj : msj.length ≤ ts.sz := by have := hfar.sz; rw [nds_length] at this; omega
  obtain ⟨g, c, hv, hvb, hgN, hgl, hcell, hfz⟩ := h.out.some (by simp; omega)
  have hlen : (ms ++ M.bare :: msj).length = ms.length + 1 + msj.length := by simp; omega
  have hbits : ∀ k ∈ st, -9223372036854775808 ≤ k ∧ k ≤ 9223372036854775807 := by rw [hst]; exact starts_bits _ _ (by rw [Ts.tns_sz]; omega)
  obtain ⟨pk', bk', c', hkv, hKs, hkb⟩ := own_ks h.kown (by rw [h.stl]; omega) hbits
  obtain ⟨M', hM'⟩ : ∃ M' : NdM, M' = ⟨⟨M.nd.k, M.nd.r, M.nd.p, M.nd.m, st⟩, pk', bk', 0, c'⟩ := ⟨_, rfl⟩
  have hcu : ∃ u, wr.cell? ⟨g, ms.length * 5 + 4, none⟩ = some u := by
    have h1 := hcell (ms.length * 5 + 4) (by omega)
    have h2 := (nsC_at (ms ++ M.bare :: msj) ms.length (by omega)).2.2.2.2
    exact ⟨_, h1.trans h2⟩
  obtain ⟨u, hu⟩ := hcu
  have hB : But (fun q => q = g) wr (wr.setCell ⟨g, ms.length * 5 + 4, none⟩ kv) := (But.refl (fun q => q = g) wr).setCell (p := ⟨g, ms.length * 5 + 4, none⟩) (fun _ => rfl) _
  have hout := h.out
  have hkap := h.kap
  rw [hv] at hout
  have hmo : OutN N (fun _ => False) vj (ms ++ M' :: msj) (wr.setCell ⟨g, ms.length * 5 + 4, none⟩ kv) := by
    have := hout.setK (m' := M') (by rw [hM']; exact ⟨rfl, rfl, rfl, rfl⟩) (by rw [hM']; exact hKs) (by
      rw [hM']
      intro h0
      have hb := hkb h0
      exact ⟨fun e => (hkap bk' hb.2).1 (by rw [hvb, e]), fun e => e⟩)
    rw [hv, hkv]
    rw [hM'] at this ⊢
    exact this
  refine ⟨g, ms.length + 1 + msj.length, c, u, by rw [hv, hlen], by omega, by omega, hu, hfz _, vj, M' :: msj, rfl, hmo, ?_, ?_, ?_, h.vat⟩
  · rw [show nds (M' :: msj) = M'.nd :: nds msj from rfl, hfl, hM', hst]
    rfl
  · intro q hq
    rcases List.mem_cons.1 hq with rfl | hq
    · intro h0
      rw [hM'] at h0 ⊢
      have hb := hkb h0
      refine ⟨hb.1, ?_, fun o => ?_⟩
      · have := (h.kown.lt bk' hb.2).2
        simpa [World.setCell] using this
      · rw [World.frozen?_setCell]; exact own_unfrozen h.kown hb.2 o
    · exact (h.frk q hq).keep hB (fun h0 e => (h.out.apart q (by simp [hq]) h0).1 (by rw [hvb]; exact congrArg some e.symm))
  · exact h.but.trans hB (fun i hi e => by
      subst e
      rcases h.vat with e2 | ⟨b, e2, hb⟩
      · exact e2 ▸ hvb
      · rw [hvb] at e2; cases e2; omega)
theorem PtR.back {N : Nat} {v : Value} {ms : List NdM} {t : Tr} {w W1 : World} {e : Ending} {w' : World} (h : PtR N v ms t W1 e w') (hb : Below w.heap.size w W1) : PtR N v ms t w e w' := by
  obtain ⟨v', ms', h1, h2, h3, h4, h5, h6⟩ := h
  have hs := hb.size
  refine ⟨v', ms', h1, h2, h3, fun m hm => (h4 m hm).mono hs, (But.of_below hb).trans h5 (fun i _ e => e), ?_⟩
  rcases h6 with e | ⟨b, e, hb2⟩
  · exact Or.inl e
  · exact Or.inr ⟨b, e, by omega⟩
theorem bare_ks (M : NdM) (w : World) : KsIn M.bare.pk M.bare.bk M.bare.k0 M.bare.c M.bare.nd.ks w := ⟨fun h => absurd h (Nat.lt_irrefl 0), fun j hj => absurd hj (Nat.not_lt_zero _), Nat.le_refl 0, Nat.zero_le _, fun k hk => absurd hk (by simp [NdM.bare])⟩
theorem bare_ok {M : NdM} (h : M.Ok) : M.bare.Ok := ⟨h.k, h.r, h.p, h.m_⟩
theorem Ts.Ats_rv {ns : List Nd} {ts : Ts} {ks : List Int} (h : ts.Ats ns ks) (B : Prop) [Decidable B] : (if B then ts.rev else ts).Ats ns (if B then ks.reverse else ks) := by
  split
  · exact Ts.Ats_rev h
  · exact h
set_option maxHeartbeats 8000000 in
set_option maxRecDepth 100000 in
theorem rput_any (tb : Bool) (N : Nat) (pn : Option Addr) (bn n0 cl : Nat) (ls : List NdM) (W0 : World) (hW0 : W0.heap.size = N) (hIn : NsIn pn bn n0 ls W0) :
    ∀ (s : Nat) (t : Tr), t.sz ≤ s → ∀ (i : Int) (w : World) (v : Value) (ms : List NdM), Below N W0 w → OutN N (fun _ => False) v ms w → t.At (nds ls) i → ms.length + t.sz ≤ 100000 →
      Calls Try.prog 34 #[v, .slice pn ls.length cl, .int .i64 i, .bool tb] w (PtR N v ms (t.tn tb) w) := by
  intro s
  induction s with
  | zero => intro t ht; cases t; simp [Tr.sz] at ht
  | succ s ih =>
  intro t ht i w v ms hB hout hat hsz
  obtain ⟨k, r, p, m, ts⟩ := t
  obtain ⟨hi0, nd, hnd, rfl, rfl, rfl, rfl, hats⟩ := hat
  obtain ⟨x, rfl⟩ : ∃ x : Nat, i = (x : Int) := ⟨i.toNat, by omega⟩
  rw [show ((x : Int)).toNat = x from rfl] at hnd
  have hxl : x < ls.length := by
    have := (List.getElem?_eq_some_iff.1 hnd).1
    rwa [nds_length] at this
  obtain ⟨M, hM⟩ : ∃ M, M = ls.getD x default := ⟨_, rfl⟩
  have hMn : M.nd = nd := by
    have h1 := nds_at ls x hxl
    rw [List.getElem?_eq_getElem (by rw [nds_length]; exact hxl)] at hnd
    rw [hM, ← h1]
    exact Option.some.inj hnd
  subst hMn
  have hNw : N ≤ w.heap.size := by have := hB.size; omega
  have hNI : NsIn pn bn n0 ls w := hIn.next (hB.mono (by omega))
  obtain ⟨b0, b1, b2, b3, b4⟩ := hNI.node x hxl
  have hk := hNI.kids x hxl
  have hok := hNI.ok x hxl
  obtain rfl : pn = some ⟨bn, n0, none⟩ := hNI.at_ (by omega)
  rw [← hM] at b0 b1 b2 b3 b4 hk hok
  obtain ⟨ov, nv, cv, rfl⟩ : ∃ o n c, v = .slice o n c := by obtain ⟨o, c, h⟩ := hout.len; exact ⟨o, _, c, h⟩
  have hnv : nv = ms.length := by obtain ⟨o, c, h⟩ := hout.len; injection h
  have hzb := blk_of_cell b0
  obtain ⟨nl, hnl⟩ : ∃ n, n = ls.length := ⟨_, rfl⟩
  obtain ⟨nk, hnk⟩ : ∃ n, n = M.nd.ks.length := ⟨_, rfl⟩
  obtain ⟨pk, hpk⟩ : ∃ n, n = M.pk := ⟨_, rfl⟩
  obtain ⟨ck, hck⟩ : ∃ n, n = M.c := ⟨_, rfl⟩
  have hnk5 : nk ≤ 100000 := by have h1 := Ts.Ats_length hats; have h2 := Ts.len_le ts; simp only [Tr.sz] at hsz; omega
  have hbig := hNI.big
  rw [← hnl] at hxl hbig ⊢
  rw [← hnk, ← hpk, ← hck] at b4
  rw [Tr.tn_nd]
  obtain ⟨us, hus⟩ : ∃ us, us = (if tb = true ∧ M.nd.k = 6 then ts.rev else ts) := ⟨_, rfl⟩
  obtain ⟨ks, hks⟩ : ∃ ks, ks = (if tb = true ∧ M.nd.k = 6 then M.nd.ks.reverse else M.nd.ks) := ⟨_, rfl⟩
  have hats2 : us.Ats (nds ls) ks := by rw [hus, hks]; exact Ts.Ats_rv hats _
  have hussz : us.sz = ts.sz := by rw [hus]; split <;> simp [Ts.rev_sz]
  have hksl : ks.length = nk := by rw [hks, hnk]; split <;> simp
  have hkj : ∀ j, j < nk → ks.getD j 0 = (if tb = true ∧ M.nd.k = 6 then M.nd.ks.getD (nk - 1 - j) 0 else M.nd.ks.getD j 0) := fun j hj => by
    rw [hks]
    split
    · rw [List.getD_eq_getElem?_getD, List.getD_eq_getElem?_getD, List.getElem?_reverse (by rw [← hnk]; exact hj), ← hnk]
    · rfl
  rw [← hus]
  simp only [Tr.sz] at ht hsz
  have HBW := Lib.hid hB
  have HIH := Lib.hid ih; have HOUT := Lib.hid hout; have HATS := Lib.hid hats2; have HSZ := Lib.hid hsz; have HNI := Lib.hid hNI; have HK := Lib.hid hk; have HOK := Lib.hid hok; have HM := Lib.hid hM
  have HNL := Lib.hid hnl; have HNK := Lib.hid hnk; have HT := Lib.hid ht; have HN := Lib.hid hW0; have HPK := Lib.hid hpk; have HI0 := Lib.hid hIn; have HUS := Lib.hid hussz; have HKL := Lib.hid hksl; have HKJ := Lib.hid hkj; have HNW := Lib.hid hNw; have HNV := Lib.hid hnv
  have HCK := Lib.hid hck
  clear ih hB hout hats hats2 hsz hNI hk hok hM hnl hnk ht hW0 hpk hIn hussz hksl hkj hNw hnv hus hks hnd hi0 hck
  go_enter Try.func34, Try.ntmps34
  have hB1 : Below w.heap.size w (w.alloc (.cells #[.int .u8 M.nd.k, .int .i32 M.nd.r, .int .u32 M.nd.p, .int .u32 M.nd.m, .slice none 0 0] 42)) := (Below.refl _ _).alloc (Nat.le_refl _) _
  have q0 : (w.alloc (.cells #[.int .u8 M.nd.k, .int .i32 M.nd.r, .int .u32 M.nd.p, .int .u32 M.nd.m, .slice none 0 0] 42)).cell? ⟨w.heap.size, 0, none⟩ = some (.int .u8 M.nd.k) := by simp
  have hz1 : (w.alloc (.cells #[.int .u8 M.nd.k, .int .i32 M.nd.r, .int .u32 M.nd.p, .int .u32 M.nd.m, .slice none 0 0] 42)).heap.size = w.heap.size + 1 := by simp
  have hout1 := HOUT.out.next hB1
  have HB1 := Lib.hid hB1; have HZ1 := Lib.hid hz1; have HOUT1 := Lib.hid hout1; have Q0 := Lib.hid q0
  have HPR : Hid (∀ (W1 : World), W1 = w.alloc (.cells #[.int .u8 M.nd.k, .int .i32 M.nd.r, .int .u32 M.nd.p, .int .u32 M.nd.m, .slice none 0 0] 42) → ∀ e w', PtR N (.slice ov nv cv) ms (.nd M.nd.k M.nd.r M.nd.p M.nd.m (us.tns tb)) W1 e w' → PtR N (.slice ov nv cv) ms (.nd M.nd.k M.nd.r M.nd.p M.nd.m (us.tns tb)) w e w') := Lib.hid (fun W1 hW e w' h => h.back (hW ▸ HB1.out))
  clear hB1 q0 hz1 hout1
  go_wp2_with (at_builtin; refine app_nd rfl (.tmp 24) (.tmp 26) rfl N (fun _ => False) (.slice ov nv cv) ms rfl (HOUT1.out.next ((Below.refl _ _).alloc (Nat.le_refl _) _)) ⟨w.heap.size + 1, 0, none⟩ M.bare rfl (by have h := lit_news M.bare (w.alloc (.cells #[.int .u8 M.nd.k, .int .i32 M.nd.r, .int .u32 M.nd.p, .int .u32 M.nd.m, .slice none 0 0] 42)) none 0 rfl rfl; rw [HZ1.out] at h; exact h) (bare_ks M _) (fun h0 => absurd h0 (Nat.lt_irrefl 0)) (bare_ok HOK.out) (by have := HSZ.out; omega) (by have := HNW.out; simp; omega) ?_)
  intro v4 w4 ho4 hg4 hat4
  obtain ⟨W1, hW1⟩ : ∃ W1, W1 = w.alloc (.cells #[.int .u8 M.nd.k, .int .i32 M.nd.r, .int .u32 M.nd.p, .int .u32 M.nd.m, .slice none 0 0] 42) := ⟨_, rfl⟩
  have hPR := HPR.out W1 hW1
  have hz1 := HZ1.out; have hb1 := HB1.out; have hq0 := Q0.out
  rw [← hW1] at hg4 hz1 hb1 hq0
  clear hW1 HPR HB1 HZ1 HOUT1 Q0
  have hvb : ∀ b, (Value.slice ov nv cv).ownBlock = some b → N ≤ b ∧ b < w.heap.size := fun b hb => HOUT.out.own.lt b hb
  have hB2 : But (fun q => (Value.slice ov nv cv).ownBlock = some q) W1 w4 := ((But.refl (fun q => (Value.slice ov nv cv).ownBlock = some q) W1).alloc _).trans (But.of_grown hg4 (fun k e => e)) (fun i _ e => e)
  have hs4 := hB2.size
  have hbel4 : Below N W0 w4 := (HBW.out.trans (hb1.mono HNW.out)).trans (hB2.below (by have := HNW.out; omega) (fun k hk e => by have := hvb k e; omega))
  have hst : RpL tb N ls W0 W1 (.slice ov nv cv) ms M us ks 0 (.slice none 0 0) v4 [] [] us w4 := by
    refine ⟨hbel4, ho4, Sofar.start HATS.out, rfl, World.ownsRow_nil _ _ _ _, fun b hb => (by cases hb), fun q hq => (by cases hq), hB2, ?_⟩
    rcases hat4 with e | e
    · exact Or.inl e
    · refine Or.inr ⟨_, e, ?_⟩
      (try simp only [World.size_alloc])
      omega
  have HST := Lib.hid hst; have HPR := Lib.hid hPR; have HVB := Lib.hid hvb; have HZ1 := Lib.hid hz1; have Q0 := Lib.hid hq0
  have hNW1 : N ≤ W1.heap.size := by have := HNW.out; omega
  have HNW1 := Lib.hid hNW1
  clear ho4 hg4 hat4 hb1 hvb hB2 hs4 hbel4 hst hPR hz1 hq0 hNW1 HOUT b0 b1 b2 b3 b4 hzb
  go_wp2_with fail
  go_loopw [0, 12, 13] (fun tv kv iv wr => ∃ (j : Nat) (msj : List NdM) (st : List Int) (rest : Ts), iv = .int .i64 j ∧ j ≤ nk ∧ Hid (RpL tb N ls W0 W1 (.slice ov nv cv) ms M us ks j kv tv msj st rest wr)) (fun _ _ iv _ => nk - (intOf iv).toNat)
  case atStart => exact ⟨0, [], [], us, rfl, by omega, HST⟩
  case round =>
    clear HST
    obtain ⟨j, msj, st, rest, rfl, hjk, HP⟩ := hrel
    obtain ⟨ok, nkv, ckv, rfl⟩ : ∃ o n c, u12 = .slice o n c := by obtain ⟨o, c, h⟩ := ownN_shape HP.out.kown; exact ⟨o, _, c, h⟩
    have hts : us.sz ≤ s := by have := HT.out; have := HUS.out; omega
    have hss : ms.length + 1 + us.sz ≤ 100000 := by have := HSZ.out; have := HUS.out; omega
    by_cases hjl : j < nk
    · obtain ⟨t1, z, hat1, hs1, hz5, ⟨oz, cz, rfl⟩, hsz1, hstep⟩ := HP.out.step HN.out HNW1.out (by rw [HKL.out]; exact hjl) hts hss
      have hkw := (HI0.out.next ((HP.out.below).mono (by have := HN.out; omega))).kids x (by rw [← HNL.out]; exact hxl)
      rw [← HM.out] at hkw
      obtain rfl : pk = some ⟨M.bk, M.k0, none⟩ := HPK.out.trans (hkw.at_ (by have := HNK.out; omega))
      have a0 := hkw.cells j (by rw [← HNK.out]; exact hjl)
      have a1 := hkw.cells (nk - 1 - j) (by rw [← HNK.out]; omega)
      obtain ⟨kq, hkq⟩ : ∃ q, q = M.nd.k := ⟨_, rfl⟩
      have q0 := HP.out.but.cell (p := ⟨w.heap.size, 0, none⟩) Q0.out (fun e => by have := (HVB.out w.heap.size e).2; omega)
      rw [← hkq] at q0
      obtain ⟨kk, hkk⟩ : ∃ z, z = ks.getD j 0 := ⟨_, rfl⟩
      rw [← hkk] at hat1
      rw [HKJ.out j hjl] at hkk
      have hcase : (tb = false ∧ wr.cell? ⟨M.bk, M.k0 + j, none⟩ = some (.int .i64 kk)) ∨ (tb = true ∧ ¬ (kq : Int) = 6 ∧ wr.cell? ⟨M.bk, M.k0 + j, none⟩ = some (.int .i64 kk)) ∨ (tb = true ∧ kq = 6 ∧ wr.cell? ⟨M.bk, M.k0 + (nk - 1 - j), none⟩ = some (.int .i64 kk) ∧ ∃ k9, wr.cell? ⟨M.bk, M.k0 + j, none⟩ = some (.int .i64 k9)) := by
        by_cases ht : tb = true
        · by_cases h6 : M.nd.k = 6
          · rw [if_pos ⟨ht, h6⟩] at hkk
            exact Or.inr (Or.inr ⟨ht, by omega, by rw [hkk]; exact a1, _, a0⟩)
          · rw [if_neg (fun h => h6 h.2)] at hkk
            exact Or.inr (Or.inl ⟨ht, by omega, by rw [hkk]; exact a0⟩)
        · rw [if_neg (fun h => ht h.1)] at hkk
          exact Or.inl ⟨by simpa using ht, by rw [hkk]; exact a0⟩
      have hix : (nk : Int) - 1 - (j : Int) = ((nk - 1 - j : Nat) : Int) := by omega
      have hix2 : nk - 1 - j < nk := by omega
      have HSTEP := Lib.hid hstep; have HAT1 := Lib.hid hat1; have HS1 := Lib.hid hs1; have HSZ1 := Lib.hid hsz1
      have HJL := Lib.hid (show j + 1 ≤ nk from hjl)
      have hstl := Lib.hid HP.out.stl
      have HKO := Lib.hid HP.out.kown
      have HBS := Lib.hid HP.out.but.size
      clear hstep hat1 hs1 hsz1 hkw hkk hts hss hkq a0 a1 HP
      rcases hcase with ⟨rfl, a2⟩ | ⟨rfl, a3, a2⟩ | ⟨rfl, rfl, a2, k9, a4⟩
      all_goals
        go_wp2_with (at_builtin; refine app_k rfl (.tmp 52) (.tmp 55) rfl W1.heap.size (.slice ok nkv ckv) st rfl (ownN_below HKO.out ((Below.refl _ _).alloc (Nat.le_refl _) _)) ⟨wr.heap.size, 0, none⟩ (z : Int) rfl (by simp [Addr.add]) (by have := hstl.out; omega) (by have := HBS.out; simp; omega) ?_)
        intro kv' w3 ho3 hg3 hat3
        obtain ⟨hbel3, hout3, hnext⟩ := HSTEP.out (.cells #[.int .i64 (z : Int)] 3) kv' w3 (by simpa using ho3) hg3 (by simpa using hat3)
        have hrec := HIH.out t1 HS1.out kk w3 (.slice oz z cz) (ms ++ M.bare :: msj) hbel3 hout3 HAT1.out HSZ1.out
        rw [← HNL.out] at hrec
        have HREC := Lib.hid hrec; have HNX := Lib.hid hnext
        clear hrec hnext ho3 hg3 hat3 hbel3 hout3 HSTEP HKO a2
        clear hix hix2
        go_wp2_with (go_at_call 34; with_reducible refine HREC.out.mono ?_)
        intro e w5 hpost
        obtain ⟨vj', msj', rest', rfl, hPn⟩ := HNX.out e w5 hpost
        have HPN := Lib.hid hPn
        clear hPn hpost HNX HREC
        go_wp2_with fail
        go_roundw
        case rel => exact ⟨j + 1, msj', _, rest', by go_num, HJL.out, HPN⟩
        case measure => have := HJL.out; simp [intOf]; omega
    · obtain rfl : j = nk := by omega
      obtain ⟨g, n, c, u, rfl, hn1, hn2, hcu, hfz, hpost⟩ := HP.out.fin HKL.out.symm hss HOK.out (by rw [HKL.out]; exact hnk5)
      rw [← HNV.out] at hcu hfz hpost hn1
      have HPO := Lib.hid hpost
      clear hpost hts hss HP
      go_wp2_with fail
      go_ret
      exact HPR.out _ _ HPO.out
end Go.Proofs.Ytnlojgomildajaa
