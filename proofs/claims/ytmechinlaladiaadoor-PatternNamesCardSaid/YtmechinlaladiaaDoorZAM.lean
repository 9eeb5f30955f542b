/-
  WALKS: pattern.putTree's closure, by induction on the tree.
-/
import Derived.Test.YtmechinlaladiaaDoorZAL
namespace Go.Proofs.YtmechinlaladiaaDoor
open Go.RowKit Go.Lib
set_option linter.unusedVariables false

/-- A node's kids lie in a row of the call's own, from lo on. -/
def FrK (lo : Nat) (m : NdM) (w : World) : Prop := 0 < m.nd.ks.length → lo ≤ m.bk ∧ m.bk < w.heap.size ∧ ∀ o, w.frozen? ⟨m.bk, o, none⟩ = false
theorem FrK.keep {lo : Nat} {m : NdM} {w w' : World} {X : Nat → Prop} (h : FrK lo m w) (hb : But X w w') (hx : 0 < m.nd.ks.length → ¬ X m.bk) : FrK lo m w' := fun h0 =>
  ⟨(h h0).1, Nat.lt_of_lt_of_le (h h0).2.1 hb.size, fun o => (hb.frozen (p := ⟨m.bk, o, none⟩) (h h0).2.1 (hx h0)).trans ((h h0).2.2 o)⟩
theorem FrK.mono {lo lo' : Nat} {m : NdM} {w : World} (h : FrK lo m w) (hl : lo' ≤ lo) : FrK lo' m w := fun h0 => ⟨Nat.le_trans hl (h h0).1, (h h0).2⟩
theorem own_unfrozen {w : World} {B size n : Nat} {e : TypeId} {v : Value} {xs : List Value} (h : w.ownsRow B e size v n xs) {g : Nat} (hg : v.ownBlock = some g) : ∀ o, w.frozen? ⟨g, o, none⟩ = false := by
  rcases h.2 with ⟨rfl, _⟩ | ⟨g', cap, cur, rfl, _, hh, _⟩
  · cases hg
  · cases hg
    intro o
    simp [World.frozen?, hh]
/-- What the closure of putTree has in hand. -/
structure PtW (OB LB PB N : Nat) (pn : Option Addr) (bn n0 cl : Nat) (ls : List NdM) (W0 w : World) : Prop where
  below : Below N W0 w
  cL : w.cell? ⟨LB, 0, none⟩ = some (.slice pn ls.length cl)
  cP : w.cell? ⟨PB, 0, none⟩ = some (.func (.func 51) #[] #[.pointer (some ⟨OB, 0, none⟩), .pointer (some ⟨LB, 0, none⟩), .pointer (some ⟨PB, 0, none⟩)])
  fO : w.frozen? ⟨OB, 0, none⟩ = false
def vApart (OB LB PB : Nat) (v : Value) : Prop := ∀ k, v.ownBlock = some k → k ≠ OB ∧ k ≠ LB ∧ k ≠ PB
def PtPost (OB N : Nat) (v : Value) (ms : List NdM) (t : Tr) (w : World) (e : Ending) (w' : World) : Prop :=
  e = .returned (.int .i64 ms.length) ∧ ∃ v' ms', w'.cell? ⟨OB, 0, none⟩ = some v' ∧ OutN N (fun k => k = OB) v' (ms ++ ms') w' ∧ nds ms' = t.flat ms.length ∧ (∀ m ∈ ms', FrK w.heap.size m w') ∧
    But (fun k => k = OB ∨ v.ownBlock = some k) w w' ∧ (v'.ownBlock = v.ownBlock ∨ ∃ b, v'.ownBlock = some b ∧ w.heap.size ≤ b) ∧ w'.frozen? ⟨OB, 0, none⟩ = false
theorem nds_app (a b : List NdM) : nds (a ++ b) = nds a ++ nds b := by simp [nds]
theorem node_parts : ∃ i0, Tryd.prog.info? 36 = some i0 ∧ i0.zero = some (.agg #[.int .u8 0, .int .i32 0, .int .u32 0, .int .u32 0, .slice none 0 0]) ∧ i0.size = 5 ∧ i0.bytes = 40 := info_parts node_info
/-- append of one node onto nodes of the call's own. -/
theorem app_nd {w : World} {ops : Array Oper} {rest : List Oper} {o : Oper} {a : Act} {Q : Exit → Act → World → Prop} (hgd : o.guard = none) (s x : Operand)
    (ho : o.op = .call { callee := .builtin .append, args := #[s, x], argTypes := #[22, 22] }) (N : Nat) (F : Nat → Prop) (v : Value) (ms : List NdM) (hs : a.eval s = v) (hown : OutN N F v ms w)
    (ad : Addr) (m : NdM) (hx : a.eval x = .slice (some ad) 1 1) (hnews : ∀ j u, m.vs[j]? = some u → w.cell? (ad.add j) = some u) (hk : KsIn m.pk m.bk m.k0 m.c m.nd.ks w) (hap : 0 < m.nd.ks.length → ¬ v.ownBlock = some m.bk ∧ ¬ F m.bk) (hok : m.Ok)
    (hlen : ms.length < 1000000) (hN : N ≤ w.heap.size)
    (h : ∀ v' w', OutN N F v' (ms ++ [m]) w' → w.grownBy w' v.ownBlock → (v'.ownBlock = v.ownBlock ∨ v'.ownBlock = some w.heap.size) → wpList Tryd.prog ops Q rest (a.put o.dst v') w') :
    wpList Tryd.prog ops Q (o :: rest) a w := by
  obtain ⟨i0, hi, hz0, hz1, hz2⟩ := node_parts
  refine wpList_append_own_at w hgd s x 22 ho N 36 i0 (.agg #[.int .u8 0, .int .i32 0, .int .u32 0, .int .u32 0, .slice none 0 0]) 5 40 Tryd.underlying22 hi hz0 hz1 hz2 rfl (by decide) v ms.length (nsC ms) hs hown.own ad 1 1 m.vs hx rfl hnews (fun u hu => nsC_one [m] u (by rw [nsC_single]; exact hu)) (by unfold maxLen; omega) (by omega) hN ?_
  intro v' w' h1 h2 _ h4
  exact h v' w' (hown.push h1 h2 h4 hk hap hok) h2 h4
/-- append of one int onto a row of ints of the call's own. -/
theorem app_k {w : World} {ops : Array Oper} {rest : List Oper} {o : Oper} {a : Act} {Q : Exit → Act → World → Prop} (hgd : o.guard = none) (s x : Operand)
    (ho : o.op = .call { callee := .builtin .append, args := #[s, x], argTypes := #[34, 34] }) (N : Nat) (v : Value) (ks : List Int) (hs : a.eval s = v) (hown : w.ownsRow N 3 1 v ks.length (ks.map fun k => .int .i64 k))
    (ad : Addr) (z : Int) (hx : a.eval x = .slice (some ad) 1 1) (hnews : w.cell? (ad.add 0) = some (.int .i64 z)) (hlen : ks.length < 1000000) (hN : N ≤ w.heap.size)
    (h : ∀ v' w', w'.ownsRow N 3 1 v' (ks ++ [z]).length ((ks ++ [z]).map fun k => .int .i64 k) → w.grownBy w' v.ownBlock → (v'.ownBlock = v.ownBlock ∨ v'.ownBlock = some w.heap.size) → wpList Tryd.prog ops Q rest (a.put o.dst v') w') :
    wpList Tryd.prog ops Q (o :: rest) a w := by
  obtain ⟨i0, hi, hz0, hz1, hz2⟩ := info_parts int_info
  refine wpList_append_own_at w hgd s x 34 ho N 3 i0 (.int .i64 0) 1 8 Tryd.underlying34 hi hz0 hz1 hz2 rfl (by decide) v ks.length (ks.map fun k => .int .i64 k) hs hown ad 1 1 [.int .i64 z] hx rfl (fun j u hj => ?_) (fun u hu => by rw [List.mem_singleton.1 hu]; rfl) (by unfold maxLen; omega) (by omega) hN ?_
  · match j, hj with
    | 0, hj => simp at hj; subst hj; exact hnews
  · intro v' w' h1 h2 _ h4
    exact h v' w' (by rw [List.length_append, List.map_append]; exact h1) h2 h4
theorem OutN.some {N : Nat} {F : Nat → Prop} {v : Value} {ms : List NdM} {w : World} (h : OutN N F v ms w) (h0 : 0 < ms.length) : ∃ g c, v = .slice (some ⟨g, 0, none⟩) ms.length c ∧ v.ownBlock = some g ∧ N ≤ g ∧ g < w.heap.size ∧ (∀ i, i < ms.length * 5 → w.cell? ⟨g, i, none⟩ = (nsC ms)[i]?) ∧ ∀ o, w.frozen? ⟨g, o, none⟩ = false := by
  rcases h.own.2 with ⟨rfl, hn⟩ | ⟨g, cap, cur, rfl, hgN, hh, hc, _⟩
  · omega
  · exact ⟨g, cap, rfl, rfl, hgN, (Array.getElem?_eq_some_iff.1 hh).1, fun i hi => h.own.cellAt i hi, own_unfrozen h.own rfl⟩

/-- The closure's loop: j kids are put. -/
structure PtL (OB LB PB N : Nat) (pn : Option Addr) (bn n0 cl : Nat) (ls : List NdM) (W0 w : World) (v : Value) (ms : List NdM) (M : NdM) (ts : Ts) (j : Nat) (kv vj : Value) (msj : List NdM) (st : List Int) (rest : Ts) (wr : World) : Prop where
  W : PtW OB LB PB N pn bn n0 cl ls W0 wr
  cO : wr.cell? ⟨OB, 0, none⟩ = some vj
  out : OutN N (fun k => k = OB) vj (ms ++ M :: msj) wr
  va : vApart OB LB PB vj
  far : Sofar false (nds ls) (ms.length + 1) ts (nds msj) st rest (M.nd.ks.drop j)
  stl : st.length = j
  kown : wr.ownsRow w.heap.size 3 1 kv st.length (st.map fun k => .int .i64 k)
  kap : ∀ b, kv.ownBlock = some b → ¬ vj.ownBlock = some b ∧ ∀ q ∈ ms ++ M :: msj, 0 < q.nd.ks.length → ¬ q.bk = b
  frk : ∀ q ∈ msj, FrK w.heap.size q wr
  but : But (fun k => k = OB ∨ v.ownBlock = some k) w wr
  vat : vj.ownBlock = v.ownBlock ∨ ∃ b, vj.ownBlock = some b ∧ w.heap.size ≤ b
theorem PtW.keep {OB LB PB N : Nat} {pn : Option Addr} {bn n0 cl : Nat} {ls : List NdM} {W0 w w' : World} {X : Nat → Prop} (h : PtW OB LB PB N pn bn n0 cl ls W0 w) (hb : But X w w') (hN : N ≤ w.heap.size) (hx : ∀ k, X k → N ≤ k) (hL : ¬ X LB) (hP : ¬ X PB) (hf : w'.frozen? ⟨OB, 0, none⟩ = false) : PtW OB LB PB N pn bn n0 cl ls W0 w' :=
  ⟨h.below.trans (hb.below hN (fun k hk e => by have := hx k e; omega)), hb.cell (p := ⟨LB, 0, none⟩) h.cL hL, hb.cell (p := ⟨PB, 0, none⟩) h.cP hP, hf⟩
theorem PtL.step {OB LB PB N : Nat} {pn : Option Addr} {bn n0 cl : Nat} {ls : List NdM} {W0 w : World} {v : Value} {ms : List NdM} {M : NdM} {ts : Ts} {j : Nat} {kv vj : Value} {msj : List NdM} {st : List Int} {rest : Ts} {wr : World} {s : Nat}
    (h : PtL OB LB PB N pn bn n0 cl ls W0 w v ms M ts j kv vj msj st rest wr) (hw : W0.heap.size = N) (hOB : N ≤ OB) (hOL : OB ≠ LB) (hOP : OB ≠ PB) (hzO : OB < w.heap.size) (hzL : LB < w.heap.size) (hzP : PB < w.heap.size) (hj : j < M.nd.ks.length) (hts : ts.sz ≤ s) (hsz : ms.length + 1 + ts.sz ≤ 100000) :
    ∃ t1 : Tr, t1.At (nds ls) (M.nd.ks.getD j 0) ∧ t1.sz ≤ s ∧ (ms ++ M :: msj).length + t1.sz ≤ 100000 ∧ ∀ e w2, PtPost OB N vj (ms ++ M :: msj) t1 wr e w2 →
      ∃ z : Nat, e = .returned (.int .i64 z) ∧ w2.ownsRow w.heap.size 3 1 kv st.length (st.map fun k => .int .i64 k) ∧ PB < w2.heap.size ∧ w.heap.size ≤ w2.heap.size ∧ w2.cell? ⟨PB, 0, none⟩ = wr.cell? ⟨PB, 0, none⟩ ∧
        ∀ o kv' w4, w4.ownsRow w.heap.size 3 1 kv' (st ++ [(z : Int)]).length ((st ++ [(z : Int)]).map fun k => .int .i64 k) → (w2.alloc o).grownBy w4 kv.ownBlock → (kv'.ownBlock = kv.ownBlock ∨ kv'.ownBlock = Option.some (w2.alloc o).heap.size) →
          ∃ vj' msj' rest', PtL OB LB PB N pn bn n0 cl ls W0 w v ms M ts (j + 1) kv' vj' msj' (st ++ [(z : Int)]) rest' w4 := by
  have hsw := h.but.size
  have hNw : N ≤ wr.heap.size := by have := h.W.below.size; omega
  have hfar := h.far
  rw [List.drop_eq_getElem_cons hj] at hfar
  obtain ⟨t1, rest', hat, hle, hf2⟩ := hfar.step
  have hks : M.nd.ks[j] = M.nd.ks.getD j 0 := by rw [List.getD_eq_getElem?_getD, List.getElem?_eq_getElem hj]; rfl
  rw [hks] at hat
  have hlp : (nds msj).length = msj.length := nds_length msj
  have hlen : (ms ++ M :: msj).length = ms.length + 1 + msj.length := by simp; omega
  refine ⟨t1, hat, by omega, by omega, ?_⟩
  rintro e w2 ⟨he, v', ms', hcO, hout, hnd, hfk, hbut, hvat, hfO⟩
  have hs2 := hbut.size
  have hkb : ∀ b, kv.ownBlock = some b → w.heap.size ≤ b ∧ b < wr.heap.size := fun b hb => h.kown.lt b hb
  have hX : ∀ b, kv.ownBlock = some b → ¬ (b = OB ∨ vj.ownBlock = some b) := fun b hb e => by
    have := hkb b hb
    rcases e with e | e
    · omega
    · exact (h.kap b hb).1 e
  have hk2 : w2.ownsRow w.heap.size 3 1 kv st.length (st.map fun k => .int .i64 k) := own_keep h.kown hbut hX
  have hva := h.va
  have hPx : ¬ (PB = OB ∨ vj.ownBlock = some PB) := fun e => by
    rcases e with e | e
    · exact hOP e.symm
    · exact (hva PB e).2.2 rfl
  have hLx : ¬ (LB = OB ∨ vj.ownBlock = some LB) := fun e => by
    rcases e with e | e
    · exact hOL e.symm
    · exact (hva LB e).2.1 rfl
  refine ⟨ms.length + 1 + msj.length, by rw [he, hlen], hk2, by omega, by omega, World.cell?_of_block (a := ⟨PB, 0, none⟩) (hbut.block PB (by omega) hPx), ?_⟩
  intro o kv' w4 hk4 hg4 hat4
  have ho3 := hout.next (w' := w2.alloc o) ((Below.refl _ _).alloc (Nat.le_refl _) o)
  have hrow : ∀ k, kv.ownBlock = some k → (fun q => kv.ownBlock = some q) k := fun k e => e
  have hB4 : But (fun q => kv.ownBlock = some q) (w2.alloc o) w4 := But.of_grown hg4 hrow
  have hB3 : But (fun q => kv.ownBlock = some q) w2 w4 := (But.refl (fun q => kv.ownBlock = some q) w2).alloc o |>.trans hB4 (fun i _ e => e)
  have hv'b : ∀ b, v'.ownBlock = some b → vj.ownBlock = some b ∨ wr.heap.size ≤ b := fun b hb => by
    rcases hvat with e | ⟨b', e, hle'⟩
    · exact Or.inl (e ▸ hb)
    · rw [e] at hb; cases hb; exact Or.inr hle'
  have happ : ms ++ M :: (msj ++ ms') = (ms ++ M :: msj) ++ ms' := by simp
  have hvk : ∀ b, kv.ownBlock = some b → ¬ v'.ownBlock = some b := fun b hb e => by
    have := hkb b hb
    rcases hv'b b e with e2 | e2
    · exact (h.kap b hb).1 e2
    · omega
  have hqk : ∀ b, kv.ownBlock = some b → ∀ q ∈ (ms ++ M :: msj) ++ ms', 0 < q.nd.ks.length → ¬ q.bk = b := fun b hb q hq h0 e => by
    have := hkb b hb
    rcases List.mem_append.1 hq with hq | hq
    · exact (h.kap b hb).2 q hq h0 e
    · have := (hfk q hq h0).1
      omega
  have ho4 : OutN N (fun k => k = OB) v' ((ms ++ M :: msj) ++ ms') w4 := hout.keep hB3 (fun k e hk => hvk k hk e) (fun q hq h0 e => hqk q.bk e q hq h0 rfl)
  have hzOx : ¬ kv.ownBlock = some OB := fun e => by have := hkb OB e; omega
  have hf4 : w4.frozen? ⟨OB, 0, none⟩ = false := (hB3.frozen (p := ⟨OB, 0, none⟩) (by show OB < _; omega) hzOx).trans hfO
  have hW2 : PtW OB LB PB N pn bn n0 cl ls W0 w2 := h.W.keep hbut hNw (fun k e => by
    rcases e with e | e
    · omega
    · exact (h.out.own.lt k e).1) hLx hPx hfO
  have hW4 : PtW OB LB PB N pn bn n0 cl ls W0 w4 := hW2.keep hB3 (by omega) (fun k e => by have := (hkb k e).1; have := h.but.size; have := h.W.below.size; omega) (fun e => by have := hkb LB e; omega) (fun e => by have := hkb PB e; omega) hf4
  refine ⟨v', msj ++ ms', rest', hW4, hB3.cell (p := ⟨OB, 0, none⟩) hcO hzOx, by rw [happ]; exact ho4, ?_, ?_, ?_, hk4, ?_, ?_, ?_, ?_⟩
  · intro b hb
    rcases hv'b b hb with e | e
    · exact hva b e
    · exact ⟨by omega, by omega, by omega⟩
  · rw [nds_app, hnd, show ((ms.length + 1 + msj.length : Nat) : Int) = ((ms.length + 1 + (nds msj).length : Nat) : Int) by rw [hlp], hlen, ← hlp]
    exact hf2
  · rw [List.length_append, h.stl]; rfl
  · intro b hb
    rw [happ]
    rcases hat4 with e | e
    · rw [e] at hb
      exact ⟨hvk b hb, hqk b hb⟩
    · rw [e] at hb
      cases hb
      refine ⟨fun e2 => ?_, fun q hq h0 e2 => ?_⟩
      · have := (hout.own.lt _ e2).2
        simp at this
        omega
      · have := (hout.kids q hq).lt h0
        simp at e2
        omega
  · intro q hq
    rcases List.mem_append.1 hq with hq2 | hq2
    · refine ((h.frk q hq2).keep hbut (fun h0 e => ?_)).keep hB3 (fun h0 e => hqk q.bk e q (by simp [hq2]) h0 rfl)
      have := h.out.apart q (by simp [hq2]) h0
      rcases e with e | e
      · exact this.2 e
      · exact this.1 e
    · exact ((hfk q hq2).mono (by omega)).keep hB3 (fun h0 e => hqk q.bk e q (by simp [hq2]) h0 rfl)
  · have h1 : But (fun k => k = OB ∨ v.ownBlock = some k) w w2 := h.but.trans hbut (fun i hi e => by
      rcases e with e | e
      · exact Or.inl e
      · rcases h.vat with e2 | ⟨b, e2, hb⟩
        · exact Or.inr (e2 ▸ e)
        · rw [e2] at e; cases e; omega)
    exact h1.trans hB3 (fun i hi e => by have := hkb i e; omega)
  · rcases hvat with e | ⟨b, e, hb⟩
    · rw [e]; exact h.vat
    · exact Or.inr ⟨b, e, by omega⟩
theorem Tr.sz_pos : ∀ t : Tr, 1 ≤ t.sz
  | .nd k r p m ts => by simp [Tr.sz]
theorem Ts.len_le : ∀ ts : Ts, ts.len ≤ ts.sz
  | .nil => Nat.le_refl _
  | .cons t ts => by have := Tr.sz_pos t; have := Ts.len_le ts; simp only [Ts.len, Ts.sz]; omega
theorem lit_news (m : NdM) (W : World) (pk : Option Addr) (nk : Nat) (e1 : pk = m.pk) (e2 : nk = m.nd.ks.length) : ∀ j u, m.vs[j]? = some u → (W.alloc (.cells #[.int .u8 m.nd.k, .int .i32 m.nd.r, .int .u32 m.nd.p, .int .u32 m.nd.m, .slice pk nk m.c] 36)).cell? ((⟨W.heap.size, 0, none⟩ : Addr).add j) = some u := by
  subst e1
  subst e2
  intro j u hu
  have hj : j < 5 := by have := (List.getElem?_eq_some_iff.1 hu).1; simpa [NdM.vs] using this
  unfold NdM.vs at hu
  match j, hj with
  | 0, _ => simp at hu; subst hu; simp [Addr.add]
  | 1, _ => simp at hu; subst hu; simp [Addr.add]
  | 2, _ => simp at hu; subst hu; simp [Addr.add]
  | 3, _ => simp at hu; subst hu; simp [Addr.add]
  | 4, _ => simp at hu; subst hu; simp [Addr.add]
theorem PtL.fin {OB LB PB N : Nat} {pn : Option Addr} {bn n0 cl : Nat} {ls : List NdM} {W0 w : World} {v : Value} {ms : List NdM} {M : NdM} {ts : Ts} {j : Nat} {kv vj : Value} {msj : List NdM} {st : List Int} {rest : Ts} {wr : World}
    (h : PtL OB LB PB N pn bn n0 cl ls W0 w v ms M ts j kv vj msj st rest wr) (hzO : OB < w.heap.size) (hj : j = M.nd.ks.length) (hsz : ms.length + 1 + ts.sz ≤ 100000) :
    ∃ g n c u, vj = .slice (some ⟨g, 0, none⟩) n c ∧ ms.length < n ∧ n ≤ 100000 ∧ g ≠ OB ∧ wr.cell? ⟨g, ms.length * 5 + 4, none⟩ = some u ∧ wr.frozen? ⟨g, ms.length * 5 + 4, none⟩ = false ∧ wr.cell? ⟨OB, 0, none⟩ = some (.slice (some ⟨g, 0, none⟩) n c) ∧
      PtPost OB N v ms (.nd M.nd.k M.nd.r M.nd.p M.nd.m ts) w (.returned (.int .i64 ms.length)) (wr.setCell ⟨g, ms.length * 5 + 4, none⟩ kv) := by
  have hfar := h.far
  rw [hj, List.drop_length] at hfar
  obtain ⟨hfl, hst⟩ := hfar.done
  have hfl : nds msj = ts.flats (ms.length + 1) := hfl
  have hst : st = ts.starts (ms.length + 1) := hst
  have hszj : msj.length ≤ ts.sz := by have := hfar.sz; rw [nds_length] at this; omega
  obtain ⟨g, c, hv, hvb, hgN, hgl, hcell, hfz⟩ := h.out.some (by simp; omega)
  have hlen : (ms ++ M :: msj).length = ms.length + 1 + msj.length := by simp; omega
  have hgO : g ≠ OB := (h.va g hvb).1
  obtain ⟨pk', bk', c', hkv, hKs, hkb⟩ := own_ks h.kown (by have := h.stl; have := hst; have := Ts.starts_length ts (ms.length + 1); have := hfar.sz; rw [h.stl]; have hb := (h.out.kids M (by simp)).big; omega) (by rw [hst]; exact starts_bits ts _ (by omega))
  obtain ⟨M', hM'⟩ : ∃ M' : NdM, M' = ⟨⟨M.nd.k, M.nd.r, M.nd.p, M.nd.m, st⟩, pk', bk', 0, c'⟩ := ⟨_, rfl⟩
  have hcu : ∃ u, wr.cell? ⟨g, ms.length * 5 + 4, none⟩ = some u := by
    have h1 := hcell (ms.length * 5 + 4) (by omega)
    have h2 := (nsC_at (ms ++ M :: msj) ms.length (by omega)).2.2.2.2
    exact ⟨_, h1.trans h2⟩
  obtain ⟨u, hu⟩ := hcu
  have hB : But (fun q => q = g) wr (wr.setCell ⟨g, ms.length * 5 + 4, none⟩ kv) := (But.refl (fun q => q = g) wr).setCell (p := ⟨g, ms.length * 5 + 4, none⟩) (fun _ => rfl) _
  have hout := h.out
  have hkap := h.kap
  rw [hv] at hout
  have hmo : OutN N (fun k => k = OB) vj (ms ++ M' :: msj) (wr.setCell ⟨g, ms.length * 5 + 4, none⟩ kv) := by
    have := hout.setK (m' := M') (by rw [hM']; exact ⟨rfl, rfl, rfl, rfl⟩) (by rw [hM']; exact hKs) (by
      rw [hM']
      intro h0
      have hb := hkb h0
      refine ⟨fun e => (hkap bk' hb.2).1 (by rw [hvb, e]), fun e => ?_⟩
      have : bk' = OB := e
      omega)
    rw [hv, hkv]
    rw [hM'] at this ⊢
    exact this
  refine ⟨g, ms.length + 1 + msj.length, c, u, by rw [hv, hlen], by omega, by omega, hgO, hu, hfz _, by rw [h.cO, hv, hlen], rfl, vj, M' :: msj, hB.cell (p := ⟨OB, 0, none⟩) h.cO (fun e => hgO e.symm), hmo, ?_, ?_, ?_, h.vat, ?_⟩
  · rw [show nds (M' :: msj) = M'.nd :: nds msj from rfl, hfl, hM', hst]
    rfl
  · intro q hq
    rcases List.mem_cons.1 hq with rfl | hq
    · intro h0
      rw [hM'] at h0 ⊢
      have hb := hkb h0
      refine ⟨hb.1, ?_, fun o => ?_⟩
      · have := (h.kown.lt bk' hb.2).2
        simpa [World.setCell] using this
      · rw [World.frozen?_setCell]; exact own_unfrozen h.kown hb.2 o
    · exact (h.frk q hq).keep hB (fun h0 e => (h.out.apart q (by simp [hq]) h0).1 (by rw [hvb]; exact congrArg some e.symm))
  · exact h.but.trans hB (fun i hi e => by
      subst e
      rcases h.vat with e2 | ⟨b, e2, hb⟩
      · exact Or.inr (e2 ▸ hvb)
      · rw [hvb] at e2; cases e2; omega)
  · rw [World.frozen?_setCell]; exact h.W.fO
set_option maxHeartbeats 8000000 in
set_option maxRecDepth 100000 in
theorem putc_any (OB LB PB N : Nat) (pn : Option Addr) (bn n0 cl : Nat) (ls : List NdM) (W0 : World) (hW0 : W0.heap.size = N) (hIn : NsIn pn bn n0 ls W0) (hOB : N ≤ OB) (hLB : N ≤ LB) (hPB : N ≤ PB) (hOL : OB ≠ LB) (hOP : OB ≠ PB) :
    ∀ (s : Nat) (t : Tr), t.sz ≤ s → ∀ (i : Int) (w : World) (v : Value) (ms : List NdM), PtW OB LB PB N pn bn n0 cl ls W0 w → w.cell? ⟨OB, 0, none⟩ = some v → OutN N (fun k => k = OB) v ms w → vApart OB LB PB v → t.At (nds ls) i → ms.length + t.sz ≤ 100000 →
      Calls Tryd.prog 51 #[.int .i64 i, .pointer (some ⟨OB, 0, none⟩), .pointer (some ⟨LB, 0, none⟩), .pointer (some ⟨PB, 0, none⟩)] w (PtPost OB N v ms t w) := by
  intro s
  induction s with
  | zero => intro t ht; cases t; simp [Tr.sz] at ht
  | succ s ih =>
  intro t ht i w v ms hW hO hout hva hat hsz
  obtain ⟨k, r, p, m, ts⟩ := t
  obtain ⟨hi0, nd, hnd, rfl, rfl, rfl, rfl, hats⟩ := hat
  obtain ⟨x, rfl⟩ : ∃ x : Nat, i = (x : Int) := ⟨i.toNat, by omega⟩
  rw [show ((x : Int)).toNat = x from rfl] at hnd
  have hxl : x < ls.length := by
    have := (List.getElem?_eq_some_iff.1 hnd).1
    rwa [nds_length] at this
  obtain ⟨M, hM⟩ : ∃ M, M = ls.getD x default := ⟨_, rfl⟩
  have hMn : M.nd = nd := by
    have h1 := nds_at ls x hxl
    rw [List.getElem?_eq_getElem (by rw [nds_length]; exact hxl)] at hnd
    rw [hM, ← h1]
    exact Option.some.inj hnd
  subst hMn
  have hNI : NsIn pn bn n0 ls w := hIn.next (hW.below.mono (by omega))
  obtain ⟨b0, b1, b2, b3, b4⟩ := hNI.node x hxl
  have hk := hNI.kids x hxl
  have hok := hNI.ok x hxl
  obtain rfl : pn = some ⟨bn, n0, none⟩ := hNI.at_ (by omega)
  have hbn : bn < N := by
    have h1 := blk_of_cell (hIn.node x hxl).c0
    omega
  have hbk : 0 < M.nd.ks.length → M.bk < N := fun h0 => by
    have h1 := (hIn.kids x hxl).lt (by rw [← hM]; exact h0)
    rw [← hM] at h1
    omega
  rw [← hM] at b0 b1 b2 b3 b4 hk hok
  obtain ⟨ov, cv, hv⟩ := hout.len
  have hzO := blk_of_cell hO
  have hzL := blk_of_cell hW.cL
  have hzP := blk_of_cell hW.cP
  have cL := hW.cL
  have cP := hW.cP
  have fO := hW.fO
  have hzb := blk_of_cell b0
  obtain ⟨nl, hnl⟩ : ∃ n, n = ls.length := ⟨_, rfl⟩
  obtain ⟨nm, hnm⟩ : ∃ n, n = ms.length := ⟨_, rfl⟩
  obtain ⟨nk, hnk⟩ : ∃ n, n = M.nd.ks.length := ⟨_, rfl⟩
  obtain ⟨pk, hpk⟩ : ∃ n, n = M.pk := ⟨_, rfl⟩
  have hbig := hNI.big
  have hkb := hk.big
  subst hv
  rw [← hnl] at hxl cL hbig
  rw [← hnm] at hO
  rw [← hnk] at b4 hkb
  rw [← hpk] at b4
  have HIH := Lib.hid ih; have HW := Lib.hid hW; have HOUT := Lib.hid hout; have HVA := Lib.hid hva; have HATS := Lib.hid hats; have HSZ := Lib.hid hsz; have HNI := Lib.hid hNI; have HK := Lib.hid hk; have HOK := Lib.hid hok; have HM := Lib.hid hM
  have HNL := Lib.hid hnl; have HNM := Lib.hid hnm; have HNK := Lib.hid hnk; have HT := Lib.hid ht; have HBK := Lib.hid hbk; have HBN := Lib.hid hbn; have HO := Lib.hid hO; have CL := Lib.hid cL; have CP := Lib.hid cP; have FO := Lib.hid fO
  have HN := Lib.hid hW0; have HOB := Lib.hid hOB; have HLB := Lib.hid hLB; have HPB := Lib.hid hPB; have HOL := Lib.hid hOL; have HOP := Lib.hid hOP; have HIN := Lib.hid hIn; have HPK := Lib.hid hpk; have HI0 := Lib.hid hIn
  clear hpk ih hW hout hva hats hsz hNI hk hok hM hnl hnm hnk ht hbk hbn hW0 hOB hLB hPB hOL hOP hIn hnd hi0 cP fO
  go_enter Tryd.func51, Tryd.ntmps51
  go_wp2_with fail
  go_region
  have hB1 : Below w.heap.size w ((w.alloc (.cells #[.int .u8 M.nd.k, .int .i32 M.nd.r, .int .u32 M.nd.p, .int .u32 M.nd.m, .slice pk nk M.c] 36)).drew) := ((Below.refl _ _).alloc (Nat.le_refl _) _).drew
  have hz1 : ((w.alloc (.cells #[.int .u8 M.nd.k, .int .i32 M.nd.r, .int .u32 M.nd.p, .int .u32 M.nd.m, .slice pk nk M.c] 36)).drew).heap.size = w.heap.size + 1 := by simp
  obtain ⟨q0, q1, q2, q3, q4⟩ : ((w.alloc (.cells #[.int .u8 M.nd.k, .int .i32 M.nd.r, .int .u32 M.nd.p, .int .u32 M.nd.m, .slice pk nk M.c] 36)).drew).cell? ⟨w.heap.size, 0, none⟩ = some (.int .u8 M.nd.k) ∧ ((w.alloc (.cells #[.int .u8 M.nd.k, .int .i32 M.nd.r, .int .u32 M.nd.p, .int .u32 M.nd.m, .slice pk nk M.c] 36)).drew).cell? ⟨w.heap.size, 1, none⟩ = some (.int .i32 M.nd.r) ∧ ((w.alloc (.cells #[.int .u8 M.nd.k, .int .i32 M.nd.r, .int .u32 M.nd.p, .int .u32 M.nd.m, .slice pk nk M.c] 36)).drew).cell? ⟨w.heap.size, 2, none⟩ = some (.int .u32 M.nd.p) ∧ ((w.alloc (.cells #[.int .u8 M.nd.k, .int .i32 M.nd.r, .int .u32 M.nd.p, .int .u32 M.nd.m, .slice pk nk M.c] 36)).drew).cell? ⟨w.heap.size, 3, none⟩ = some (.int .u32 M.nd.m) ∧ ((w.alloc (.cells #[.int .u8 M.nd.k, .int .i32 M.nd.r, .int .u32 M.nd.p, .int .u32 M.nd.m, .slice pk nk M.c] 36)).drew).cell? ⟨w.heap.size, 4, none⟩ = some (.slice pk nk M.c) := by simp
  obtain ⟨W1, hW1⟩ : ∃ W1, W1 = ((w.alloc (.cells #[.int .u8 M.nd.k, .int .i32 M.nd.r, .int .u32 M.nd.p, .int .u32 M.nd.m, .slice pk nk M.c] 36)).drew) := ⟨_, rfl⟩
  rw [← hW1] at hB1 hz1 q0 q1 q2 q3 q4 ⊢
  clear hW1 b0 b1 b2 b3 b4
  have hO1 : W1.cell? ⟨OB, 0, none⟩ = some (.slice ov nm cv) := (hB1.cell (p := ⟨OB, 0, none⟩) hzO).trans hO
  have hP1 := (hB1.cell (p := ⟨PB, 0, none⟩) hzP).trans CP.out
  have hL1 := (hB1.cell (p := ⟨LB, 0, none⟩) hzL).trans cL
  have f1 : W1.frozen? ⟨OB, 0, none⟩ = false := (hB1.frozen (p := ⟨OB, 0, none⟩) hzO).trans FO.out
  have hout1 := HOUT.out.next hB1
  have hk1 := HK.out.next hB1
  have HB1 := Lib.hid hB1; have HOUT1 := Lib.hid hout1; have HK1 := Lib.hid hk1; have HP1 := Lib.hid hP1; have HL1 := Lib.hid hL1; have HZ1 := Lib.hid hz1
  have hzO1 : OB < W1.heap.size := by omega
  have HNN := Lib.hid (show N ≤ w.heap.size by have h1 := HW.out.below.size; have h2 := HN.out; omega)
  clear hB1 hout1 hk1 hP1 hL1 hO cL hz1
  have HHO1 := Lib.hid hO1; have HF1 := Lib.hid f1; have Q4 := Lib.hid q4
  go_wp2_with (at_builtin; refine app_nd rfl (.tmp 17) (.tmp 19) rfl N (fun k => k = OB) (.slice ov nm cv) ms rfl (by have h9 := HOUT1.out.next ((Below.refl _ _).alloc (Nat.le_refl _) (.cells #[.int .u8 M.nd.k, .int .i32 M.nd.r, .int .u32 M.nd.p, .int .u32 M.nd.m, .slice pk nk M.c] 36)); rw [← HNM.out] at h9; exact h9) ⟨W1.heap.size, 0, none⟩ M rfl (lit_news M W1 pk nk HPK.out HNK.out) (HK1.out.next ((Below.refl _ _).alloc (Nat.le_refl _) _)) (fun h0 => ?a1) HOK.out (by have := HSZ.out; omega) (by have := HZ1.out; have := HNN.out; simp; omega) ?_)
  case a1 =>
    have h1 := HBK.out h0
    refine ⟨fun e => ?_, fun e => ?_⟩
    · have := (HOUT.out.own.lt M.bk (by rw [← HNM.out]; exact e)).1
      omega
    · have := HOB.out
      omega
  intro v4 w4 ho4 hg4 hat4
  obtain ⟨o4, n4, c4, rfl⟩ : ∃ o n c, v4 = .slice o n c := by obtain ⟨o, c, h⟩ := ho4.len; exact ⟨o, _, c, h⟩
  have hvb : ∀ b, (Value.slice ov nm cv).ownBlock = some b → N ≤ b ∧ b < w.heap.size ∧ b ≠ OB ∧ b ≠ LB ∧ b ≠ PB := fun b hb => by
    rw [HNM.out] at hb
    exact ⟨(HOUT.out.own.lt b hb).1, (HOUT.out.own.lt b hb).2, HVA.out b hb⟩
  have hB2 : But (fun q => (Value.slice ov nm cv).ownBlock = some q) W1 w4 := ((But.refl (fun q => (Value.slice ov nm cv).ownBlock = some q) W1).alloc _).trans (But.of_grown hg4 (fun k e => e)) (fun i _ e => e)
  have hB3 : But (fun q => (Value.slice ov nm cv).ownBlock = some q) w w4 := (But.of_below HB1.out).trans hB2 (fun i _ e => e)
  have hO4 := hB2.cell (p := ⟨OB, 0, none⟩) HHO1.out (fun e => (hvb OB e).2.2.1 rfl)
  have hP4 := hB2.cell (p := ⟨PB, 0, none⟩) HP1.out (fun e => (hvb PB e).2.2.2.2 rfl)
  have hL4 := hB2.cell (p := ⟨LB, 0, none⟩) HL1.out (fun e => (hvb LB e).2.2.2.1 rfl)
  have f4 : w4.frozen? ⟨OB, 0, none⟩ = false := (hB2.frozen (p := ⟨OB, 0, none⟩) hzO1 (fun e => (hvb OB e).2.2.1 rfl)).trans HF1.out
  have q4 := hB2.cell (p := ⟨w.heap.size, 4, none⟩) Q4.out (fun e => Nat.lt_irrefl _ (hvb w.heap.size e).2.1)
  have hne : w.heap.size ≠ OB := by omega
  have hs4 := hB3.size
  have hva4 : vApart OB LB PB (.slice o4 n4 c4) := fun b hb => by
    rcases hat4 with e | e
    · rw [e] at hb; exact (hvb b hb).2.2
    · rw [e] at hb
      cases hb
      have := HZ1.out
      (try simp only [World.size_alloc])
      omega
  have hB5 : But (fun q => q = OB) w4 (w4.setCell ⟨OB, 0, none⟩ (.slice o4 n4 c4)) := (But.refl (fun q => q = OB) w4).setCell (p := ⟨OB, 0, none⟩) (fun _ => rfl) _
  have hB6 : But (fun q => q = OB ∨ (Value.slice ov nm cv).ownBlock = some q) w (w4.setCell ⟨OB, 0, none⟩ (.slice o4 n4 c4)) := (hB3.mono (Y := fun q => q = OB ∨ (Value.slice ov nm cv).ownBlock = some q) (fun i _ e => Or.inr e)).trans hB5 (fun i _ e => Or.inl e)
  have hf5 : (w4.setCell ⟨OB, 0, none⟩ (.slice o4 n4 c4)).frozen? ⟨OB, 0, none⟩ = false := by rw [World.frozen?_setCell]; exact f4
  have hst : PtL OB LB PB N (some ⟨bn, n0, none⟩) bn n0 cl ls W0 w (.slice ov nm cv) ms M ts 0 (.slice none 0 0) (.slice o4 n4 c4) [] [] ts (w4.setCell ⟨OB, 0, none⟩ (.slice o4 n4 c4)) := by
    refine ⟨HW.out.keep hB6 HNN.out (fun k e => ?_) (fun e => ?_) (fun e => ?_) hf5, World.cell?_setCell_same _ _ _ hO4, ho4.keep hB5 (fun k e e2 => (hva4 k e).1 e2) (fun q hq h0 => (ho4.apart q hq h0).2), hva4, Sofar.start HATS.out, rfl, World.ownsRow_nil _ _ _ _, fun b hb => (by cases hb), fun q hq => (by cases hq), hB6, ?_⟩
    · rcases e with e | e
      · have := HOB.out; omega
      · exact (hvb k e).1
    · rcases e with e | e
      · exact HOL.out e.symm
      · exact (hvb LB e).2.2.2.1 rfl
    · rcases e with e | e
      · exact HOP.out e.symm
      · exact (hvb PB e).2.2.2.2 rfl
    · rcases hat4 with e | e
      · exact Or.inl e
      · refine Or.inr ⟨_, e, ?_⟩
        have := HZ1.out
        (try simp only [World.size_alloc])
        omega
  have HST := Lib.hid hst
  clear ho4 hg4 hat4 hvb hB2 hB3 hP4 hL4 hva4 hB5 hB6 hf5 hst HOUT HOUT1 HK1 HP1 HL1 HHO1 HF1 HB1 hO1 f1 q0 q1 q2 q3
  go_wp2_with fail
  go_loopw [8, 24] (fun kv iv wr => ∃ (j : Nat) (vj : Value) (msj : List NdM) (st : List Int) (rest : Ts), iv = .int .i64 j ∧ j ≤ nk ∧ Hid (PtL OB LB PB N (some ⟨bn, n0, none⟩) bn n0 cl ls W0 w (.slice ov nm cv) ms M ts j kv vj msj st rest wr)) (fun _ iv _ => nk - (intOf iv).toNat)
  case atStart => exact ⟨0, .slice o4 n4 c4, [], [], ts, rfl, by omega, HST⟩
  case round =>
    clear HST
    obtain ⟨j, vj, msj, st, rest, rfl, hjk, HP⟩ := hrel
    obtain ⟨ok, nkv, ck, rfl⟩ : ∃ o n c, u8 = .slice o n c := by obtain ⟨o, c, h⟩ := ownN_shape HP.out.kown; exact ⟨o, _, c, h⟩
    have hts : ts.sz ≤ s := by have := HT.out; simp only [Tr.sz] at this; omega
    have hss : ms.length + 1 + ts.sz ≤ 100000 := by have := HSZ.out; simp only [Tr.sz] at this; omega
    have hnk5 : nk ≤ 100000 := by have h1 := Ts.Ats_length HATS.out; have h2 := Ts.len_le ts; have h3 := HNK.out; omega
    by_cases hjl : j < nk
    · have hjk2 : j < M.nd.ks.length := by rw [← HNK.out]; exact hjl
      obtain ⟨t1, hat1, hs1, hsz1, hstep⟩ := HP.out.step HN.out HOB.out HOL.out HOP.out hzO hzL hzP hjk2 hts hss
      have hkw := (HI0.out.next ((HP.out.W.below).mono (by have := HN.out; omega))).kids x (by rw [← HNL.out]; exact hxl)
      rw [← HM.out] at hkw
      obtain rfl : pk = some ⟨M.bk, M.k0, none⟩ := HPK.out.trans (hkw.at_ (by omega))
      have a0 := hkw.cells j hjk2
      obtain ⟨kk, hkk⟩ : ∃ z, z = M.nd.ks.getD j 0 := ⟨_, rfl⟩
      rw [← hkk] at a0 hat1
      have hrec := HIH.out t1 hs1 kk wr vj (ms ++ M :: msj) HP.out.W HP.out.cO HP.out.out HP.out.va hat1 hsz1
      have cP := HP.out.W.cP
      have HREC := Lib.hid hrec; have HSTEP := Lib.hid hstep
      have HJL := Lib.hid (show j + 1 ≤ nk from hjl)
      have hstl := Lib.hid HP.out.stl
      clear hrec hstep hat1 hs1 hsz1 hkw hkk hts hss hjk2
      go_wp2_with fail
      refine HREC.out.mono ?_
      intro e w2 hpost
      obtain ⟨z, rfl, hk2, hz2, hzw2, hcP2, hnext⟩ := HSTEP.out e w2 hpost
      have HNX := Lib.hid hnext; have HK2 := Lib.hid hk2; have HZW := Lib.hid hzw2
      clear hpost hnext hk2 hcP2 a0 cP HREC HSTEP hzw2
      go_wp2_with (at_builtin; refine app_k rfl (.tmp 28) (.tmp 32) rfl w.heap.size (.slice ok nkv ck) st rfl (ownN_below HK2.out ((Below.refl _ _).alloc (Nat.le_refl _) _)) ⟨w2.heap.size, 0, none⟩ (z : Int) rfl (by simp [Addr.add]) (by have := hstl.out; omega) (by have := HZW.out; simp; omega) ?_)
      intro kv' w4 ho4 hg4 hat4
      obtain ⟨vj', msj', rest', hPn⟩ := HNX.out (.cells #[.int .i64 (z : Int)] 3) kv' w4 (by simpa using ho4) hg4 (by simpa using hat4)
      have HPN := Lib.hid hPn
      clear hPn ho4 hg4 hat4 HNX HK2 HP
      go_wp2_with fail
      go_roundw
      case rel => exact ⟨j + 1, vj', msj', _, rest', by go_num, HJL.out, HPN⟩
      case measure => have := HJL.out; simp [intOf]; omega
    · obtain rfl : j = nk := by omega
      obtain ⟨g, n, c, u, rfl, hn1, hn2, hgO, hcu, hfz, hcO, hpost⟩ := HP.out.fin hzO HNK.out hss
      rw [← HNM.out] at hcu hfz hpost hn1
      have HPO := Lib.hid hpost
      have hn1' : nm < n := hn1
      clear hpost hts hss HP
      go_wp2_with fail
      go_ret
      rw [← HNM.out]
      exact HPO.out
end Go.Proofs.YtmechinlaladiaaDoor
