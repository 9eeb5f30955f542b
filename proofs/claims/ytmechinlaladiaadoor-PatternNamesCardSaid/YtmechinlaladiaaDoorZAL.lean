/-
  NODES THAT A CALL PUTS TOGETHER: a row of its own; each node's kids lie in rows apart from it.
  PLAIN: what is made of patterns: the program's answers, as lists of nodes.
-/
import Derived.Maps.AppendAt
import Derived.Laws.AppendOwnNone
import Derived.Test.YtmechinlaladiaaDoorZAK
namespace Go.Proofs.YtmechinlaladiaaDoor
open Go.RowKit Go.Lib
set_option linter.unusedVariables false

/-! ### all blocks but some -/
/-- All blocks but those of X are as they were. -/
structure But (X : Nat → Prop) (w w' : World) : Prop where
  os : w'.os = w.os
  tape : w'.tape = w.tape
  output : w'.output = w.output
  size : w.heap.size ≤ w'.heap.size
  block : ∀ k, k < w.heap.size → ¬ X k → w'.heap[k]? = w.heap[k]?
theorem But.refl (X : Nat → Prop) (w : World) : But X w w := ⟨rfl, rfl, rfl, Nat.le_refl _, fun _ _ _ => rfl⟩
theorem But.trans {X Y : Nat → Prop} {a b c : World} (h : But X a b) (k : But Y b c) (hy : ∀ i, i < a.heap.size → Y i → X i) : But X a c :=
  ⟨k.os.trans h.os, k.tape.trans h.tape, k.output.trans h.output, Nat.le_trans h.size k.size, fun i hi hx => (k.block i (Nat.lt_of_lt_of_le hi h.size) (fun e => hx (hy i hi e))).trans (h.block i hi hx)⟩
theorem But.of_below {X : Nat → Prop} {w w' : World} (h : Below w.heap.size w w') : But X w w' := ⟨h.os, h.tape, h.output, h.size, fun k hk _ => h.block k hk⟩
theorem But.of_below' {N : Nat} {X : Nat → Prop} {w w' : World} (h : Below N w w') (hX : ∀ k, N ≤ k → X k) : But X w w' := ⟨h.os, h.tape, h.output, h.size, fun k _ hx => h.block k (Nat.lt_of_not_le fun e => hx (hX k e))⟩
theorem But.of_grown {w w' : World} {row : Option Nat} {X : Nat → Prop} (h : w.grownBy w' row) (hr : ∀ k, row = some k → X k) : But X w w' := ⟨h.os, h.tape, h.output, h.size, fun k hk hx => h.block k hk fun e => hx (hr k e.symm)⟩
theorem But.alloc {X : Nat → Prop} {a w : World} (h : But X a w) (o : Obj) : But X a (w.alloc o) := h.trans (Y := fun _ => False) (But.of_below ((Below.refl _ _).alloc (Nat.le_refl _) o)) (fun _ _ e => e.elim)
theorem But.drew {X : Nat → Prop} {a w : World} (h : But X a w) : But X a w.drew := ⟨h.os, h.tape, h.output, h.size, h.block⟩
theorem But.setCell {X : Nat → Prop} {a w : World} (h : But X a w) {p : Addr} (hp : p.block < a.heap.size → X p.block) (u : Value) : But X a (w.setCell p u) :=
  ⟨h.os, h.tape, h.output, Nat.le_trans h.size (by simp [World.setCell]), fun k hk hx => by
    have hne : k ≠ p.block := fun e => by subst e; exact hx (hp hk)
    rw [Below.heap_setCell _ _ _ _ hne]; exact h.block k hk hx⟩
theorem But.below {X : Nat → Prop} {N : Nat} {w w' : World} (h : But X w w') (hN : N ≤ w.heap.size) (hX : ∀ k, k < N → ¬ X k) : Below N w w' := ⟨h.os, h.tape, h.output, h.size, fun k hk => h.block k (by omega) (hX k hk)⟩
theorem But.cell {X : Nat → Prop} {w w' : World} (h : But X w w') {p : Addr} {v : Value} (hc : w.cell? p = some v) (hx : ¬ X p.block) : w'.cell? p = some v :=
  (World.cell?_of_block (w := w) (h.block p.block (World.block_lt_of_cell? w p hc) hx)).trans hc
theorem But.frozen {X : Nat → Prop} {w w' : World} (h : But X w w') {p : Addr} (hp : p.block < w.heap.size) (hx : ¬ X p.block) : w'.frozen? p = w.frozen? p := World.frozen?_of_block (w := w) (h.block p.block hp hx)
theorem But.mono {X Y : Nat → Prop} {w w' : World} (h : But X w w') (hy : ∀ i, i < w.heap.size → X i → Y i) : But Y w w' := ⟨h.os, h.tape, h.output, h.size, fun k hk hx => h.block k hk fun e => hx (hy k hk e)⟩

theorem KsIn.keep {pk : Option Addr} {bk k0 c : Nat} {ks : List Int} {w w' : World} {X : Nat → Prop} (h : KsIn pk bk k0 c ks w) (hb : But X w w') (hx : 0 < ks.length → ¬ X bk) : KsIn pk bk k0 c ks w' :=
  ⟨h.at_, fun j hj => hb.cell (p := ⟨bk, k0 + j, none⟩) (h.cells j hj) (hx (by omega)), h.room, h.big, h.bits⟩
theorem own_keep {w w' : World} {X : Nat → Prop} {N size n : Nat} {e : TypeId} {v : Value} {xs : List Value} (h : w.ownsRow N e size v n xs) (hb : But X w w') (hx : ∀ k, v.ownBlock = some k → ¬ X k) : w'.ownsRow N e size v n xs := by
  refine ⟨h.1, ?_⟩
  rcases h.2 with hn | ⟨g, cap, cur, rfl, hg, hgg, rest⟩
  · exact .inl hn
  · exact .inr ⟨g, cap, cur, rfl, hg, (hb.block g (Array.getElem?_eq_some_iff.1 hgg).1 (hx g rfl)).trans hgg, rest⟩

/-! ### nodes, cell by cell -/
def NdM.vs (m : NdM) : List Value := [.int .u8 m.nd.k, .int .i32 m.nd.r, .int .u32 m.nd.p, .int .u32 m.nd.m, .slice m.pk m.nd.ks.length m.c]
def nsC (ms : List NdM) : List Value := ms.flatMap NdM.vs
theorem nsC_length : ∀ ms : List NdM, (nsC ms).length = ms.length * 5
  | [] => rfl
  | m :: ms => by
    have ih := nsC_length ms
    unfold nsC at ih ⊢
    rw [List.flatMap_cons, List.length_append, ih]
    simp [NdM.vs]; omega
theorem nsC_app (a b : List NdM) : nsC (a ++ b) = nsC a ++ nsC b := by simp [nsC]
theorem nsC_single (m : NdM) : nsC [m] = m.vs := by simp [nsC]
theorem nsC_at : ∀ (ms : List NdM) (j : Nat), j < ms.length → (nsC ms)[j * 5]? = some (.int .u8 (ms.getD j default).nd.k) ∧ (nsC ms)[j * 5 + 1]? = some (.int .i32 (ms.getD j default).nd.r) ∧ (nsC ms)[j * 5 + 2]? = some (.int .u32 (ms.getD j default).nd.p) ∧ (nsC ms)[j * 5 + 3]? = some (.int .u32 (ms.getD j default).nd.m) ∧ (nsC ms)[j * 5 + 4]? = some (.slice (ms.getD j default).pk (ms.getD j default).nd.ks.length (ms.getD j default).c)
  | m :: ms, 0, _ => ⟨rfl, rfl, rfl, rfl, rfl⟩
  | m :: ms, j + 1, h => by
    have ih := nsC_at ms j (by simpa using h)
    have e : ∀ i, (nsC (m :: ms))[i + 5]? = (nsC ms)[i]? := fun i => rfl
    rw [show (j + 1) * 5 = j * 5 + 5 by omega, e, show j * 5 + 5 + 1 = j * 5 + 1 + 5 by omega, e, show j * 5 + 5 + 2 = j * 5 + 2 + 5 by omega, e, show j * 5 + 5 + 3 = j * 5 + 3 + 5 by omega, e, show j * 5 + 5 + 4 = j * 5 + 4 + 5 by omega, e]
    exact ih
theorem nsC_one (ms : List NdM) (u : Value) (hu : u ∈ nsC ms) : u.oneCell' = true := by
  obtain ⟨m, _, hl⟩ := List.mem_flatMap.1 hu
  simp [NdM.vs] at hl
  rcases hl with rfl | rfl | rfl | rfl | rfl <;> rfl

/-- Nodes in a row of the call's own; each one's kids lie apart from it, and not in blocks of F. -/
structure OutN (N : Nat) (F : Nat → Prop) (v : Value) (ms : List NdM) (w : World) : Prop where
  own : w.ownsRow N 36 5 v ms.length (nsC ms)
  kids : ∀ m ∈ ms, KsIn m.pk m.bk m.k0 m.c m.nd.ks w
  apart : ∀ m ∈ ms, 0 < m.nd.ks.length → ¬ v.ownBlock = some m.bk ∧ ¬ F m.bk
  ok : ∀ m ∈ ms, m.Ok
theorem KsIn.lt {pk : Option Addr} {bk k0 c : Nat} {ks : List Int} {w : World} (h : KsIn pk bk k0 c ks w) (h0 : 0 < ks.length) : bk < w.heap.size := blk_of_cell (h.cells 0 h0)
theorem OutN.nil (N : Nat) (F : Nat → Prop) (w : World) : OutN N F (.slice none 0 0) [] w := ⟨World.ownsRow_nil _ _ _ _, by simp, by simp, by simp⟩
theorem OutN.keep {N : Nat} {F X : Nat → Prop} {v : Value} {ms : List NdM} {w w' : World} (h : OutN N F v ms w) (hb : But X w w') (hx : ∀ k, v.ownBlock = some k → ¬ X k) (hk : ∀ m ∈ ms, 0 < m.nd.ks.length → ¬ X m.bk) : OutN N F v ms w' :=
  ⟨own_keep h.own hb hx, fun m hm => (h.kids m hm).keep hb (hk m hm), h.apart, h.ok⟩
theorem OutN.next {N : Nat} {F : Nat → Prop} {v : Value} {ms : List NdM} {w w' : World} (h : OutN N F v ms w) (hb : Below w.heap.size w w') : OutN N F v ms w' :=
  h.keep (X := fun _ => False) (But.of_below hb) (fun _ _ e => e) (fun _ _ _ e => e)
/-- Behind an append. -/
theorem OutN.push {N : Nat} {F : Nat → Prop} {v v' : Value} {ms : List NdM} {m : NdM} {w w' : World} (h : OutN N F v ms w) (ho : w'.ownsRow N 36 5 v' (ms.length + 1) (nsC ms ++ m.vs)) (hg : w.grownBy w' v.ownBlock)
    (hat : v'.ownBlock = v.ownBlock ∨ v'.ownBlock = some w.heap.size) (hk : KsIn m.pk m.bk m.k0 m.c m.nd.ks w) (hap : 0 < m.nd.ks.length → ¬ v.ownBlock = some m.bk ∧ ¬ F m.bk) (hok : m.Ok) : OutN N F v' (ms ++ [m]) w' := by
  have hall : ∀ q ∈ ms ++ [m], KsIn q.pk q.bk q.k0 q.c q.nd.ks w ∧ (0 < q.nd.ks.length → ¬ v.ownBlock = some q.bk ∧ ¬ F q.bk) ∧ q.Ok := fun q hq => by
    rcases List.mem_append.1 hq with hq | hq
    · exact ⟨h.kids q hq, h.apart q hq, h.ok q hq⟩
    · rw [List.mem_singleton.1 hq]; exact ⟨hk, hap, hok⟩
  refine ⟨by rw [List.length_append, nsC_app, nsC_single]; exact ho, fun q hq => ?_, fun q hq h0 => ⟨fun e => ?_, ((hall q hq).2.1 h0).2⟩, fun q hq => (hall q hq).2.2⟩
  · refine (hall q hq).1.keep (X := fun k => v.ownBlock = some k) (But.of_grown hg (fun k e => e)) (fun h0 => ((hall q hq).2.1 h0).1)
  · have hlt := (hall q hq).1.lt h0
    rcases hat with e2 | e2
    · exact ((hall q hq).2.1 h0).1 (e2 ▸ e)
    · rw [e2] at e
      injection e with e
      omega
/-- A row of the call's own, one cell written. -/
theorem own_set {w : World} {N size n : Nat} {e : TypeId} {xs : List Value} {g cap : Nat} (h : w.ownsRow N e size (.slice (some ⟨g, 0, none⟩) n cap) n xs) (i : Nat) (hi : i < n * size) (u : Value) :
    (w.setCell ⟨g, i, none⟩ u).ownsRow N e size (.slice (some ⟨g, 0, none⟩) n cap) n (xs.set i u) := by
  refine ⟨by rw [List.length_set]; exact h.1, ?_⟩
  rcases h.2 with ⟨e, _⟩ | ⟨g', cap', cur, e, hg, hh, h1, h2, h3, h4⟩
  · cases e
  · cases e
    have hcap : n * size ≤ cap * size := Nat.mul_le_mul_right _ h1
    refine .inr ⟨g, cap, cur.set! i u, rfl, hg, ?_, h1, h2, by simp [h3], ?_⟩
    · simp only [World.setCell, Array.getElem?_modify, if_true, hh, Option.map_some]
      rfl
    · rw [← h4]
      simp [List.take_set]
theorem OutN.len {N : Nat} {F : Nat → Prop} {v : Value} {ms : List NdM} {w : World} (h : OutN N F v ms w) : ∃ p c, v = .slice p ms.length c := by
  rcases h.own.2 with ⟨rfl, hn⟩ | ⟨g, cap, cur, rfl, _⟩
  · exact ⟨none, 0, by rw [hn]⟩
  · exact ⟨_, cap, rfl⟩
theorem nsC_set (a b : List NdM) (m m' : NdM) (e : m'.nd.k = m.nd.k ∧ m'.nd.r = m.nd.r ∧ m'.nd.p = m.nd.p ∧ m'.nd.m = m.nd.m) : (nsC (a ++ m :: b)).set (a.length * 5 + 4) (.slice m'.pk m'.nd.ks.length m'.c) = nsC (a ++ m' :: b) := by
  have h1 : ∀ q : NdM, nsC (a ++ q :: b) = nsC a ++ (q.vs ++ nsC b) := fun q => by simp [nsC]
  obtain ⟨e1, e2, e3, e4⟩ := e
  rw [h1, h1, List.set_append_right _ _ (by rw [nsC_length]; omega), nsC_length, show a.length * 5 + 4 - a.length * 5 = 4 by omega]
  simp [NdM.vs, e1, e2, e3, e4]
/-- A node's kids are set. -/
theorem OutN.setK {N : Nat} {F : Nat → Prop} {g cap n : Nat} {a b : List NdM} {m m' : NdM} {w : World} (h : OutN N F (.slice (some ⟨g, 0, none⟩) n cap) (a ++ m :: b) w) (e : m'.nd.k = m.nd.k ∧ m'.nd.r = m.nd.r ∧ m'.nd.p = m.nd.p ∧ m'.nd.m = m.nd.m)
    (hk : KsIn m'.pk m'.bk m'.k0 m'.c m'.nd.ks w) (hap : 0 < m'.nd.ks.length → ¬ g = m'.bk ∧ ¬ F m'.bk) : OutN N F (.slice (some ⟨g, 0, none⟩) n cap) (a ++ m' :: b) (w.setCell ⟨g, a.length * 5 + 4, none⟩ (.slice m'.pk m'.nd.ks.length m'.c)) := by
  obtain ⟨p, c, he⟩ := h.len
  have hlen : n = (a ++ m :: b).length := by injection he
  have hlen2 : (a ++ m' :: b).length = n := by rw [hlen]; simp
  have hb : But (fun k => k = g) w (w.setCell ⟨g, a.length * 5 + 4, none⟩ (.slice m'.pk m'.nd.ks.length m'.c)) := (But.refl (fun k => k = g) w).setCell (p := ⟨g, a.length * 5 + 4, none⟩) (fun _ => rfl) _
  have hall : ∀ q ∈ a ++ m' :: b, KsIn q.pk q.bk q.k0 q.c q.nd.ks w ∧ (0 < q.nd.ks.length → ¬ g = q.bk ∧ ¬ F q.bk) ∧ q.Ok := fun q hq => by
    have old : q ∈ a ++ m :: b → KsIn q.pk q.bk q.k0 q.c q.nd.ks w ∧ (0 < q.nd.ks.length → ¬ g = q.bk ∧ ¬ F q.bk) ∧ q.Ok := fun hq =>
      ⟨h.kids q hq, fun h0 => ⟨fun e => (h.apart q hq h0).1 (by rw [e]; rfl), (h.apart q hq h0).2⟩, h.ok q hq⟩
    rcases List.mem_append.1 hq with hq | hq
    · exact old (List.mem_append_left _ hq)
    · rcases List.mem_cons.1 hq with rfl | hq
      · have hm := h.ok m (by simp)
        exact ⟨hk, hap, ⟨by rw [e.1]; exact hm.k, by rw [e.2.1]; exact hm.r, by rw [e.2.2.1]; exact hm.p, by rw [e.2.2.2]; exact hm.m_⟩⟩
      · exact old (List.mem_append_right _ (List.mem_cons_of_mem _ hq))
  refine ⟨?_, fun q hq => (hall q hq).1.keep hb (fun h0 e => ((hall q hq).2.1 h0).1 e.symm), fun q hq h0 => ⟨fun e => ((hall q hq).2.1 h0).1 (by injection e), ((hall q hq).2.1 h0).2⟩, fun q hq => (hall q hq).2.2⟩
  have ho := h.own
  rw [← hlen] at ho
  have := own_set ho (a.length * 5 + 4) (by rw [hlen]; simp; omega) (.slice m'.pk m'.nd.ks.length m'.c)
  rw [nsC_set a b m m' e] at this
  rw [hlen2]
  exact this
theorem OutN.nsin {N : Nat} {F : Nat → Prop} {v : Value} {ms : List NdM} {w : World} (h : OutN N F v ms w) (hb : ms.length ≤ 140737488355328) : ∃ pn bn c, v = .slice pn ms.length c ∧ NsIn pn bn 0 ms w ∧ (0 < ms.length → N ≤ bn) := by
  have hmem : ∀ j, j < ms.length → ms.getD j default ∈ ms := fun j hj => by
    rw [List.getD_eq_getElem?_getD, List.getElem?_eq_getElem hj]; exact List.getElem_mem hj
  rcases h.own.2 with ⟨rfl, hn⟩ | ⟨g, cap, cur, rfl, hgN, _, hc, _⟩
  · exact ⟨none, 0, 0, by rw [hn], ⟨fun h => absurd h (by omega), fun j hj => absurd hj (by omega), fun j hj => absurd hj (by omega), fun j hj => absurd hj (by omega), hb⟩, fun h => absurd h (by omega)⟩
  · have hc2 := fun i (hi : i < ms.length * 5) => h.own.cellAt i hi
    refine ⟨_, g, cap, rfl, ⟨fun _ => rfl, fun j hj => ?_, fun j hj => h.kids _ (hmem j hj), fun j hj => h.ok _ (hmem j hj), hb⟩, fun _ => hgN⟩
    obtain ⟨q0, q1, q2, q3, q4⟩ := nsC_at ms j hj
    rw [Nat.zero_add]
    exact ⟨by rw [hc2 _ (by omega)]; exact q0, by rw [hc2 _ (by omega)]; exact q1, by rw [hc2 _ (by omega)]; exact q2, by rw [hc2 _ (by omega)]; exact q3, by rw [hc2 _ (by omega)]; exact q4⟩
theorem own_ks {w : World} {N : Nat} {v : Value} {ks : List Int} (h : w.ownsRow N 3 1 v ks.length (ks.map fun k => .int .i64 k)) (hb : ks.length ≤ 140737488355328) (hbits : ∀ k ∈ ks, -9223372036854775808 ≤ k ∧ k ≤ 9223372036854775807) :
    ∃ pk bk c, v = .slice pk ks.length c ∧ KsIn pk bk 0 c ks w ∧ (0 < ks.length → N ≤ bk ∧ v.ownBlock = some bk) := by
  rcases h.2 with ⟨rfl, hn⟩ | ⟨g, cap, cur, rfl, hgN, _, hc, _⟩
  · exact ⟨none, 0, 0, by rw [hn], ⟨fun h => absurd h (by omega), fun j hj => absurd hj (by omega), by omega, hb, hbits⟩, fun h => absurd h (by omega)⟩
  · refine ⟨_, g, cap, rfl, ⟨fun _ => rfl, fun j hj => ?_, hc, hb, hbits⟩, fun _ => ⟨hgN, rfl⟩⟩
    rw [Nat.zero_add, h.cellAt j (by omega), List.getElem?_map, List.getD_eq_getElem?_getD, List.getElem?_eq_getElem hj]
    rfl
theorem node_info : (Tryd.prog.info? 36).map (fun i => (i.zero, i.size, i.bytes)) = some (some (.agg #[.int .u8 0, .int .i32 0, .int .u32 0, .int .u32 0, .slice none 0 0]), 5, 40) := by kernel_rfl
theorem int_info : (Tryd.prog.info? 3).map (fun i => (i.zero, i.size, i.bytes)) = some (some (.int .i64 0), 1, 8) := by kernel_rfl

/-! ### turned or not -/
def Tr.tn (tb : Bool) (t : Tr) : Tr := if tb = true then t.turn else t
def Ts.tns (tb : Bool) (ts : Ts) : Ts := if tb = true then ts.turns else ts
theorem Ts.tns_cons (tb : Bool) (t : Tr) (ts : Ts) : (Ts.cons t ts).tns tb = .cons (t.tn tb) (ts.tns tb) := by cases tb <;> rfl
theorem Ts.tns_nil (tb : Bool) : (Ts.nil).tns tb = .nil := by cases tb <;> rfl
theorem Tr.tn_sz (tb : Bool) (t : Tr) : (t.tn tb).sz = t.sz := by cases tb <;> simp [Tr.tn, Tr.turn_sz]
theorem Ts.tns_sz (tb : Bool) (ts : Ts) : (ts.tns tb).sz = ts.sz := by cases tb <;> simp [Ts.tns, Ts.turns_sz]
theorem Ts.turns_app : ∀ a b : Ts, (a.app b).turns = a.turns.app b.turns
  | .nil, b => rfl
  | .cons t ts, b => by simp [Ts.app, Ts.turns, Ts.turns_app ts b]
theorem Ts.turns_rev : ∀ a : Ts, a.rev.turns = a.turns.rev
  | .nil => rfl
  | .cons t ts => by simp [Ts.rev, Ts.turns, Ts.turns_app, Ts.turns_rev ts]
theorem Tr.tn_nd (tb : Bool) (k : Nat) (r : Int) (p m : Nat) (ts : Ts) : (Tr.nd k r p m ts).tn tb = .nd k r p m ((if tb = true ∧ k = 6 then ts.rev else ts).tns tb) := by
  cases tb
  · simp [Tr.tn, Ts.tns]
  · by_cases h : k = 6
    · simp [Tr.tn, Ts.tns, Tr.turn, h, Ts.turns_rev]
    · simp [Tr.tn, Ts.tns, Tr.turn, h]

/-! ### some trees, one after the other: how far one is -/
/-- Of trees, from b on: the nodes pre are put, they begin at st; rest is left, at the numbers rk. -/
structure Sofar (tb : Bool) (ns : List Nd) (b : Nat) (ts : Ts) (pre : List Nd) (st : List Int) (rest : Ts) (rk : List Int) : Prop where
  flats : pre ++ (rest.tns tb).flats (b + pre.length) = (ts.tns tb).flats b
  starts : st ++ (rest.tns tb).starts (b + pre.length) = (ts.tns tb).starts b
  ats : rest.Ats ns rk
  sz : pre.length + rest.sz = ts.sz
theorem Sofar.start {tb : Bool} {ns : List Nd} {b : Nat} {ts : Ts} {ks : List Int} (h : ts.Ats ns ks) : Sofar tb ns b ts [] [] ts ks := ⟨by simp, by simp, h, by simp⟩
theorem Sofar.step {tb : Bool} {ns : List Nd} {b : Nat} {ts : Ts} {pre : List Nd} {st : List Int} {rest : Ts} {k : Int} {rk : List Int} (h : Sofar tb ns b ts pre st rest (k :: rk)) :
    ∃ (t : Tr) (rest' : Ts), t.At ns k ∧ pre.length + t.sz ≤ ts.sz ∧ Sofar tb ns b ts (pre ++ (t.tn tb).flat (b + pre.length)) (st ++ [((b + pre.length : Nat) : Int)]) rest' rk := by
  have ha := h.ats
  cases rest with
  | nil => exact absurd ha (by intro e; cases e)
  | cons t rest' =>
    obtain ⟨i, is', e, h1, h2⟩ := ha
    cases e
    have hs := h.sz
    simp only [Ts.sz] at hs
    refine ⟨t, rest', h1, by omega, ?_, ?_, h2, ?_⟩
    · rw [← h.flats, List.length_append, Tr.flat_length, List.append_assoc, ← Nat.add_assoc, Ts.tns_cons]
      rfl
    · rw [← h.starts, List.length_append, Tr.flat_length, List.append_assoc, ← Nat.add_assoc, Ts.tns_cons]
      rfl
    · rw [List.length_append, Tr.flat_length, Tr.tn_sz]
      omega
theorem Sofar.done {tb : Bool} {ns : List Nd} {b : Nat} {ts : Ts} {pre : List Nd} {st : List Int} {rest : Ts} (h : Sofar tb ns b ts pre st rest []) : pre = (ts.tns tb).flats b ∧ st = (ts.tns tb).starts b := by
  have ha := h.ats
  cases rest with
  | nil =>
    have h1 := h.flats
    have h2 := h.starts
    rw [Ts.tns_nil] at h1 h2
    simp only [Ts.flats, Ts.starts, List.append_nil] at h1 h2
    exact ⟨h1, h2⟩
  | cons t rest' =>
    obtain ⟨i, is', e, _⟩ := ha
    cases e
end Go.Proofs.YtmechinlaladiaaDoor
namespace Go.Proofs.YtmechinlaladiaaDoor
open Go.RowKit Go.Lib
set_option linter.unusedVariables false
instance : Inhabited Tr := ⟨.nd 0 0 0 0 .nil⟩
noncomputable def treeB (ns : List Nd) : Bool := @decide (IsTree ns) (Classical.propDecidable _)
theorem treeB_iff (ns : List Nd) : treeB ns = true ↔ IsTree ns := by unfold treeB; exact @decide_eq_true_iff _ (Classical.propDecidable _)
theorem treeB_no {ns : List Nd} (h : treeB ns = false) : ¬ IsTree ns := fun t => by rw [(treeB_iff ns).2 t] at h; cases h
def tr0 (ns : List Nd) : Tr := tre ns 0
theorem tr0_at {ns : List Nd} (h : IsTree ns) : (tr0 ns).At ns 0 := tre_is h ns.length 0 (by omega) h.one
theorem tr0_sz {ns : List Nd} (h : IsTree ns) : (tr0 ns).sz = ns.length := tre_sz h
/-- How far the second loop is: of the trees tl, i are put. -/
structure SofarL (tl : List Tr) (i : Nat) (pre : List Nd) (st : List Int) : Prop where
  flats : pre ++ (ofL (tl.drop i)).flats (1 + pre.length) = (ofL tl).flats 1
  starts : st ++ (ofL (tl.drop i)).starts (1 + pre.length) = (ofL tl).starts 1
  sz : pre.length + (ofL (tl.drop i)).sz = (ofL tl).sz
theorem SofarL.start (tl : List Tr) : SofarL tl 0 [] [] := ⟨by simp, by simp, by simp⟩
theorem SofarL.step {tl : List Tr} {i : Nat} {pre : List Nd} {st : List Int} (h : SofarL tl i pre st) (hi : i < tl.length) : pre.length + (tl.getD i default).sz ≤ (ofL tl).sz ∧ SofarL tl (i + 1) (pre ++ (tl.getD i default).flat (1 + pre.length)) (st ++ [((1 + pre.length : Nat) : Int)]) := by
  have e : tl.drop i = tl.getD i default :: tl.drop (i + 1) := by
    rw [List.drop_eq_getElem_cons hi, List.getD_eq_getElem?_getD, List.getElem?_eq_getElem hi]; rfl
  have h1 := h.flats
  have h2 := h.starts
  have h3 := h.sz
  rw [e] at h1 h2 h3
  simp only [ofL, Ts.sz] at h3
  refine ⟨by omega, ?_, ?_, ?_⟩
  · rw [← h1, List.length_append, Tr.flat_length, List.append_assoc, ← Nat.add_assoc]
    rfl
  · rw [← h2, List.length_append, Tr.flat_length, List.append_assoc, ← Nat.add_assoc]
    rfl
  · rw [List.length_append, Tr.flat_length]
    omega
theorem SofarL.done {tl : List Tr} {pre : List Nd} {st : List Int} (h : SofarL tl tl.length pre st) : pre = (ofL tl).flats 1 ∧ st = (ofL tl).starts 1 := by
  have h1 := h.flats
  have h2 := h.starts
  rw [List.drop_length] at h1 h2
  simp only [ofL, Ts.flats, Ts.starts, List.append_nil] at h1 h2
  exact ⟨h1, h2⟩
/-- How many nodes some patterns have. -/
def sumN (l : List (List Nd)) : Nat := (l.map List.length).sum
theorem allN_snoc (l : List (List Nd)) (x : List Nd) : sumN (l ++ [x]) = sumN l + x.length := by simp [sumN]
/-- What comes of a node above some patterns: the error. -/
noncomputable def madeE (l : List (List Nd)) : Nat := if 256 < l.length then 4 else if l.all treeB = true then (if 256 < 1 + sumN l then 4 else 0) else 40
def madeN (kind : Nat) (l : List (List Nd)) : List Nd := (Tr.nd kind 0 0 0 (ofL (l.map tr0))).flat 0
theorem made_sz {l : List (List Nd)} (h : l.all treeB = true) : (ofL (l.map tr0)).sz = sumN l := by
  rw [ofL_sz, List.map_map]
  unfold sumN
  congr 1
  apply List.map_congr_left
  intro ns hns
  exact tr0_sz ((treeB_iff ns).1 (List.all_eq_true.1 h ns hns))
theorem made_le {l : List (List Nd)} (h : l.all treeB = true) : sumN l ≤ l.length * 256 := by
  induction l with
  | nil => simp [sumN]
  | cons a l ih =>
    simp only [List.all_cons, Bool.and_eq_true] at h
    have := ih h.2
    have := ((treeB_iff a).1 h.1).most
    simp only [sumN, List.map_cons, List.sum_cons, List.length_cons] at *
    omega
theorem madeN_length {kind : Nat} {l : List (List Nd)} (h : l.all treeB = true) : (madeN kind l).length = 1 + sumN l := by
  unfold madeN
  rw [Tr.flat_length, Tr.sz, made_sz h]
theorem madeN_eq (kind : Nat) (l : List (List Nd)) : madeN kind l = ⟨kind, 0, 0, 0, (ofL (l.map tr0)).starts 1⟩ :: (ofL (l.map tr0)).flats 1 := rfl
/-- Turned, compared. -/
def turnN (ns : List Nd) : List Nd := (tr0 ns).turn.flat 0
def normN (ns : List Nd) : List Nd := (tr0 ns).flat 0
noncomputable def sameB (a b : List Nd) : Bool := treeB a && treeB b && @decide (normN a = normN b) (Classical.propDecidable _)
theorem sameB_iff (a b : List Nd) : sameB a b = true ↔ IsTree a ∧ IsTree b ∧ normN a = normN b := by
  unfold sameB
  rw [Bool.and_eq_true, Bool.and_eq_true, treeB_iff, treeB_iff, @decide_eq_true_iff _ (Classical.propDecidable _), and_assoc]
theorem sameB_self (a : List Nd) : sameB a a = treeB a := by
  rw [Bool.eq_iff_iff, sameB_iff, treeB_iff]
  exact ⟨fun h => h.1, fun h => ⟨h, h, rfl⟩⟩
theorem starts_bits : ∀ (ts : Ts) (b : Nat), b + ts.sz ≤ 1000000 → ∀ k ∈ ts.starts b, -9223372036854775808 ≤ k ∧ k ≤ 9223372036854775807
  | .nil, _, _, k, hk => absurd hk (by simp [Ts.starts])
  | .cons t ts, b, h, k, hk => by
    simp only [Ts.sz] at h
    rcases List.mem_cons.1 hk with rfl | hk
    · omega
    · exact starts_bits ts (b + t.sz) (by omega) k hk
end Go.Proofs.YtmechinlaladiaaDoor
