/-
  A PATTERN, A []api.Pattern THAT CAME IN.
  WALKS: pattern.putTree, numbered.
  WALKS OF SMALL FUNCTIONS OF THE DOCUMENT's ANSWER (cognateref01): tail, Rune.
-/
import Derived.ProofKit
import Derived.SizedLaws
import Derived.Lib.SmallJoins
import Derived.Deep.Strs
import Derived.Deep.Slices
import Derived.Laws.EntriesVeiled
import Derived.Test.YtmechinlaladiaaDoorProg
import Derived.WalkKit
import Derived.WalkSpells
import Derived.WalkLawsBesides
import Derived.Lib.Hide
import Derived.Test.YtmechinlaladiaaDoorZAL
import Derived.Test.YtmechinlaladiaaDoorZAM
import Derived.Test.YtmechinlaladiaaDoorZAJ
namespace Go.Proofs.YtmechinlaladiaaDoor
open Go.ChangeShapes Go.WideShapes Go.ChangeAt Go.RowKit Go.Joins Go.Deep
set_option linter.unusedVariables false
theorem ownP : ownKnob Tryd.prog.godebug = none := by kernel_rfl
theorem laidP : laidOutB Tryd.prog = true := by kernel_rfl
theorem adc {w : World} {a : Addr} {v : Value} (i k : Nat) (h : w.cell? ((a.add i).add k) = some v) : w.cell? ⟨a.block, a.off + i + k, none⟩ = some v := by
  have hs := World.cell?_spot h
  have e : (a.add i).add k = ⟨a.block, a.off + i + k, none⟩ := by
    obtain ⟨b, o, s⟩ := a
    unfold Addr.add at hs ⊢
    by_cases hk : k = 0
    · subst hk
      by_cases hi : i = 0
      · subst hi; simp at hs ⊢; exact hs
      · simp [hi]
    · by_cases hi : i = 0
      · subst hi; simp [hk]
      · simp [hi, hk]
  rw [e] at h
  exact h
theorem adc1 {w : World} {a : Addr} {v : Value} (i : Nat) (h : w.cell? (a.add i) = some v) : w.cell? ⟨a.block, a.off + i, none⟩ = some v := by
  have := adc (w := w) (a := a) (v := v) i 0 (by rw [show (a.add i).add 0 = a.add i from by unfold Addr.add; simp]; exact h)
  simpa using this
theorem adc0 {w : World} {a : Addr} {v : Value} (h : w.cell? (a.add 0) = some v) : some a = some (⟨a.block, a.off, none⟩ : Addr) := by
  rw [show a.add 0 = a from by unfold Addr.add; simp] at h
  have hs := World.cell?_spot h
  obtain ⟨b, o, s⟩ := a
  simp only at hs
  rw [hs]

/-- What a copy of a node's kids wants. -/
structure NdM.X (m : NdM) : Prop where
  nil : m.pk = none → m.nd.ks.length = 0 ∧ m.c = 0
  room : m.nd.ks.length * 8 ≤ 140737488355328
/-- A pattern, and where its nodes lie. -/
structure PtM where
  ms : List NdM
  pn : Option Addr
  bn : Nat
  n0 : Nat
  c : Nat
instance : Inhabited PtM := ⟨⟨[], none, 0, 0, 0⟩⟩
def PtM.v (p : PtM) : Value := .agg #[.slice p.pn p.ms.length p.c]
structure PtM.In (p : PtM) (w : World) : Prop where
  i : NsIn p.pn p.bn p.n0 p.ms w
  x : ∀ m ∈ p.ms, m.X
/-- Its nodes alone. -/
structure PtM.I (p : PtM) (w : World) : Prop where
  i : NsIn p.pn p.bn p.n0 p.ms w
theorem PtM.I.next {p : PtM} {w w' : World} (h : p.I w) (hb : Below w.heap.size w w') : p.I w' := ⟨h.i.next hb⟩
theorem PtM.In.next {p : PtM} {w w' : World} (h : p.In w) (hb : Below w.heap.size w w') : p.In w' := ⟨h.i.next hb, h.x⟩
/-- A row of patterns. -/
structure PsIn (pp : Option Addr) (bp p0 : Nat) (ps : List PtM) (w : World) : Prop where
  at_ : 0 < ps.length → pp = some ⟨bp, p0, none⟩
  cells : ∀ j, j < ps.length → w.cell? ⟨bp, p0 + j, none⟩ = some (.slice (ps.getD j default).pn (ps.getD j default).ms.length (ps.getD j default).c)
  pats : ∀ j, j < ps.length → (ps.getD j default).I w
  big : ps.length ≤ 140737488355328
theorem PsIn.next {pp : Option Addr} {bp p0 : Nat} {ps : List PtM} {w w' : World} (h : PsIn pp bp p0 ps w) (hb : Below w.heap.size w w') : PsIn pp bp p0 ps w' :=
  ⟨h.at_, fun j hj => by have h1 := h.cells j hj; rw [hb.cell (p := ⟨bp, p0 + j, none⟩) (blk_of_cell h1)]; exact h1, fun j hj => (h.pats j hj).next hb, h.big⟩
section
variable {H : Type} {enc : TypeId × Value → H} {W : World} {base : Nat}
theorem w_all (P : Program) (t : TypeId) : ∀ (l : List (DataW H)) (d : DataW H), d ∈ l → ∀ k ∈ d.weights P t, k ∈ DataW.weightsAll P t l := by
  intro l
  induction l with
  | nil => intro d hd; exact absurd hd (by simp)
  | cons x r ih =>
    intro d hd k hk
    simp only [DataW.weightsAll, List.mem_append]
    rcases List.mem_cons.1 hd with rfl | hd
    · exact Or.inl hk
    · exact Or.inr (ih d hd k hk)
theorem choose_any {α : Type} [Inhabited α] {m : Nat} {p : Nat → α → Prop} (h : ∀ i, i < m → ∃ l, p i l) : ∃ f : Nat → α, ∀ i, i < m → p i (f i) :=
  ⟨fun i => if hi : i < m then (h i hi).choose else default, fun i hi => by simp only [dif_pos hi]; exact (h i hi).choose_spec⟩
theorem u8_of {a : Int} (w0 : (Lit.int .u8 a).wf = true) : 0 ≤ a ∧ a < 256 := by
  simp only [Lit.wf, IntKind.min, IntKind.max, IntKind.signed, IntKind.bits, Bool.and_eq_true] at w0
  simp at w0
  omega
theorem u32_of {a : Int} (w0 : (Lit.int .u32 a).wf = true) : 0 ≤ a ∧ a < 4294967296 := by
  simp only [Lit.wf, IntKind.min, IntKind.max, IntKind.signed, IntKind.bits, Bool.and_eq_true] at w0
  simp at w0
  omega
theorem i32_of {a : Int} (w0 : (Lit.int .i32 a).wf = true) : -2147483648 ≤ a ∧ a ≤ 2147483647 := by
  simp only [Lit.wf, IntKind.min, IntKind.max, IntKind.signed, IntKind.bits, Bool.and_eq_true, decide_eq_true_eq] at w0
  simp at w0
  omega
theorem i64_of {a : Int} (w0 : (Lit.int .i64 a).wf = true) : -9223372036854775808 ≤ a ∧ a ≤ 9223372036854775807 := by
  simp only [Lit.wf, IntKind.min, IntKind.max, IntKind.signed, IntKind.bits, Bool.and_eq_true, decide_eq_true_eq] at w0
  simp at w0
  omega
set_option maxRecDepth 100000 in
theorem open_ks {n : Nat} {c : Value} {y : DataW H × List MemPlace} (h : DataW.trod enc Tryd.prog W 0 (fun _ => true) true n 34 [c] = some y) (hsz : ∀ k ∈ y.1.weights Tryd.prog 34, k ≤ reachBytes) :
    ∃ (pk : Option Addr) (bk k0 ck : Nat) (ks : List Int), c = .slice pk ks.length ck ∧ KsIn pk bk k0 ck ks W ∧ (pk = none → ks.length = 0 ∧ ck = 0) ∧ ks.length * 8 ≤ 140737488355328 := by
  rcases open_slice1 Tryd.underlying34 (by kernel_rfl) h with ⟨hcs, hx⟩ | ⟨a, len, cap, m, n', V, D, Pl, hcs, _, hl, hm, hmm, hx, hcell⟩
  · obtain rfl : c = .slice none 0 0 := by simpa using hcs
    exact ⟨none, 0, 0, 0, [], rfl, ⟨fun h => absurd h (by decide), fun j hj => absurd hj (by simp), by decide, by decide, fun k hk => absurd hk (by simp)⟩, fun _ => ⟨rfl, rfl⟩, by decide⟩
  · obtain rfl : c = .slice (some a) len cap := by simpa using hcs
    obtain rfl : m = cap := by simpa using hmm
    rw [hx] at hsz
    have hb : (Tryd.prog).bytesOf 3 = 8 := by kernel_rfl
    have hsl : (len + (m - len)) * 8 ≤ reachBytes := by
      have := hsz _ (by simp only [DataW.weights, Tryd.underlying34]; exact List.mem_cons_self)
      simpa [hb] using this
    have hr : reachBytes < 140737488355328 := by decide
    obtain ⟨L, hL⟩ := choose_any (m := m) (p := fun i (x : Int) => W.cell? ⟨a.block, a.off + i, none⟩ = some (.int .i64 x) ∧ -9223372036854775808 ≤ x ∧ x ≤ 9223372036854775807) (fun i hi => by
      obtain ⟨h1, h2⟩ := hcell i hi
      obtain ⟨x, e0, _, wf⟩ := DataW.trod_int Tryd.underlying3 h2
      simp only [List.cons.injEq, and_true] at e0
      rw [e0] at h1
      exact ⟨x, adc1 i h1, i64_of wf⟩)
    have hfl : ((List.range len).map L).length = len := by simp
    have hget : ∀ j, j < len → ((List.range len).map L).getD j 0 = L j := fun j hj => by
      rw [List.getD_eq_getElem?_getD, List.getElem?_map, List.getElem?_range hj]; rfl
    refine ⟨some a, a.block, a.off, m, (List.range len).map L, by rw [hfl], ⟨fun h0 => ?_, fun j hj => ?_, by rw [hfl]; exact hl, by rw [hfl]; omega, fun k hk => ?_⟩, ⟨(fun e => by cases e), (by rw [hfl]; omega)⟩⟩
    · rw [hfl] at h0
      exact adc0 (hcell 0 (by omega)).1
    · rw [hfl] at hj
      rw [hget j hj]
      exact (hL j (by omega)).1
    · obtain ⟨j, hj, rfl⟩ := List.mem_map.1 hk
      exact (hL j (by have := List.mem_range.1 hj; omega)).2
theorem list5 {α : Type} {l : List α} (h : l.length = 5) : ∃ a b c d e, l = [a, b, c, d, e] := by
  match l, h with
  | [a, b, c, d, e], _ => exact ⟨a, b, c, d, e, rfl⟩
set_option maxRecDepth 100000 in
theorem open_node {n : Nat} {cs : List Value} {y : DataW H × List MemPlace} (h : DataW.trod enc Tryd.prog W 0 (fun _ => true) true n 36 cs = some y) (hsz : ∀ k ∈ y.1.weights Tryd.prog 36, k ≤ reachBytes) :
    ∃ m : NdM, cs = m.vs ∧ m.Ok ∧ KsIn m.pk m.bk m.k0 m.c m.nd.ks W ∧ m.X := by
  obtain ⟨xs, k, _, hy, hlen, hxs, hf⟩ := DataW.trod_struct Tryd.underlying36 h
  have hlen : cs.length = 5 := hlen.trans (by kernel_rfl)
  have k0 : (Tryd.prog).cellsOf 5 = 1 := by kernel_rfl
  have k1 : (Tryd.prog).cellsOf 21 = 1 := by kernel_rfl
  have k2 : (Tryd.prog).cellsOf 33 = 1 := by kernel_rfl
  have k4 : (Tryd.prog).cellsOf 34 = 1 := by kernel_rfl
  obtain ⟨c0, c1, c2, c3, c4, rfl⟩ := list5 hlen
  obtain ⟨x0, x1, x2, x3, x4, rfl⟩ := list5 (hxs.trans rfl)
  have h0 : DataW.trod enc Tryd.prog W 0 (fun _ => true) true k 5 (([c0, c1, c2, c3, c4].drop 0).take ((Tryd.prog).cellsOf 5)) = [x0, x1, x2, x3, x4][0]? := hf 0 _ rfl
  rw [k0] at h0
  have h1 : DataW.trod enc Tryd.prog W 0 (fun _ => true) true k 21 (([c0, c1, c2, c3, c4].drop 1).take ((Tryd.prog).cellsOf 21)) = [x0, x1, x2, x3, x4][1]? := hf 1 _ rfl
  rw [k1] at h1
  have h2 : DataW.trod enc Tryd.prog W 0 (fun _ => true) true k 33 (([c0, c1, c2, c3, c4].drop 2).take ((Tryd.prog).cellsOf 33)) = [x0, x1, x2, x3, x4][2]? := hf 2 _ rfl
  rw [k2] at h2
  have h3 : DataW.trod enc Tryd.prog W 0 (fun _ => true) true k 33 (([c0, c1, c2, c3, c4].drop 3).take ((Tryd.prog).cellsOf 33)) = [x0, x1, x2, x3, x4][3]? := hf 3 _ rfl
  rw [k2] at h3
  have h4 : DataW.trod enc Tryd.prog W 0 (fun _ => true) true k 34 (([c0, c1, c2, c3, c4].drop 4).take ((Tryd.prog).cellsOf 34)) = [x0, x1, x2, x3, x4][4]? := hf 4 _ rfl
  rw [k4] at h4
  obtain ⟨a, e0, _, w0⟩ := DataW.trod_int Tryd.underlying5 (show DataW.trod enc Tryd.prog W 0 (fun _ => true) true k 5 [c0] = some x0 from h0)
  obtain ⟨b, e1, _, w1⟩ := DataW.trod_int Tryd.underlying21 (show DataW.trod enc Tryd.prog W 0 (fun _ => true) true k 21 [c1] = some x1 from h1)
  obtain ⟨c, e2, _, w2⟩ := DataW.trod_int Tryd.underlying33 (show DataW.trod enc Tryd.prog W 0 (fun _ => true) true k 33 [c2] = some x2 from h2)
  obtain ⟨d, e3, _, w3⟩ := DataW.trod_int Tryd.underlying33 (show DataW.trod enc Tryd.prog W 0 (fun _ => true) true k 33 [c3] = some x3 from h3)
  obtain ⟨pk, bk, o0, ck, ks, e4, hK, hn, hr⟩ := open_ks (show DataW.trod enc Tryd.prog W 0 (fun _ => true) true k 34 [c4] = some x4 from h4) (fun q hq => hsz q (by
    rw [hy]
    simp only [DataW.weights, Tryd.underlying36, DataW.weightsEach, List.map_cons]
    simp only [List.mem_append]
    exact Or.inr (Or.inr (Or.inr (Or.inr (Or.inl hq))))))
  simp only [List.cons.injEq, and_true] at e0 e1 e2 e3
  have q0 := u8_of w0
  have q1 := i32_of w1
  have q2 := u32_of w2
  have q3 := u32_of w3
  refine ⟨⟨⟨a.toNat, b, c.toNat, d.toNat, ks⟩, pk, bk, o0, ck⟩, ?_, ⟨by show a.toNat < 256; omega, q1, by show c.toNat < _; omega, by show d.toNat < _; omega⟩, hK, ⟨hn, hr⟩⟩
  rw [e0, e1, e2, e3, e4]
  simp only [NdM.vs, Int.toNat_of_nonneg q0.1, Int.toNat_of_nonneg q2.1, Int.toNat_of_nonneg q3.1]
set_option maxRecDepth 100000 in
theorem open_nodes {n : Nat} {c : Value} {y : DataW H × List MemPlace} (h : DataW.trod enc Tryd.prog W 0 (fun _ => true) true n 22 [c] = some y) (hsz : ∀ k ∈ y.1.weights Tryd.prog 22, k ≤ reachBytes) :
    ∃ p : PtM, c = .slice p.pn p.ms.length p.c ∧ p.In W := by
  have k5 : (Tryd.prog).cellsOf 36 = 5 := by kernel_rfl
  rcases open_slice Tryd.underlying22 h with ⟨hcs, hx⟩ | ⟨a, len, cap, m, n', D, Pl, hcs, _, hl, hm, hmm, hx, hcell⟩
  · obtain rfl : c = .slice none 0 0 := by simpa using hcs
    exact ⟨⟨[], none, 0, 0, 0⟩, rfl, ⟨⟨fun h => absurd h (by decide), fun j hj => absurd hj (by simp), fun j hj => absurd hj (by simp), fun j hj => absurd hj (by simp), by decide⟩, fun m hm => absurd hm (by simp)⟩⟩
  · obtain rfl : c = .slice (some a) len cap := by simpa using hcs
    obtain rfl : m = cap := by simpa using hmm
    rw [hx] at hsz
    have hb : (Tryd.prog).bytesOf 36 = 40 := by kernel_rfl
    have hsl : (len + (m - len)) * 40 ≤ reachBytes := by
      have := hsz _ (by simp only [DataW.weights, Tryd.underlying22]; exact List.mem_cons_self)
      simpa [hb] using this
    have hr : reachBytes < 140737488355328 := by decide
    obtain ⟨L, hL⟩ := choose_any (m := len) (p := fun i (l : NdM) => N5 a.block (a.off + i * 5) l W ∧ KsIn l.pk l.bk l.k0 l.c l.nd.ks W ∧ l.Ok ∧ l.X) (fun i hi => by
      obtain ⟨cs', h1, h2⟩ := hcell i (by omega)
      rw [k5] at h1
      obtain ⟨l, rfl, hok, hk, hX⟩ := open_node h2 (fun q hq => hsz q (by
        simp only [DataW.weights, Tryd.underlying22]
        exact List.mem_cons_of_mem _ (List.mem_append.2 (Or.inl (w_all _ _ _ (D i) (List.mem_map.2 ⟨i, List.mem_range.2 hi, rfl⟩) q hq)))))
      obtain ⟨_, _, hat⟩ := World.cells?_some h1
      have a0 := hat 0 (by show 0 < 5; decide)
      have a1 := hat 1 (by show 1 < 5; decide)
      have a2 := hat 2 (by show 2 < 5; decide)
      have a3 := hat 3 (by show 3 < 5; decide)
      have a4 := hat 4 (by show 4 < 5; decide)
      exact ⟨l, ⟨adc (i * 5) 0 a0, adc (i * 5) 1 a1, adc (i * 5) 2 a2, adc (i * 5) 3 a3, adc (i * 5) 4 a4⟩, hk, hok, hX⟩)
    have hfl : ((List.range len).map L).length = len := by simp
    have hget : ∀ j, j < len → ((List.range len).map L).getD j default = L j := fun j hj => by
      rw [List.getD_eq_getElem?_getD, List.getElem?_map, List.getElem?_range hj]; rfl
    refine ⟨⟨(List.range len).map L, some a, a.block, a.off, m⟩, by show _ = Value.slice _ _ _; rw [hfl], ⟨⟨fun h0 => ?_, fun j hj => ?_, fun j hj => ?_, fun j hj => ?_, by show _ ≤ _; rw [hfl]; omega⟩, fun l hl' => ?_⟩⟩
    · have h0 : 0 < len := by rw [← hfl]; exact h0
      obtain ⟨cs', h1, h2⟩ := hcell 0 (by omega)
      rw [k5] at h1
      obtain ⟨_, _, hat⟩ := World.cells?_some h1
      obtain ⟨lq, hlq, _⟩ := open_node h2 (fun q hq => hsz q (by
        simp only [DataW.weights, Tryd.underlying22]
        exact List.mem_cons_of_mem _ (List.mem_append.2 (Or.inl (w_all _ _ _ (D 0) (List.mem_map.2 ⟨0, List.mem_range.2 h0, rfl⟩) q hq)))))
      subst hlq
      have a0 := hat 0 (by decide)
      rw [show (a.add (0 * 5)).add 0 = a.add 0 from by unfold Addr.add; simp] at a0
      exact adc0 a0
    · have hj : j < len := by rw [← hfl]; exact hj
      show N5 _ _ (((List.range len).map L).getD j default) W
      rw [hget j hj]; exact (hL j hj).1
    · have hj : j < len := by rw [← hfl]; exact hj
      show KsIn (((List.range len).map L).getD j default).pk (((List.range len).map L).getD j default).bk (((List.range len).map L).getD j default).k0 (((List.range len).map L).getD j default).c (((List.range len).map L).getD j default).nd.ks W
      rw [hget j hj]; exact (hL j hj).2.1
    · have hj : j < len := by rw [← hfl]; exact hj
      show (((List.range len).map L).getD j default).Ok
      rw [hget j hj]; exact (hL j hj).2.2.1
    · obtain ⟨j, hj, rfl⟩ := List.mem_map.1 hl'
      exact (hL j (List.mem_range.1 hj)).2.2.2
theorem list1 {α : Type} {l : List α} (h : l.length = 1) : ∃ a, l = [a] := by
  match l, h with
  | [a], _ => exact ⟨a, rfl⟩
set_option maxRecDepth 100000 in
theorem open_pat {n : Nat} {cs : List Value} {y : DataW H × List MemPlace} (h : DataW.trod enc Tryd.prog W 0 (fun _ => true) true n 24 cs = some y) (hsz : ∀ k ∈ y.1.weights Tryd.prog 24, k ≤ reachBytes) :
    ∃ p : PtM, cs = [.slice p.pn p.ms.length p.c] ∧ p.In W := by
  obtain ⟨xs, k, _, hy, hlen, hxs, hf⟩ := DataW.trod_struct Tryd.underlying24 h
  have hlen : cs.length = 1 := hlen.trans (by kernel_rfl)
  have k0 : (Tryd.prog).cellsOf 22 = 1 := by kernel_rfl
  obtain ⟨c0, rfl⟩ := list1 hlen
  obtain ⟨x0, rfl⟩ := list1 (hxs.trans rfl)
  have h0 : DataW.trod enc Tryd.prog W 0 (fun _ => true) true k 22 (([c0].drop 0).take ((Tryd.prog).cellsOf 22)) = [x0][0]? := hf 0 _ rfl
  rw [k0] at h0
  obtain ⟨p, e, hp⟩ := open_nodes (show DataW.trod enc Tryd.prog W 0 (fun _ => true) true k 22 [c0] = some x0 from h0) (fun q hq => hsz q (by
    rw [hy]
    simp only [DataW.weights, Tryd.underlying24, DataW.weightsEach, List.map_cons]
    simp only [List.mem_append]
    exact Or.inl hq))
  exact ⟨p, by rw [e], hp⟩
set_option maxRecDepth 100000 in
/-- A pattern that came in. -/
theorem open_pt {v : Value} {d : DataW H} {p : List MemPlace} (hv : Value.okWide Tryd.prog W .any base 24 v) (h : DataW.Trod enc Tryd.prog W 0 (fun _ => true) true 24 v d p)
    (hsz : ∀ k ∈ d.weights Tryd.prog 24, k ≤ reachBytes) : ∃ q : PtM, v = q.v ∧ q.In W := by
  obtain ⟨cs, rfl, hs⟩ := okWide_struct Tryd.underlying24 hv
  obtain ⟨fuel, hf⟩ := h
  obtain ⟨q, e, hq⟩ := open_pat (y := (d, p)) (show DataW.trod enc Tryd.prog W 0 (fun _ => true) true fuel 24 cs.toList = some (d, p) from hf) hsz
  refine ⟨q, ?_, hq⟩
  have e2 : cs = #[.slice q.pn q.ms.length q.c] := by
    apply Array.ext'
    rw [e]
  rw [e2]; rfl
set_option maxRecDepth 100000 in
/-- A row of patterns that came in. -/
theorem open_pts {v : Value} {d : DataW H} {p : List MemPlace} (hv : Value.okWide Tryd.prog W .any base 41 v) (h : DataW.Trod enc Tryd.prog W 0 (fun _ => true) true 41 v d p)
    (hsz : ∀ k ∈ d.weights Tryd.prog 41, k ≤ reachBytes) : ∃ (pp : Option Addr) (bp p0 cp : Nat) (ps : List PtM), v = .slice pp ps.length cp ∧ PsIn pp bp p0 ps W ∧ ∀ p ∈ ps, p.In W := by
  obtain ⟨a0, len0, cap0, rfl⟩ := okWide_slice Tryd.underlying41 hv
  obtain ⟨fuel, hf⟩ := h
  rcases open_slice1 Tryd.underlying41 (by kernel_rfl) hf with ⟨hcs, hx⟩ | ⟨a, len, cap, m, n, V, D, Pl, hcs, _, hl, hm, hmm, hx, hcell⟩
  · simp [Value.cells] at hcs
    obtain ⟨rfl, rfl, rfl⟩ := hcs
    exact ⟨none, 0, 0, 0, [], rfl, ⟨fun h => absurd h (by decide), fun j hj => absurd hj (by simp), fun j hj => absurd hj (by simp), by decide⟩, fun p hp => absurd hp (by simp)⟩
  · simp [Value.cells] at hcs
    obtain ⟨rfl, rfl, rfl⟩ := hcs
    obtain rfl : m = cap0 := by simpa using hmm
    simp only [Prod.mk.injEq] at hx
    obtain ⟨rfl, _⟩ := hx
    have hb : (Tryd.prog).bytesOf 24 = 24 := by kernel_rfl
    have hsl : (len0 + (m - len0)) * 24 ≤ reachBytes := by
      have := hsz _ (by simp only [DataW.weights, Tryd.underlying41]; exact List.mem_cons_self)
      simpa [hb] using this
    have hr : reachBytes < 140737488355328 := by decide
    obtain ⟨L, hL⟩ := choose_any (m := len0) (p := fun i (q : PtM) => W.cell? ⟨a.block, a.off + i, none⟩ = some (.slice q.pn q.ms.length q.c) ∧ q.In W) (fun i hi => by
      obtain ⟨h1, h2⟩ := hcell i (by omega)
      obtain ⟨q, e, hq⟩ := open_pat h2 (fun k hk => hsz k (by
        simp only [DataW.weights, Tryd.underlying41]
        exact List.mem_cons_of_mem _ (List.mem_append.2 (Or.inl (w_all _ _ _ (D i) (List.mem_map.2 ⟨i, List.mem_range.2 hi, rfl⟩) k hk)))))
      simp only [List.cons.injEq, and_true] at e
      rw [e] at h1
      exact ⟨q, adc1 i h1, hq⟩)
    have hfl : ((List.range len0).map L).length = len0 := by simp
    have hget : ∀ j, j < len0 → ((List.range len0).map L).getD j default = L j := fun j hj => by
      rw [List.getD_eq_getElem?_getD, List.getElem?_map, List.getElem?_range hj]; rfl
    refine ⟨some a, a.block, a.off, m, (List.range len0).map L, by rw [hfl], ⟨fun h0 => ?_, fun j hj => ?_, fun j hj => ?_, by rw [hfl]; omega⟩, fun p hp => ?_⟩
    · rw [hfl] at h0
      exact adc0 (hcell 0 (by omega)).1
    · rw [hfl] at hj
      rw [hget j hj]
      exact (hL j hj).1
    · rw [hfl] at hj
      rw [hget j hj]
      exact ⟨(hL j hj).2.i⟩
    · obtain ⟨j, hj, rfl⟩ := List.mem_map.1 hp
      exact (hL j (List.mem_range.1 hj)).2
end
end Go.Proofs.YtmechinlaladiaaDoor
namespace Go.Proofs.YtmechinlaladiaaDoor
open Go.RowKit Go.Lib
set_option linter.unusedVariables false

theorem OutN.free {N : Nat} {F G : Nat → Prop} {v : Value} {ms : List NdM} {w : World} (h : OutN N F v ms w) (hg : ∀ m ∈ ms, 0 < m.nd.ks.length → ¬ G m.bk) : OutN N G v ms w :=
  ⟨h.own, h.kids, fun m hm h0 => ⟨(h.apart m hm h0).1, hg m hm h0⟩, h.ok⟩
theorem three_boxes (w : World) (A B C : Value) (t1 t2 t3 : TypeId) : (((w.alloc (.cells #[A] t1)).alloc (.cells #[B] t2)).alloc (.cells #[C] t3)).cell? ⟨w.heap.size, 0, none⟩ = some A ∧ (((w.alloc (.cells #[A] t1)).alloc (.cells #[B] t2)).alloc (.cells #[C] t3)).cell? ⟨w.heap.size+1, 0, none⟩ = some B ∧ (((w.alloc (.cells #[A] t1)).alloc (.cells #[B] t2)).alloc (.cells #[C] t3)).cell? ⟨w.heap.size+2, 0, none⟩ = some C ∧ (((w.alloc (.cells #[A] t1)).alloc (.cells #[B] t2)).alloc (.cells #[C] t3)).frozen? ⟨w.heap.size, 0, none⟩ = false := by
  have hb1 : Below (w.alloc (.cells #[A] t1)).heap.size (w.alloc (.cells #[A] t1)) (((w.alloc (.cells #[A] t1)).alloc (.cells #[B] t2)).alloc (.cells #[C] t3)) := ((Below.refl _ _).alloc (Nat.le_refl _) _).alloc (by simp) _
  have hb2 : Below ((w.alloc (.cells #[A] t1)).alloc (.cells #[B] t2)).heap.size ((w.alloc (.cells #[A] t1)).alloc (.cells #[B] t2)) (((w.alloc (.cells #[A] t1)).alloc (.cells #[B] t2)).alloc (.cells #[C] t3)) := (Below.refl _ _).alloc (Nat.le_refl _) _
  refine ⟨(hb1.cell (p := ⟨w.heap.size, 0, none⟩) (by simp)).trans (by simp), (hb2.cell (p := ⟨w.heap.size + 1, 0, none⟩) (by simp)).trans ?_, ?_, (hb1.frozen (p := ⟨w.heap.size, 0, none⟩) (by simp)).trans (by simp)⟩
  · have h : (w.alloc (.cells #[A] t1)).heap.size = w.heap.size + 1 := by simp
    rw [← h]
    simp
  · have h : ((w.alloc (.cells #[A] t1)).alloc (.cells #[B] t2)).heap.size = w.heap.size + 2 := by simp
    have e : (⟨w.heap.size + 2, 0, none⟩ : Addr) = ⟨((w.alloc (.cells #[A] t1)).alloc (.cells #[B] t2)).heap.size, 0, none⟩ := by rw [h]
    rw [e, World.cell?_alloc_mark]
    rfl
/-- What comes of putting a tree behind some nodes. -/
def PtR (N : Nat) (v : Value) (ms : List NdM) (t : Tr) (w : World) (e : Ending) (w' : World) : Prop :=
  ∃ v' ms', e = .returned v' ∧ OutN N (fun _ => False) v' (ms ++ ms') w' ∧ nds ms' = t.flat ms.length ∧ (∀ m ∈ ms', FrK w.heap.size m w') ∧ But (fun k => v.ownBlock = some k) w w' ∧ (v'.ownBlock = v.ownBlock ∨ ∃ b, v'.ownBlock = some b ∧ w.heap.size ≤ b)
set_option maxHeartbeats 8000000 in
set_option maxRecDepth 100000 in
theorem putTree_any (N : Nat) (pn : Option Addr) (bn n0 cl : Nat) (ls : List NdM) (W0 : World) (hW0 : W0.heap.size = N) (hIn : NsIn pn bn n0 ls W0) (i : Int) (t : Tr) (w : World) (v : Value) (ms : List NdM) (hB : Below N W0 w) (hout : OutN N (fun _ => False) v ms w) (hat : t.At (nds ls) i) (hsz : ms.length + t.sz ≤ 100000) :
    Calls Tryd.prog 35 #[v, .slice pn ls.length cl, .int .i64 i] w (PtR N v ms t w) := by
  have hNw : N ≤ w.heap.size := by have := hB.size; omega
  obtain ⟨ov, nv, cv, rfl⟩ : ∃ o n c, v = .slice o n c := by obtain ⟨o, c, h⟩ := hout.len; exact ⟨o, _, c, h⟩
  obtain ⟨nl, hnl⟩ : ∃ n, n = ls.length := ⟨_, rfl⟩
  have hvb : ∀ b, (Value.slice ov nv cv).ownBlock = some b → b < w.heap.size := fun b hb => (hout.own.lt b hb).2
  have key : ∀ (w3 : World), Below w.heap.size w w3 → w.heap.size + 2 < w3.heap.size → w3.cell? ⟨w.heap.size, 0, none⟩ = some (.slice ov nv cv) → w3.cell? ⟨w.heap.size + 1, 0, none⟩ = some (.slice pn ls.length cl) →
      w3.cell? ⟨w.heap.size + 2, 0, none⟩ = some (.func (.func 51) #[] #[.pointer (some ⟨w.heap.size, 0, none⟩), .pointer (some ⟨w.heap.size + 1, 0, none⟩), .pointer (some ⟨w.heap.size + 2, 0, none⟩)]) → w3.frozen? ⟨w.heap.size, 0, none⟩ = false →
      Calls Tryd.prog 51 #[.int .i64 i, .pointer (some ⟨w.heap.size, 0, none⟩), .pointer (some ⟨w.heap.size + 1, 0, none⟩), .pointer (some ⟨w.heap.size + 2, 0, none⟩)] w3 fun e w' => ∃ z o n c, e = .returned (.int .i64 z) ∧ w'.cell? ⟨w.heap.size, 0, none⟩ = some (.slice o n c) ∧ PtR N (.slice ov nv cv) ms t w (.returned (.slice o n c)) w' := by
    intro w3 hb3 hz3 h0 h1 h2 hf
    have hbN : Below N W0 w3 := hB.trans (hb3.mono hNw)
    have ho3 : OutN N (fun k => k = w.heap.size) (.slice ov nv cv) ms w3 := (hout.next hb3).free (fun m hm h0 e => by have := (hout.kids m hm).lt h0; omega)
    refine (putc_any w.heap.size (w.heap.size + 1) (w.heap.size + 2) N pn bn n0 cl ls W0 hW0 hIn hNw (by omega) (by omega) (by omega) (by omega) t.sz t (Nat.le_refl _) i w3 (.slice ov nv cv) ms ⟨hbN, h1, h2, hf⟩ h0 ho3 (fun k hk => by have := hvb k hk; omega) hat hsz).mono ?_
    rintro e w' ⟨rfl, v', ms', hcO, hout', hnd, hfk, hbut, hvat, _⟩
    obtain ⟨o, n, c, rfl⟩ : ∃ o n c, v' = .slice o n c := by obtain ⟨o, c, h⟩ := hout'.len; exact ⟨o, _, c, h⟩
    have hs3 := hb3.size
    refine ⟨_, o, n, c, rfl, hcO, .slice o n c, ms', rfl, hout'.free (fun _ _ _ e => e), hnd, fun m hm => (hfk m hm).mono hs3, ((But.of_below hb3).trans hbut (fun k hk e => ?_)), ?_⟩
    · rcases e with e | e
      · omega
      · exact e
    · rcases hvat with e | ⟨b, e, hb⟩
      · exact Or.inl e
      · exact Or.inr ⟨b, e, by omega⟩
  rw [← hnl] at key ⊢
  have HK := Lib.hid key
  clear key hvb hout hat hB hIn hnl
  go_enter Tryd.func35, Tryd.ntmps35
  go_wp2_with fail
  refine (HK.out _ ?_ ?_ ?_ ?_ ?_ ?_).mono ?_
  case refine_1 =>
    exact ((((Below.refl _ _).alloc (Nat.le_refl _) _).alloc (by simp) _).alloc (by simp; omega) _)
  case refine_2 => simp
  case refine_3 => exact (three_boxes w _ _ _ _ _ _).1
  case refine_4 => exact (three_boxes w _ _ _ _ _ _).2.1
  case refine_5 => exact (three_boxes w _ _ _ _ _ _).2.2.1
  case refine_6 => exact (three_boxes w _ _ _ _ _ _).2.2.2
  intro e w' hpost
  obtain ⟨z, o, n, c, rfl, hc, hR⟩ := hpost
  have HR := Lib.hid hR
  clear hR
  go_wp2_with fail
  go_ret
  exact HR.out
/-- A pattern that a call made: all of it lies in blocks from lo on. -/
structure Mine (lo : Nat) (q : PtM) (w : World) : Prop where
  i : NsIn q.pn q.bn q.n0 q.ms w
  own : OutN lo (fun _ => False) (.slice q.pn q.ms.length q.c) q.ms w
  frk : ∀ m ∈ q.ms, FrK lo m w
  len : q.ms.length ≤ 100000
theorem NsIn.keep {pn : Option Addr} {bn n0 : Nat} {ms : List NdM} {w w' : World} {X : Nat → Prop} (h : NsIn pn bn n0 ms w) (hb : But X w w') (hn : 0 < ms.length → ¬ X bn) (hk : ∀ m ∈ ms, 0 < m.nd.ks.length → ¬ X m.bk) : NsIn pn bn n0 ms w' := by
  refine ⟨h.at_, fun j hj => ?_, fun j hj => (h.kids j hj).keep hb (hk _ (by rw [List.getD_eq_getElem?_getD, List.getElem?_eq_getElem hj]; exact List.getElem_mem hj)), h.ok, h.big⟩
  have hx := hn (by omega)
  obtain ⟨c0, c1, c2, c3, c4⟩ := h.node j hj
  exact ⟨hb.cell (p := ⟨bn, n0 + j * 5, none⟩) c0 hx, hb.cell (p := ⟨bn, n0 + j * 5 + 1, none⟩) c1 hx, hb.cell (p := ⟨bn, n0 + j * 5 + 2, none⟩) c2 hx, hb.cell (p := ⟨bn, n0 + j * 5 + 3, none⟩) c3 hx, hb.cell (p := ⟨bn, n0 + j * 5 + 4, none⟩) c4 hx⟩
theorem Mine.blk {lo : Nat} {q : PtM} {w : World} (h : Mine lo q w) (h0 : 0 < q.ms.length) : lo ≤ q.bn ∧ q.bn < w.heap.size ∧ (Value.slice q.pn q.ms.length q.c).ownBlock = some q.bn := by
  have e := h.i.at_ h0
  have e2 : (Value.slice q.pn q.ms.length q.c).ownBlock = some q.bn := by rw [e]; rfl
  exact ⟨(h.own.own.lt _ e2).1, (h.own.own.lt _ e2).2, e2⟩
theorem Mine.keep {lo : Nat} {q : PtM} {w w' : World} {X : Nat → Prop} (h : Mine lo q w) (hb : But X w w') (hx : ∀ k, lo ≤ k → k < w.heap.size → ¬ X k) : Mine lo q w' := by
  have hk : ∀ m ∈ q.ms, 0 < m.nd.ks.length → ¬ X m.bk := fun m hm h0 => hx _ (h.frk m hm h0).1 (h.frk m hm h0).2.1
  refine ⟨h.i.keep hb (fun h0 => hx _ (h.blk h0).1 (h.blk h0).2.1) hk, h.own.keep hb (fun k e => hx k (h.own.own.lt k e).1 (h.own.own.lt k e).2) hk, fun m hm => (h.frk m hm).keep hb (hk m hm), h.len⟩
theorem OutN.lower {N N' : Nat} {F : Nat → Prop} {v : Value} {ms : List NdM} {w : World} (h : OutN N F v ms w) (hn : N' ≤ N) : OutN N' F v ms w := by
  refine ⟨⟨h.own.1, ?_⟩, h.kids, h.apart, h.ok⟩
  rcases h.own.2 with e | ⟨g, cap, cur, h3, h4, h5⟩
  · exact Or.inl e
  · exact Or.inr ⟨g, cap, cur, h3, by omega, h5⟩
theorem Mine.lower {lo lo' : Nat} {q : PtM} {w : World} (h : Mine lo q w) (hl : lo' ≤ lo) : Mine lo' q w := ⟨h.i, h.own.lower hl, fun m hm => (h.frk m hm).mono hl, h.len⟩
theorem Mine.next {lo : Nat} {q : PtM} {w w' : World} (h : Mine lo q w) (hb : Below w.heap.size w w') : Mine lo q w' :=
  ⟨h.i.next hb, h.own.next hb, fun m hm => (h.frk m hm).keep (But.of_below (X := fun _ => False) hb) (fun _ e => e), h.len⟩
theorem Mine.none (lo : Nat) (w : World) : Mine lo ⟨[], none, 0, 0, 0⟩ w :=
  ⟨⟨fun h => absurd h (by decide), fun j hj => absurd hj (by simp), fun j hj => absurd hj (by simp), fun j hj => absurd hj (by simp), by decide⟩, OutN.nil _ _ _, fun m hm => absurd hm (by simp), by decide⟩
theorem mine_of {lo : Nat} {o : Option Addr} {n c : Nat} {ms : List NdM} {w : World} (h : OutN lo (fun _ => False) (.slice o n c) ms w) (hf : ∀ m ∈ ms, FrK lo m w) (hl : ms.length ≤ 100000) : ∃ q : PtM, q.v = .agg #[.slice o n c] ∧ q.ms = ms ∧ Mine lo q w := by
  obtain ⟨pn, bn, c', e, hi, _⟩ := h.nsin (by omega)
  injection e with e1 e2 e3
  subst e1; subst e2; subst e3
  exact ⟨⟨ms, o, bn, 0, c⟩, rfl, rfl, hi, h, hf, hl⟩
def MkPost (ns : List Nd) (w : World) (e : Ending) (w' : World) : Prop := ∃ q : PtM, e = .returned q.v ∧ nds q.ms = ns ∧ Mine w.heap.size q w' ∧ Below w.heap.size w w'
def MkPost2 (err : Nat) (ns : List Nd) (w : World) (e : Ending) (w' : World) : Prop := ∃ q : PtM, e = .returned (.tuple #[q.v, .int .i64 err]) ∧ nds q.ms = ns ∧ Mine w.heap.size q w' ∧ Below w.heap.size w w'
set_option maxHeartbeats 8000000 in
set_option maxRecDepth 100000 in
theorem numbered_any (pn : Option Addr) (bn n0 cl : Nat) (ls : List NdM) (w : World) (hIn : NsIn pn bn n0 ls w) (i : Int) (t : Tr) (hat : t.At (nds ls) i) (hsz : t.sz ≤ 100000) :
    Calls Tryd.prog 17 #[.slice pn ls.length cl, .int .i64 i] w (MkPost (t.flat 0) w) := by
  have key : ∀ w1, Below w.heap.size w w1 → w.heap.size < w1.heap.size → Calls Tryd.prog 35 #[.slice none 0 0, .slice pn ls.length cl, .int .i64 i] w1 fun e w' => ∃ o n c, e = .returned (.slice o n c) ∧ Below w1.heap.size w1 w' ∧ ∀ u, MkPost (t.flat 0) w (.returned (.agg #[.slice o n c])) (w'.setCell ⟨w.heap.size, 0, none⟩ u) := by
    intro w1 hb1 hz1
    refine (putTree_any w1.heap.size pn bn n0 cl ls w1 rfl (hIn.next hb1) i t w1 (.slice none 0 0) [] (Below.refl _ _) (OutN.nil _ _ _) hat (by simpa using hsz)).mono ?_
    rintro e w' ⟨v', ms', rfl, hout, hnd, hfk, hbut, _⟩
    obtain ⟨o, n, c, rfl⟩ : ∃ o n c, v' = .slice o n c := by obtain ⟨o, c, h⟩ := hout.len; exact ⟨o, _, c, h⟩
    have hB : Below w1.heap.size w1 w' := hbut.below (Nat.le_refl _) (fun k hk e => by cases e)
    refine ⟨o, n, c, rfl, hB, fun u => ?_⟩
    have hl : ms'.length ≤ 100000 := by
      have := congrArg List.length hnd
      rw [nds_length, Tr.flat_length] at this
      omega
    obtain ⟨q, hq, hqm, hm⟩ := mine_of (show OutN w1.heap.size (fun _ => False) (.slice o n c) ms' w' from hout) hfk hl
    have hb2 : But (fun k => k = w.heap.size) w' (w'.setCell ⟨w.heap.size, 0, none⟩ u) := (But.refl (fun k => k = w.heap.size) w').setCell (p := ⟨w.heap.size, 0, none⟩) (fun _ => rfl) _
    exact ⟨q, by rw [hq], by rw [hqm]; exact hnd, (hm.keep hb2 (fun k h1 h2 e => by omega)).lower hb1.size, (hb1.trans (hB.mono hb1.size)).setCell (p := ⟨w.heap.size, 0, none⟩) (Nat.le_refl _) _⟩
  obtain ⟨nl, hnl⟩ : ∃ n, n = ls.length := ⟨_, rfl⟩
  rw [← hnl] at key ⊢
  have HK := Lib.hid key
  clear key hIn hat hnl
  go_enter Tryd.func17, Tryd.ntmps17
  go_wp2_with fail
  refine (HK.out _ ?_ ?_).mono ?_
  case refine_1 => exact (Below.refl _ _).alloc (Nat.le_refl _) _
  case refine_2 => simp
  intro e w' hpost
  obtain ⟨o, n, c, rfl, hb, hR⟩ := hpost
  have c0 := (hb.cell (p := ⟨w.heap.size, 0, none⟩) (by simp)).trans (show _ = some (Value.slice none 0 0) by simp)
  have f0 := (hb.frozen (p := ⟨w.heap.size, 0, none⟩) (by simp)).trans (show _ = false by simp)
  have HR := Lib.hid hR
  clear hR hb
  go_wp2_with fail
  refine bodyPost_ret (v := .agg #[.slice o n c]) (by simp [results, Tryd.results17, go_sem, *]) rfl ?_
  exact HR.out _
end Go.Proofs.YtmechinlaladiaaDoor
namespace Go.Proofs.YtmechinlaladiaaDoor
open Go.RowKit

theorem ret_b {a b : Bool} (h : a = b) : Ending.returned (.bool a) = .returned (.bool b) := by rw [h]
theorem ret_n {k : IntKind} {a b : Int} (h : a = b) : Ending.returned (.int k a) = .returned (.int k b) := by rw [h]

def tailB (b : Nat) : Bool := decide (128 ≤ b ∧ b < 192)
def runeB (r : Int) : Bool := decide (0 ≤ r ∧ r ≤ 1114111 ∧ (r < 55296 ∨ 57343 < r))

/-- A piece as a value. -/
def pieceV (s : ByteArray) (p : Nat) : Value := .agg #[.int .i32 (dR s p), .int .i64 p, .int .i64 (dW s p), .bool (brk s p)]

theorem rkA_brk (a : Nat) (s : ByteArray) (p : Nat) (h : brk s p = true) : rkA a s p = a + (s.get! p).toNat := by simp [rkA, h]
theorem rkA_not (a : Nat) (s : ByteArray) (p : Nat) (h : brk s p = false) : rkA a s p = dR s p := by simp [rkA, h]

end Go.Proofs.YtmechinlaladiaaDoor
