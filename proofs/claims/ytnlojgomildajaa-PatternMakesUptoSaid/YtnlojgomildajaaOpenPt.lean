/-
  A PATTERN, A []api.Pattern THAT CAME IN.
-/
import Derived.ProofKit
import Derived.SizedLaws
import Derived.Lib.SmallJoins
import Derived.Deep.Strs
import Derived.Deep.Slices
import Derived.Test.YtnlojgomildajaaOnp
namespace Go.Proofs.Ytnlojgomildajaa
open Go.ChangeShapes Go.WideShapes Go.ChangeAt Go.RowKit Go.Joins Go.Deep
set_option linter.unusedVariables false
theorem ownP : ownKnob Try.prog.godebug = none := by kernel_rfl
theorem laidP : laidOutB Try.prog = true := by kernel_rfl
theorem adc {w : World} {a : Addr} {v : Value} (i k : Nat) (h : w.cell? ((a.add i).add k) = some v) : w.cell? ⟨a.block, a.off + i + k, none⟩ = some v := by
  have hs := World.cell?_spot h
  have e : (a.add i).add k = ⟨a.block, a.off + i + k, none⟩ := by
    obtain ⟨b, o, s⟩ := a
    unfold Addr.add at hs ⊢
    by_cases hk : k = 0
    · subst hk
      by_cases hi : i = 0
      · subst hi; simp at hs ⊢; exact hs
      · simp [hi]
    · by_cases hi : i = 0
      · subst hi; simp [hk]
      · simp [hi, hk]
  rw [e] at h
  exact h
theorem adc1 {w : World} {a : Addr} {v : Value} (i : Nat) (h : w.cell? (a.add i) = some v) : w.cell? ⟨a.block, a.off + i, none⟩ = some v := by
  have := adc (w := w) (a := a) (v := v) i 0 (by rw [show (a.add i).add 0 = a.add i from by unfold Addr.add; simp]; exact h)
  simpa using this
theorem adc0 {w : World} {a : Addr} {v : Value} (h : w.cell? (a.add 0) = some v) : some a = some (⟨a.block, a.off, none⟩ : Addr) := by
  rw [show a.add 0 = a from by unfold Addr.add; simp] at h
  have hs := World.cell?_spot h
  obtain ⟨b, o, s⟩ := a
  simp only at hs
  rw [hs]

/-- What a copy of a node's kids wants. -/
structure NdM.X (m : NdM) : Prop where
  nil : m.pk = none → m.nd.ks.length = 0 ∧ m.c = 0
  room : m.nd.ks.length * 8 ≤ 140737488355328
/-- A pattern, and where its nodes lie. -/
structure PtM where
  ms : List NdM
  pn : Option Addr
  bn : Nat
  n0 : Nat
  c : Nat
instance : Inhabited PtM := ⟨⟨[], none, 0, 0, 0⟩⟩
def PtM.v (p : PtM) : Value := .agg #[.slice p.pn p.ms.length p.c]
structure PtM.In (p : PtM) (w : World) : Prop where
  i : NsIn p.pn p.bn p.n0 p.ms w
  x : ∀ m ∈ p.ms, m.X
/-- Its nodes alone. -/
structure PtM.I (p : PtM) (w : World) : Prop where
  i : NsIn p.pn p.bn p.n0 p.ms w
theorem PtM.I.next {p : PtM} {w w' : World} (h : p.I w) (hb : Below w.heap.size w w') : p.I w' := ⟨h.i.next hb⟩
theorem PtM.In.next {p : PtM} {w w' : World} (h : p.In w) (hb : Below w.heap.size w w') : p.In w' := ⟨h.i.next hb, h.x⟩
/-- A row of patterns. -/
structure PsIn (pp : Option Addr) (bp p0 : Nat) (ps : List PtM) (w : World) : Prop where
  at_ : 0 < ps.length → pp = some ⟨bp, p0, none⟩
  cells : ∀ j, j < ps.length → w.cell? ⟨bp, p0 + j, none⟩ = some (.slice (ps.getD j default).pn (ps.getD j default).ms.length (ps.getD j default).c)
  pats : ∀ j, j < ps.length → (ps.getD j default).I w
  big : ps.length ≤ 140737488355328
theorem PsIn.next {pp : Option Addr} {bp p0 : Nat} {ps : List PtM} {w w' : World} (h : PsIn pp bp p0 ps w) (hb : Below w.heap.size w w') : PsIn pp bp p0 ps w' :=
  ⟨h.at_, fun j hj => by have h1 := h.cells j hj; rw [hb.cell (p := ⟨bp, p0 + j, none⟩) (blk_of_cell h1)]; exact h1, fun j hj => (h.pats j hj).next hb, h.big⟩
section
variable {H : Type} {enc : TypeId × Value → H} {W : World} {base : Nat}
theorem w_all (P : Program) (t : TypeId) : ∀ (l : List (DataW H)) (d : DataW H), d ∈ l → ∀ k ∈ d.weights P t, k ∈ DataW.weightsAll P t l := by
  intro l
  induction l with
  | nil => intro d hd; exact absurd hd (by simp)
  | cons x r ih =>
    intro d hd k hk
    simp only [DataW.weightsAll, List.mem_append]
    rcases List.mem_cons.1 hd with rfl | hd
    · exact Or.inl hk
    · exact Or.inr (ih d hd k hk)
theorem choose_any {α : Type} [Inhabited α] {m : Nat} {p : Nat → α → Prop} (h : ∀ i, i < m → ∃ l, p i l) : ∃ f : Nat → α, ∀ i, i < m → p i (f i) :=
  ⟨fun i => if hi : i < m then (h i hi).choose else default, fun i hi => by simp only [dif_pos hi]; exact (h i hi).choose_spec⟩
theorem u8_of {a : Int} (w0 : (Lit.int .u8 a).wf = true) : 0 ≤ a ∧ a < 256 := by
  simp only [Lit.wf, IntKind.min, IntKind.max, IntKind.signed, IntKind.bits, Bool.and_eq_true] at w0
  simp at w0
  omega
theorem u32_of {a : Int} (w0 : (Lit.int .u32 a).wf = true) : 0 ≤ a ∧ a < 4294967296 := by
  simp only [Lit.wf, IntKind.min, IntKind.max, IntKind.signed, IntKind.bits, Bool.and_eq_true] at w0
  simp at w0
  omega
theorem i32_of {a : Int} (w0 : (Lit.int .i32 a).wf = true) : -2147483648 ≤ a ∧ a ≤ 2147483647 := by
  simp only [Lit.wf, IntKind.min, IntKind.max, IntKind.signed, IntKind.bits, Bool.and_eq_true, decide_eq_true_eq] at w0
  simp at w0
  omega
theorem i64_of {a : Int} (w0 : (Lit.int .i64 a).wf = true) : -9223372036854775808 ≤ a ∧ a ≤ 9223372036854775807 := by
  simp only [Lit.wf, IntKind.min, IntKind.max, IntKind.signed, IntKind.bits, Bool.and_eq_true, decide_eq_true_eq] at w0
  simp at w0
  omega
set_option maxRecDepth 100000 in
theorem open_ks {n : Nat} {c : Value} {y : DataW H × List MemPlace} (h : DataW.trod enc Try.prog W 0 (fun _ => true) true n 40 [c] = some y) (hsz : ∀ k ∈ y.1.weights Try.prog 40, k ≤ reachBytes) :
    ∃ (pk : Option Addr) (bk k0 ck : Nat) (ks : List Int), c = .slice pk ks.length ck ∧ KsIn pk bk k0 ck ks W ∧ (pk = none → ks.length = 0 ∧ ck = 0) ∧ ks.length * 8 ≤ 140737488355328 := by
  rcases open_slice1 Try.underlying40 (by kernel_rfl) h with ⟨hcs, hx⟩ | ⟨a, len, cap, m, n', V, D, Pl, hcs, _, hl, hm, hmm, hx, hcell⟩
  · obtain rfl : c = .slice none 0 0 := by simpa using hcs
    exact ⟨none, 0, 0, 0, [], rfl, ⟨fun h => absurd h (by decide), fun j hj => absurd hj (by simp), by decide, by decide, fun k hk => absurd hk (by simp)⟩, fun _ => ⟨rfl, rfl⟩, by decide⟩
  · obtain rfl : c = .slice (some a) len cap := by simpa using hcs
    obtain rfl : m = cap := by simpa using hmm
    rw [hx] at hsz
    have hb : (Try.prog).bytesOf 3 = 8 := by kernel_rfl
    have hsl : (len + (m - len)) * 8 ≤ reachBytes := by
      have := hsz _ (by simp only [DataW.weights, Try.underlying40]; exact List.mem_cons_self)
      simpa [hb] using this
    have hr : reachBytes < 140737488355328 := by decide
    obtain ⟨L, hL⟩ := choose_any (m := m) (p := fun i (x : Int) => W.cell? ⟨a.block, a.off + i, none⟩ = some (.int .i64 x) ∧ -9223372036854775808 ≤ x ∧ x ≤ 9223372036854775807) (fun i hi => by
      obtain ⟨h1, h2⟩ := hcell i hi
      obtain ⟨x, e0, _, wf⟩ := DataW.trod_int Try.underlying3 h2
      simp only [List.cons.injEq, and_true] at e0
      rw [e0] at h1
      exact ⟨x, adc1 i h1, i64_of wf⟩)
    have hfl : ((List.range len).map L).length = len := by simp
    have hget : ∀ j, j < len → ((List.range len).map L).getD j 0 = L j := fun j hj => by
      rw [List.getD_eq_getElem?_getD, List.getElem?_map, List.getElem?_range hj]; rfl
    refine ⟨some a, a.block, a.off, m, (List.range len).map L, by rw [hfl], ⟨fun h0 => ?_, fun j hj => ?_, by rw [hfl]; exact hl, by rw [hfl]; omega, fun k hk => ?_⟩, ⟨(fun e => by cases e), (by rw [hfl]; omega)⟩⟩
    · rw [hfl] at h0
      exact adc0 (hcell 0 (by omega)).1
    · rw [hfl] at hj
      rw [hget j hj]
      exact (hL j (by omega)).1
    · obtain ⟨j, hj, rfl⟩ := List.mem_map.1 hk
      exact (hL j (by have := List.mem_range.1 hj; omega)).2
theorem list5 {α : Type} {l : List α} (h : l.length = 5) : ∃ a b c d e, l = [a, b, c, d, e] := by
  match l, h with
  | [a, b, c, d, e], _ => exact ⟨a, b, c, d, e, rfl⟩
set_option maxRecDepth 100000 in
theorem open_node {n : Nat} {cs : List Value} {y : DataW H × List MemPlace} (h : DataW.trod enc Try.prog W 0 (fun _ => true) true n 42 cs = some y) (hsz : ∀ k ∈ y.1.weights Try.prog 42, k ≤ reachBytes) :
    ∃ m : NdM, cs = m.vs ∧ m.Ok ∧ KsIn m.pk m.bk m.k0 m.c m.nd.ks W ∧ m.X := by
  obtain ⟨xs, k, _, hy, hlen, hxs, hf⟩ := DataW.trod_struct Try.underlying42 h
  have hlen : cs.length = 5 := hlen.trans (by kernel_rfl)
  have k0 : (Try.prog).cellsOf 5 = 1 := by kernel_rfl
  have k1 : (Try.prog).cellsOf 21 = 1 := by kernel_rfl
  have k2 : (Try.prog).cellsOf 26 = 1 := by kernel_rfl
  have k4 : (Try.prog).cellsOf 40 = 1 := by kernel_rfl
  obtain ⟨c0, c1, c2, c3, c4, rfl⟩ := list5 hlen
  obtain ⟨x0, x1, x2, x3, x4, rfl⟩ := list5 (hxs.trans rfl)
  have h0 : DataW.trod enc Try.prog W 0 (fun _ => true) true k 5 (([c0, c1, c2, c3, c4].drop 0).take ((Try.prog).cellsOf 5)) = [x0, x1, x2, x3, x4][0]? := hf 0 _ rfl
  rw [k0] at h0
  have h1 : DataW.trod enc Try.prog W 0 (fun _ => true) true k 21 (([c0, c1, c2, c3, c4].drop 1).take ((Try.prog).cellsOf 21)) = [x0, x1, x2, x3, x4][1]? := hf 1 _ rfl
  rw [k1] at h1
  have h2 : DataW.trod enc Try.prog W 0 (fun _ => true) true k 26 (([c0, c1, c2, c3, c4].drop 2).take ((Try.prog).cellsOf 26)) = [x0, x1, x2, x3, x4][2]? := hf 2 _ rfl
  rw [k2] at h2
  have h3 : DataW.trod enc Try.prog W 0 (fun _ => true) true k 26 (([c0, c1, c2, c3, c4].drop 3).take ((Try.prog).cellsOf 26)) = [x0, x1, x2, x3, x4][3]? := hf 3 _ rfl
  rw [k2] at h3
  have h4 : DataW.trod enc Try.prog W 0 (fun _ => true) true k 40 (([c0, c1, c2, c3, c4].drop 4).take ((Try.prog).cellsOf 40)) = [x0, x1, x2, x3, x4][4]? := hf 4 _ rfl
  rw [k4] at h4
  obtain ⟨a, e0, _, w0⟩ := DataW.trod_int Try.underlying5 (show DataW.trod enc Try.prog W 0 (fun _ => true) true k 5 [c0] = some x0 from h0)
  obtain ⟨b, e1, _, w1⟩ := DataW.trod_int Try.underlying21 (show DataW.trod enc Try.prog W 0 (fun _ => true) true k 21 [c1] = some x1 from h1)
  obtain ⟨c, e2, _, w2⟩ := DataW.trod_int Try.underlying26 (show DataW.trod enc Try.prog W 0 (fun _ => true) true k 26 [c2] = some x2 from h2)
  obtain ⟨d, e3, _, w3⟩ := DataW.trod_int Try.underlying26 (show DataW.trod enc Try.prog W 0 (fun _ => true) true k 26 [c3] = some x3 from h3)
  obtain ⟨pk, bk, o0, ck, ks, e4, hK, hn, hr⟩ := open_ks (show DataW.trod enc Try.prog W 0 (fun _ => true) true k 40 [c4] = some x4 from h4) (fun q hq => hsz q (by
    rw [hy]
    simp only [DataW.weights, Try.underlying42, DataW.weightsEach, List.map_cons]
    simp only [List.mem_append]
    exact Or.inr (Or.inr (Or.inr (Or.inr (Or.inl hq))))))
  simp only [List.cons.injEq, and_true] at e0 e1 e2 e3
  have q0 := u8_of w0
  have q1 := i32_of w1
  have q2 := u32_of w2
  have q3 := u32_of w3
  refine ⟨⟨⟨a.toNat, b, c.toNat, d.toNat, ks⟩, pk, bk, o0, ck⟩, ?_, ⟨by show a.toNat < 256; omega, q1, by show c.toNat < _; omega, by show d.toNat < _; omega⟩, hK, ⟨hn, hr⟩⟩
  rw [e0, e1, e2, e3, e4]
  simp only [NdM.vs, Int.toNat_of_nonneg q0.1, Int.toNat_of_nonneg q2.1, Int.toNat_of_nonneg q3.1]
set_option maxRecDepth 100000 in
theorem open_nodes {n : Nat} {c : Value} {y : DataW H × List MemPlace} (h : DataW.trod enc Try.prog W 0 (fun _ => true) true n 23 [c] = some y) (hsz : ∀ k ∈ y.1.weights Try.prog 23, k ≤ reachBytes) :
    ∃ p : PtM, c = .slice p.pn p.ms.length p.c ∧ p.In W := by
  have k5 : (Try.prog).cellsOf 42 = 5 := by kernel_rfl
  rcases open_slice Try.underlying23 h with ⟨hcs, hx⟩ | ⟨a, len, cap, m, n', D, Pl, hcs, _, hl, hm, hmm, hx, hcell⟩
  · obtain rfl : c = .slice none 0 0 := by simpa using hcs
    exact ⟨⟨[], none, 0, 0, 0⟩, rfl, ⟨⟨fun h => absurd h (by decide), fun j hj => absurd hj (by simp), fun j hj => absurd hj (by simp), fun j hj => absurd hj (by simp), by decide⟩, fun m hm => absurd hm (by simp)⟩⟩
  · obtain rfl : c = .slice (some a) len cap := by simpa using hcs
    obtain rfl : m = cap := by simpa using hmm
    rw [hx] at hsz
    have hb : (Try.prog).bytesOf 42 = 40 := by kernel_rfl
    have hsl : (len + (m - len)) * 40 ≤ reachBytes := by
      have := hsz _ (by simp only [DataW.weights, Try.underlying23]; exact List.mem_cons_self)
      simpa [hb] using this
    have hr : reachBytes < 140737488355328 := by decide
    obtain ⟨L, hL⟩ := choose_any (m := len) (p := fun i (l : NdM) => N5 a.block (a.off + i * 5) l W ∧ KsIn l.pk l.bk l.k0 l.c l.nd.ks W ∧ l.Ok ∧ l.X) (fun i hi => by
      obtain ⟨cs', h1, h2⟩ := hcell i (by omega)
      rw [k5] at h1
      obtain ⟨l, rfl, hok, hk, hX⟩ := open_node h2 (fun q hq => hsz q (by
        simp only [DataW.weights, Try.underlying23]
        exact List.mem_cons_of_mem _ (List.mem_append.2 (Or.inl (w_all _ _ _ (D i) (List.mem_map.2 ⟨i, List.mem_range.2 hi, rfl⟩) q hq)))))
      obtain ⟨_, _, hat⟩ := World.cells?_some h1
      have a0 := hat 0 (by show 0 < 5; decide)
      have a1 := hat 1 (by show 1 < 5; decide)
      have a2 := hat 2 (by show 2 < 5; decide)
      have a3 := hat 3 (by show 3 < 5; decide)
      have a4 := hat 4 (by show 4 < 5; decide)
      exact ⟨l, ⟨adc (i * 5) 0 a0, adc (i * 5) 1 a1, adc (i * 5) 2 a2, adc (i * 5) 3 a3, adc (i * 5) 4 a4⟩, hk, hok, hX⟩)
    have hfl : ((List.range len).map L).length = len := by simp
    have hget : ∀ j, j < len → ((List.range len).map L).getD j default = L j := fun j hj => by
      rw [List.getD_eq_getElem?_getD, List.getElem?_map, List.getElem?_range hj]; rfl
    refine ⟨⟨(List.range len).map L, some a, a.block, a.off, m⟩, by show _ = Value.slice _ _ _; rw [hfl], ⟨⟨fun h0 => ?_, fun j hj => ?_, fun j hj => ?_, fun j hj => ?_, by show _ ≤ _; rw [hfl]; omega⟩, fun l hl' => ?_⟩⟩
    · have h0 : 0 < len := by rw [← hfl]; exact h0
      obtain ⟨cs', h1, h2⟩ := hcell 0 (by omega)
      rw [k5] at h1
      obtain ⟨_, _, hat⟩ := World.cells?_some h1
      obtain ⟨lq, hlq, _⟩ := open_node h2 (fun q hq => hsz q (by
        simp only [DataW.weights, Try.underlying23]
        exact List.mem_cons_of_mem _ (List.mem_append.2 (Or.inl (w_all _ _ _ (D 0) (List.mem_map.2 ⟨0, List.mem_range.2 h0, rfl⟩) q hq)))))
      subst hlq
      have a0 := hat 0 (by decide)
      rw [show (a.add (0 * 5)).add 0 = a.add 0 from by unfold Addr.add; simp] at a0
      exact adc0 a0
    · have hj : j < len := by rw [← hfl]; exact hj
      show N5 _ _ (((List.range len).map L).getD j default) W
      rw [hget j hj]; exact (hL j hj).1
    · have hj : j < len := by rw [← hfl]; exact hj
      show KsIn (((List.range len).map L).getD j default).pk (((List.range len).map L).getD j default).bk (((List.range len).map L).getD j default).k0 (((List.range len).map L).getD j default).c (((List.range len).map L).getD j default).nd.ks W
      rw [hget j hj]; exact (hL j hj).2.1
    · have hj : j < len := by rw [← hfl]; exact hj
      show (((List.range len).map L).getD j default).Ok
      rw [hget j hj]; exact (hL j hj).2.2.1
    · obtain ⟨j, hj, rfl⟩ := List.mem_map.1 hl'
      exact (hL j (List.mem_range.1 hj)).2.2.2
theorem list1 {α : Type} {l : List α} (h : l.length = 1) : ∃ a, l = [a] := by
  match l, h with
  | [a], _ => exact ⟨a, rfl⟩
set_option maxRecDepth 100000 in
theorem open_pat {n : Nat} {cs : List Value} {y : DataW H × List MemPlace} (h : DataW.trod enc Try.prog W 0 (fun _ => true) true n 25 cs = some y) (hsz : ∀ k ∈ y.1.weights Try.prog 25, k ≤ reachBytes) :
    ∃ p : PtM, cs = [.slice p.pn p.ms.length p.c] ∧ p.In W := by
  obtain ⟨xs, k, _, hy, hlen, hxs, hf⟩ := DataW.trod_struct Try.underlying25 h
  have hlen : cs.length = 1 := hlen.trans (by kernel_rfl)
  have k0 : (Try.prog).cellsOf 23 = 1 := by kernel_rfl
  obtain ⟨c0, rfl⟩ := list1 hlen
  obtain ⟨x0, rfl⟩ := list1 (hxs.trans rfl)
  have h0 : DataW.trod enc Try.prog W 0 (fun _ => true) true k 23 (([c0].drop 0).take ((Try.prog).cellsOf 23)) = [x0][0]? := hf 0 _ rfl
  rw [k0] at h0
  obtain ⟨p, e, hp⟩ := open_nodes (show DataW.trod enc Try.prog W 0 (fun _ => true) true k 23 [c0] = some x0 from h0) (fun q hq => hsz q (by
    rw [hy]
    simp only [DataW.weights, Try.underlying25, DataW.weightsEach, List.map_cons]
    simp only [List.mem_append]
    exact Or.inl hq))
  exact ⟨p, by rw [e], hp⟩
set_option maxRecDepth 100000 in
/-- A pattern that came in. -/
theorem open_pt {v : Value} {d : DataW H} {p : List MemPlace} (hv : Value.okWide Try.prog W .any base 25 v) (h : DataW.Trod enc Try.prog W 0 (fun _ => true) true 25 v d p)
    (hsz : ∀ k ∈ d.weights Try.prog 25, k ≤ reachBytes) : ∃ q : PtM, v = q.v ∧ q.In W := by
  obtain ⟨cs, rfl, hs⟩ := okWide_struct Try.underlying25 hv
  obtain ⟨fuel, hf⟩ := h
  obtain ⟨q, e, hq⟩ := open_pat (y := (d, p)) (show DataW.trod enc Try.prog W 0 (fun _ => true) true fuel 25 cs.toList = some (d, p) from hf) hsz
  refine ⟨q, ?_, hq⟩
  have e2 : cs = #[.slice q.pn q.ms.length q.c] := by
    apply Array.ext'
    rw [e]
  rw [e2]; rfl
set_option maxRecDepth 100000 in
/-- A row of patterns that came in. -/
theorem open_pts {v : Value} {d : DataW H} {p : List MemPlace} (hv : Value.okWide Try.prog W .any base 22 v) (h : DataW.Trod enc Try.prog W 0 (fun _ => true) true 22 v d p)
    (hsz : ∀ k ∈ d.weights Try.prog 22, k ≤ reachBytes) : ∃ (pp : Option Addr) (bp p0 cp : Nat) (ps : List PtM), v = .slice pp ps.length cp ∧ PsIn pp bp p0 ps W ∧ ∀ p ∈ ps, p.In W := by
  obtain ⟨a0, len0, cap0, rfl⟩ := okWide_slice Try.underlying22 hv
  obtain ⟨fuel, hf⟩ := h
  rcases open_slice1 Try.underlying22 (by kernel_rfl) hf with ⟨hcs, hx⟩ | ⟨a, len, cap, m, n, V, D, Pl, hcs, _, hl, hm, hmm, hx, hcell⟩
  · simp [Value.cells] at hcs
    obtain ⟨rfl, rfl, rfl⟩ := hcs
    exact ⟨none, 0, 0, 0, [], rfl, ⟨fun h => absurd h (by decide), fun j hj => absurd hj (by simp), fun j hj => absurd hj (by simp), by decide⟩, fun p hp => absurd hp (by simp)⟩
  · simp [Value.cells] at hcs
    obtain ⟨rfl, rfl, rfl⟩ := hcs
    obtain rfl : m = cap0 := by simpa using hmm
    simp only [Prod.mk.injEq] at hx
    obtain ⟨rfl, _⟩ := hx
    have hb : (Try.prog).bytesOf 25 = 24 := by kernel_rfl
    have hsl : (len0 + (m - len0)) * 24 ≤ reachBytes := by
      have := hsz _ (by simp only [DataW.weights, Try.underlying22]; exact List.mem_cons_self)
      simpa [hb] using this
    have hr : reachBytes < 140737488355328 := by decide
    obtain ⟨L, hL⟩ := choose_any (m := len0) (p := fun i (q : PtM) => W.cell? ⟨a.block, a.off + i, none⟩ = some (.slice q.pn q.ms.length q.c) ∧ q.In W) (fun i hi => by
      obtain ⟨h1, h2⟩ := hcell i (by omega)
      obtain ⟨q, e, hq⟩ := open_pat h2 (fun k hk => hsz k (by
        simp only [DataW.weights, Try.underlying22]
        exact List.mem_cons_of_mem _ (List.mem_append.2 (Or.inl (w_all _ _ _ (D i) (List.mem_map.2 ⟨i, List.mem_range.2 hi, rfl⟩) k hk)))))
      simp only [List.cons.injEq, and_true] at e
      rw [e] at h1
      exact ⟨q, adc1 i h1, hq⟩)
    have hfl : ((List.range len0).map L).length = len0 := by simp
    have hget : ∀ j, j < len0 → ((List.range len0).map L).getD j default = L j := fun j hj => by
      rw [List.getD_eq_getElem?_getD, List.getElem?_map, List.getElem?_range hj]; rfl
    refine ⟨some a, a.block, a.off, m, (List.range len0).map L, by rw [hfl], ⟨fun h0 => ?_, fun j hj => ?_, fun j hj => ?_, by rw [hfl]; omega⟩, fun p hp => ?_⟩
    · rw [hfl] at h0
      exact adc0 (hcell 0 (by omega)).1
    · rw [hfl] at hj
      rw [hget j hj]
      exact (hL j hj).1
    · rw [hfl] at hj
      rw [hget j hj]
      exact ⟨(hL j hj).2.i⟩
    · obtain ⟨j, hj, rfl⟩ := List.mem_map.1 hp
      exact (hL j (List.mem_range.1 hj)).2
end
end Go.Proofs.Ytnlojgomildajaa
