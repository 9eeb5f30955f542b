/-
  AN ALPHABET THAT CAME IN: opened to 'Al'.
  AN ALPHABET THAT CAME IN: its letters; the whole.
  A ROW OF RUNES THAT CAME IN: opened to 'RsIn'.
-/
import Derived.Test.YtmbekgfbnapelaaFeatP
import Derived.ProofKit
import Derived.SizedLaws
import Derived.Lib.SmallJoins
import Derived.Deep.Strs
import Derived.Deep.Slices
import Derived.Test.YtmbekgfbnapelaaRsP
namespace Go.Proofs.Ytmbekgfbnapelaa
open Go.ChangeShapes Go.WideShapes Go.ChangeAt Go.RowKit Go.Joins Go.Deep
set_option linter.unusedVariables false

theorem own : ownKnob Try.prog.godebug = none := by kernel_rfl
theorem laidOut : laidOutB Try.prog = true := by kernel_rfl
theorem add_cell {w : World} {a : Addr} {v : Value} (i k : Nat) (h : w.cell? ((a.add i).add k) = some v) : w.cell? ⟨a.block, a.off + i + k, none⟩ = some v := by
  have hs := World.cell?_spot h
  have e : (a.add i).add k = ⟨a.block, a.off + i + k, none⟩ := by
    obtain ⟨b, o, s⟩ := a
    unfold Addr.add at hs ⊢
    by_cases hk : k = 0
    · subst hk
      by_cases hi : i = 0
      · subst hi; simp at hs ⊢; exact hs
      · simp [hi]
    · by_cases hi : i = 0
      · subst hi; simp [hk]
      · simp [hi, hk]
  rw [e] at h
  exact h
theorem add_cell1 {w : World} {a : Addr} {v : Value} (i : Nat) (h : w.cell? (a.add i) = some v) : w.cell? ⟨a.block, a.off + i, none⟩ = some v := by
  have := add_cell (w := w) (a := a) (v := v) i 0 (by rw [show (a.add i).add 0 = a.add i from by unfold Addr.add; simp]; exact h)
  simpa using this
theorem add_cell0 {w : World} {a : Addr} {v : Value} (h : w.cell? (a.add 0) = some v) : some a = some (⟨a.block, a.off, none⟩ : Addr) := by
  rw [show a.add 0 = a from by unfold Addr.add; simp] at h
  have hs := World.cell?_spot h
  obtain ⟨b, o, s⟩ := a
  simp only at hs
  rw [hs]

section
variable {H : Type} {enc : TypeId × Value → H} {W : World} {base : Nat}

theorem open_feats {n : Nat} {c : Value} {y : DataW H × List MemPlace} (h : DataW.trod enc Try.prog W 0 (fun _ => true) true n 23 [c] = some y) (hsz : ∀ k ∈ y.1.weights Try.prog 23, k ≤ reachBytes) :
    ∃ (pf : Option Addr) (bf f0 cf : Nat) (fs : List ByteArray), c = .slice pf fs.length cf ∧ FsIn pf bf f0 cf fs W := by
  rcases open_strs Try.underlying23 Try.underlying9 (by kernel_rfl) h with ⟨hcs, hx⟩ | ⟨a, len, cap, m, Sx, hcs, _, hl, hm, hmm, hx, hcell⟩
  · obtain rfl : c = .slice none 0 0 := by simpa using hcs
    exact ⟨none, 0, 0, 0, [], rfl, ⟨fun h => absurd h (by decide), fun j hj => absurd hj (by simp), by decide, by decide, fun j hj => absurd hj (by simp)⟩⟩
  · obtain rfl : c = .slice (some a) len cap := by simpa using hcs
    obtain rfl : m = cap := by simpa using hmm
    have hfl : ((List.range len).map Sx).length = len := by simp
    have hget : ∀ j, j < len → ((List.range len).map Sx).getD j ByteArray.empty = Sx j := fun j hj => by
      rw [List.getD_eq_getElem?_getD, List.getElem?_map, List.getElem?_range hj]; rfl
    rw [hx] at hsz
    have hb : (Try.prog).bytesOf 9 = 16 := by kernel_rfl
    have hsl : (len + (m - len)) * 16 ≤ reachBytes := by
      have := hsz _ (by simp only [DataW.weights, Try.underlying23]; exact List.mem_cons_self)
      simpa [hb] using this
    have hel : ∀ j, j < len → (Sx j).size ≤ reachBytes := fun j hj => by
      have hmem : ∀ (l : List (DataW H)) (d : DataW H), d ∈ l → ∀ k ∈ d.weights Try.prog 9, k ∈ DataW.weightsAll Try.prog 9 l := by
        intro l
        induction l with
        | nil => intro d hd; exact absurd hd (by simp)
        | cons x r ih =>
          intro d hd k hk
          simp only [DataW.weightsAll, List.mem_append]
          rcases List.mem_cons.1 hd with rfl | hd
          · exact Or.inl hk
          · exact Or.inr (ih d hd k hk)
      have h1 := hmem ((List.range len).map fun i => (.lit (.string (Sx i).data.toList) : DataW H)) (.lit (.string (Sx j).data.toList)) (List.mem_map.2 ⟨j, List.mem_range.2 hj, rfl⟩) ((Sx j).data.toList.length) (by simp [DataW.weights])
      have := hsz _ (by simp only [DataW.weights, Try.underlying23]; exact List.mem_cons_of_mem _ (List.mem_append.2 (Or.inl h1)))
      simpa using this
    have hr : reachBytes < 140737488355328 := by decide
    refine ⟨some a, a.block, a.off, m, (List.range len).map Sx, by rw [hfl], ⟨fun h0 => ?_, fun j hj => ?_, by rw [hfl]; exact hl, by rw [hfl]; omega, fun j hj => ?_⟩⟩
    · rw [hfl] at h0
      exact add_cell0 (hcell 0 (by omega)).1
    · rw [hfl] at hj
      rw [hget j hj]
      exact add_cell1 j (hcell j (by omega)).1
    · rw [hfl] at hj
      rw [hget j hj]
      have := hel j hj
      omega
end
end Go.Proofs.Ytmbekgfbnapelaa
namespace Go.Proofs.Ytmbekgfbnapelaa
open Go.ChangeShapes Go.WideShapes Go.ChangeAt Go.RowKit Go.Joins Go.Deep
set_option linter.unusedVariables false
section
variable {H : Type} {enc : TypeId × Value → H} {W : World} {base : Nat}

/-- A letter's masks and rune fit their types. -/
def LtrBd (l : Ltr) : Prop := l.p < 4294967296 ∧ l.m < 4294967296 ∧ -2147483648 ≤ l.r ∧ l.r ≤ 2147483647
theorem list3 {α : Type} {l : List α} (h : l.length = 3) : ∃ a b c, l = [a, b, c] := by
  match l, h with
  | [a, b, c], _ => exact ⟨a, b, c, rfl⟩
theorem bd_of {a b c : Int} (w0 : (Lit.int .i32 a).wf = true) (w1 : (Lit.int .u32 b).wf = true) (w2 : (Lit.int .u32 c).wf = true) : 0 ≤ b ∧ 0 ≤ c ∧ LtrBd ⟨a, b.toNat, c.toNat⟩ := by
  simp only [Lit.wf, IntKind.min, IntKind.max, IntKind.signed, IntKind.bits, Bool.and_eq_true, decide_eq_true_eq] at w0 w1 w2
  simp at w0 w1 w2
  unfold LtrBd
  simp only []
  omega
theorem open_ltr {n : Nat} {cs : List Value} {y : DataW H × List MemPlace} (h : DataW.trod enc Try.prog W 0 (fun _ => true) true n 35 cs = some y) :
    ∃ l : Ltr, cs = [.int .i32 l.r, .int .u32 l.p, .int .u32 l.m] ∧ LtrBd l := by
  obtain ⟨xs, k, _, _, hlen, hxs, hf⟩ := DataW.trod_struct Try.underlying35 h
  have hlen : cs.length = 3 := hlen.trans (by kernel_rfl)
  have k21 : (Try.prog).cellsOf 21 = 1 := by kernel_rfl
  have k30 : (Try.prog).cellsOf 30 = 1 := by kernel_rfl
  obtain ⟨c0, c1, c2, rfl⟩ := list3 hlen
  obtain ⟨x0, x1, x2, rfl⟩ := list3 (hxs.trans rfl)
  have h0 : DataW.trod enc Try.prog W 0 (fun _ => true) true k 21 (([c0, c1, c2].drop 0).take ((Try.prog).cellsOf 21)) = [x0, x1, x2][0]? := hf 0 _ rfl
  rw [k21] at h0
  have h1 : DataW.trod enc Try.prog W 0 (fun _ => true) true k 30 (([c0, c1, c2].drop 1).take ((Try.prog).cellsOf 30)) = [x0, x1, x2][1]? := hf 1 _ rfl
  rw [k30] at h1
  have h2 : DataW.trod enc Try.prog W 0 (fun _ => true) true k 30 (([c0, c1, c2].drop 2).take ((Try.prog).cellsOf 30)) = [x0, x1, x2][2]? := hf 2 _ rfl
  rw [k30] at h2
  obtain ⟨a, e0, _, w0⟩ := DataW.trod_int Try.underlying21 (show DataW.trod enc Try.prog W 0 (fun _ => true) true k 21 [c0] = some x0 from h0)
  obtain ⟨b, e1, _, w1⟩ := DataW.trod_int Try.underlying30 (show DataW.trod enc Try.prog W 0 (fun _ => true) true k 30 [c1] = some x1 from h1)
  obtain ⟨c, e2, _, w2⟩ := DataW.trod_int Try.underlying30 (show DataW.trod enc Try.prog W 0 (fun _ => true) true k 30 [c2] = some x2 from h2)
  simp only [List.cons.injEq, and_true] at e0 e1 e2
  obtain ⟨q1, q2, q3⟩ := bd_of w0 w1 w2
  refine ⟨⟨a, b.toNat, c.toNat⟩, ?_, q3⟩
  rw [e0, e1, e2]
  simp only [Int.toNat_of_nonneg q1, Int.toNat_of_nonneg q2]

theorem choose_ltr {m : Nat} {p : Nat → Ltr → Prop} (h : ∀ i, i < m → ∃ l, p i l) : ∃ f : Nat → Ltr, ∀ i, i < m → p i (f i) :=
  ⟨fun i => if hi : i < m then (h i hi).choose else default, fun i hi => by simp only [dif_pos hi]; exact (h i hi).choose_spec⟩

set_option maxRecDepth 100000 in
theorem open_ltrs {n : Nat} {c : Value} {y : DataW H × List MemPlace} (h : DataW.trod enc Try.prog W 0 (fun _ => true) true n 24 [c] = some y) (hsz : ∀ k ∈ y.1.weights Try.prog 24, k ≤ reachBytes) :
    ∃ (pl : Option Addr) (bl l0 cl : Nat) (ls : List Ltr), c = .slice pl ls.length cl ∧ LsIn pl bl l0 ls W := by
  have k3 : (Try.prog).cellsOf 35 = 3 := by kernel_rfl
  rcases open_slice Try.underlying24 h with ⟨hcs, hx⟩ | ⟨a, len, cap, m, n', D, Pl, hcs, _, hl, hm, hmm, hx, hcell⟩
  · obtain rfl : c = .slice none 0 0 := by simpa using hcs
    exact ⟨none, 0, 0, 0, [], rfl, ⟨fun h => absurd h (by decide), fun j hj => absurd hj (by simp), fun j hj => absurd hj (by simp), fun j hj => absurd hj (by simp), by decide, fun l hl => absurd hl (by simp)⟩⟩
  · obtain rfl : c = .slice (some a) len cap := by simpa using hcs
    obtain rfl : m = cap := by simpa using hmm
    rw [hx] at hsz
    have hb : (Try.prog).bytesOf 35 = 12 := by kernel_rfl
    have hsl : (len + (m - len)) * 12 ≤ reachBytes := by
      have := hsz _ (by simp only [DataW.weights, Try.underlying24]; exact List.mem_cons_self)
      simpa [hb] using this
    have hr : reachBytes < 140737488355328 := by decide
    obtain ⟨L, hL⟩ := choose_ltr (m := m) (p := fun i l => (W.cell? ⟨a.block, a.off + i * 3, none⟩ = some (.int .i32 l.r) ∧ W.cell? ⟨a.block, a.off + i * 3 + 1, none⟩ = some (.int .u32 l.p) ∧ W.cell? ⟨a.block, a.off + i * 3 + 2, none⟩ = some (.int .u32 l.m)) ∧ LtrBd l) (fun i hi => by
      obtain ⟨cs', h1, h2⟩ := hcell i hi
      rw [k3] at h1
      obtain ⟨l, rfl, hw⟩ := open_ltr h2
      obtain ⟨_, _, hat⟩ := World.cells?_some h1
      have a0 := hat 0 (by decide)
      have a1 := hat 1 (by decide)
      have a2 := hat 2 (by decide)
      exact ⟨l, ⟨add_cell (i * 3) 0 a0, add_cell (i * 3) 1 a1, add_cell (i * 3) 2 a2⟩, hw⟩)
    have hfl : ((List.range len).map L).length = len := by simp
    have hget : ∀ j, j < len → ((List.range len).map L).getD j default = L j := fun j hj => by
      rw [List.getD_eq_getElem?_getD, List.getElem?_map, List.getElem?_range hj]; rfl
    refine ⟨some a, a.block, a.off, m, (List.range len).map L, by rw [hfl], ⟨fun h0 => ?_, fun j hj => ?_, fun j hj => ?_, fun j hj => ?_, by rw [hfl]; omega, fun l hl' => ?_⟩⟩
    · rw [hfl] at h0
      obtain ⟨cs', h1, h2⟩ := hcell 0 (by omega)
      rw [k3] at h1
      obtain ⟨l, rfl, hw⟩ := open_ltr h2
      obtain ⟨_, _, hat⟩ := World.cells?_some h1
      have a0 := hat 0 (by decide)
      rw [show (a.add (0 * 3)).add 0 = a.add 0 from by unfold Addr.add; simp] at a0
      exact add_cell0 a0
    · rw [hfl] at hj; rw [hget j hj]; exact (hL j (by omega)).1.1
    · rw [hfl] at hj; rw [hget j hj]; exact (hL j (by omega)).1.2.1
    · rw [hfl] at hj; rw [hget j hj]; exact (hL j (by omega)).1.2.2
    · obtain ⟨j, hj, rfl⟩ := List.mem_map.1 hl'
      exact (hL j (by have := List.mem_range.1 hj; omega)).2

set_option maxRecDepth 100000 in
/-- An alphabet that came in. -/
theorem open_al {v : Value} {d : DataW H} {p : List MemPlace} (hv : Value.okWide Try.prog W .any base 26 v) (h : DataW.Trod enc Try.prog W 0 (fun _ => true) true 26 v d p)
    (hsz : ∀ k ∈ d.weights Try.prog 26, k ≤ reachBytes) : ∃ A : Al, v = A.v ∧ A.In W := by
  obtain ⟨c0, c1, y0, y1, m, rfl, rfl, rfl, hy0, hy1⟩ := open_agg2 Try.underlying26 (by kernel_rfl) (by kernel_rfl) hv h
  have h0 : ∀ k ∈ y0.1.weights Try.prog 23, k ≤ reachBytes := fun k hk => hsz k (by
    simp only [DataW.weights, Try.underlying26, DataW.weightsEach, List.map_cons]
    exact List.mem_append.2 (Or.inl hk))
  have h1 : ∀ k ∈ y1.1.weights Try.prog 24, k ≤ reachBytes := fun k hk => hsz k (by
    simp only [DataW.weights, Try.underlying26, DataW.weightsEach, List.map_cons]
    exact List.mem_append.2 (Or.inr (List.mem_append.2 (Or.inl hk))))
  obtain ⟨pf, bf, f0, cf, fs, rfl, hF⟩ := open_feats hy0 h0
  obtain ⟨pl, bl, l0, cl, ls, rfl, hLs⟩ := open_ltrs hy1 h1
  exact ⟨⟨pf, bf, f0, cf, fs, pl, bl, l0, cl, ls⟩, rfl, ⟨hF, hLs⟩⟩
end
end Go.Proofs.Ytmbekgfbnapelaa
namespace Go.Proofs.Ytmbekgfbnapelaa
open Go.ChangeShapes Go.WideShapes Go.ChangeAt Go.RowKit Go.Joins Go.Deep
set_option linter.unusedVariables false
section
variable {H : Type} {enc : TypeId × Value → H} {W : World} {base : Nat}
theorem choose_int {m : Nat} {p : Nat → Int → Prop} (h : ∀ i, i < m → ∃ l, p i l) : ∃ f : Nat → Int, ∀ i, i < m → p i (f i) :=
  ⟨fun i => if hi : i < m then (h i hi).choose else 0, fun i hi => by simp only [dif_pos hi]; exact (h i hi).choose_spec⟩
set_option maxRecDepth 100000 in
theorem open_rs {v : Value} {d : DataW H} {p : List MemPlace} (hv : Value.okWide Try.prog W .any base 33 v) (h : DataW.Trod enc Try.prog W 0 (fun _ => true) true 33 v d p)
    (hsz : ∀ k ∈ d.weights Try.prog 33, k ≤ reachBytes) : ∃ (pr : Option Addr) (br r0 cr : Nat) (l : List Int), v = .slice pr l.length cr ∧ RsIn pr br r0 l W := by
  obtain ⟨a0, len0, cap0, rfl⟩ := okWide_slice Try.underlying33 hv
  obtain ⟨fuel, hf⟩ := h
  rcases open_slice1 Try.underlying33 (by kernel_rfl) hf with ⟨hcs, hx⟩ | ⟨a, len, cap, m, n, V, D, Pl, hcs, _, hl, hm, hmm, hx, hcell⟩
  · simp [Value.cells] at hcs
    obtain ⟨rfl, rfl, rfl⟩ := hcs
    exact ⟨none, 0, 0, 0, [], rfl, ⟨fun h => absurd h (by decide), fun j hj => absurd hj (by simp), by decide⟩⟩
  · simp [Value.cells] at hcs
    obtain ⟨rfl, rfl, rfl⟩ := hcs
    obtain rfl : m = cap0 := by simpa using hmm
    simp only [Prod.mk.injEq] at hx
    obtain ⟨rfl, _⟩ := hx
    have hb : (Try.prog).bytesOf 21 = 4 := by kernel_rfl
    have hsl : (len0 + (m - len0)) * 4 ≤ reachBytes := by
      have := hsz _ (by simp only [DataW.weights, Try.underlying33]; exact List.mem_cons_self)
      simpa [hb] using this
    have hr : reachBytes < 140737488355328 := by decide
    obtain ⟨L, hL⟩ := choose_int (m := m) (p := fun i x => W.cell? ⟨a.block, a.off + i, none⟩ = some (.int .i32 x)) (fun i hi => by
      obtain ⟨h1, h2⟩ := hcell i hi
      obtain ⟨x, e0, _, _⟩ := DataW.trod_int Try.underlying21 h2
      simp only [List.cons.injEq, and_true] at e0
      rw [e0] at h1
      exact ⟨x, add_cell1 i h1⟩)
    have hfl : ((List.range len0).map L).length = len0 := by simp
    have hget : ∀ j, j < len0 → ((List.range len0).map L).getD j 0 = L j := fun j hj => by
      rw [List.getD_eq_getElem?_getD, List.getElem?_map, List.getElem?_range hj]; rfl
    refine ⟨some a, a.block, a.off, m, (List.range len0).map L, by rw [hfl], ⟨fun h0 => ?_, fun j hj => ?_, by rw [hfl]; omega⟩⟩
    · rw [hfl] at h0
      exact add_cell0 (hcell 0 (by omega)).1
    · rw [hfl] at hj
      rw [hget j hj]
      exact hL j (by omega)
end
end Go.Proofs.Ytmbekgfbnapelaa
