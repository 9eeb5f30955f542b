/-
  A []rune THAT CAME IN, with what an append of it wants.
-/
import Derived.Test.YtmbekgfbnapelaaOpenAl
import Derived.Test.YtmbekgfbnapelaaAppR
namespace Go.Proofs.Ytmbekgfbnapelaa
open Go.ChangeShapes Go.WideShapes Go.ChangeAt Go.RowKit Go.Joins Go.Deep
set_option linter.unusedVariables false
section
variable {H : Type} {enc : TypeId × Value → H} {W : World} {base : Nat}
set_option maxRecDepth 100000 in
theorem open_rx {v : Value} {d : DataW H} {p : List MemPlace} (hv : Value.okWide Try.prog W .any base 33 v) (h : DataW.Trod enc Try.prog W 0 (fun _ => true) true 33 v d p)
    (hsz : ∀ k ∈ d.weights Try.prog 33, k ≤ reachBytes) : ∃ (pr : Option Addr) (br r0 cr : Nat) (l : List Int), v = .slice pr l.length cr ∧ RsX pr br r0 cr l W := by
  obtain ⟨a0, len0, cap0, rfl⟩ := okWide_slice Try.underlying33 hv
  obtain ⟨fuel, hf⟩ := h
  rcases open_slice1 Try.underlying33 (by kernel_rfl) hf with ⟨hcs, hx⟩ | ⟨a, len, cap, m, n, V, D, Pl, hcs, _, hl, hm, hmm, hx, hcell⟩
  · simp [Value.cells] at hcs
    obtain ⟨rfl, rfl, rfl⟩ := hcs
    exact ⟨none, 0, 0, 0, [], rfl, ⟨⟨fun h => absurd h (by decide), fun j hj => absurd hj (by simp), by decide⟩, fun _ => ⟨rfl, rfl⟩⟩⟩
  · simp [Value.cells] at hcs
    obtain ⟨rfl, rfl, rfl⟩ := hcs
    obtain rfl : m = cap0 := by simpa using hmm
    simp only [Prod.mk.injEq] at hx
    obtain ⟨rfl, _⟩ := hx
    have hb : (Try.prog).bytesOf 21 = 4 := by kernel_rfl
    have hsl : (len0 + (m - len0)) * 4 ≤ reachBytes := by
      have := hsz _ (by simp only [DataW.weights, Try.underlying33]; exact List.mem_cons_self)
      simpa [hb] using this
    have hr : reachBytes < 140737488355328 := by decide
    obtain ⟨L, hL⟩ := choose_int (m := m) (p := fun i x => W.cell? ⟨a.block, a.off + i, none⟩ = some (.int .i32 x)) (fun i hi => by
      obtain ⟨h1, h2⟩ := hcell i hi
      obtain ⟨x, e0, _, _⟩ := DataW.trod_int Try.underlying21 h2
      simp only [List.cons.injEq, and_true] at e0
      rw [e0] at h1
      exact ⟨x, add_cell1 i h1⟩)
    have hfl : ((List.range len0).map L).length = len0 := by simp
    have hget : ∀ j, j < len0 → ((List.range len0).map L).getD j 0 = L j := fun j hj => by
      rw [List.getD_eq_getElem?_getD, List.getElem?_map, List.getElem?_range hj]; rfl
    refine ⟨some a, a.block, a.off, m, (List.range len0).map L, by rw [hfl], ⟨⟨fun h0 => ?_, fun j hj => ?_, by rw [hfl]; omega⟩, fun h => by cases h⟩⟩
    · rw [hfl] at h0
      exact add_cell0 (hcell 0 (by omega)).1
    · rw [hfl] at hj
      rw [hget j hj]
      exact hL j (by omega)
end
end Go.Proofs.Ytmbekgfbnapelaa
