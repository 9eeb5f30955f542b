/-
  AN ALPHABET THAT CAME IN, with what appends of its rows want.
-/
import Derived.Test.YtmbekgfbnapelaaOpenAl
import Derived.Test.YtmbekgfbnapelaaTwn
namespace Go.Proofs.Ytmbekgfbnapelaa
open Go.ChangeShapes Go.WideShapes Go.ChangeAt Go.RowKit Go.Joins Go.Deep
set_option linter.unusedVariables false
section
variable {H : Type} {enc : TypeId × Value → H} {W : World} {base : Nat}
set_option maxRecDepth 100000 in
theorem feats_x {n len cf : Nat} {pf : Option Addr} {y : DataW H × List MemPlace} (h : DataW.trod enc Try.prog W 0 (fun _ => true) true n 23 [.slice pf len cf] = some y) (hsz : ∀ k ∈ y.1.weights Try.prog 23, k ≤ reachBytes) :
    (pf = none → len = 0 ∧ cf = 0) ∧ len * 16 ≤ 140737488355328 := by
  have hr : reachBytes ≤ 140737488355312 := by decide
  rcases open_slice Try.underlying23 h with ⟨hcs, hx⟩ | ⟨a, len', cap, m, n', D, Pl, hcs, _, hl, hm, hmm, hx, hcell⟩
  · simp only [List.cons.injEq, and_true, Value.slice.injEq] at hcs
    obtain ⟨_, rfl, rfl⟩ := hcs
    exact ⟨fun _ => ⟨rfl, rfl⟩, by decide⟩
  · simp only [List.cons.injEq, and_true, Value.slice.injEq] at hcs
    obtain ⟨rfl, hl1, hc1⟩ := hcs
    obtain rfl : m = cap := by simpa using hmm
    rw [hx] at hsz
    have hb : (Try.prog).bytesOf 9 = 16 := by kernel_rfl
    have hsl : (len' + (m - len')) * 16 ≤ reachBytes := by
      have := hsz _ (by simp only [DataW.weights, Try.underlying23]; exact List.mem_cons_self)
      simpa [hb] using this
    exact ⟨fun h => (by cases h), by omega⟩
set_option maxRecDepth 100000 in
theorem ltrs_x {n len cl : Nat} {pl : Option Addr} {y : DataW H × List MemPlace} (h : DataW.trod enc Try.prog W 0 (fun _ => true) true n 24 [.slice pl len cl] = some y) (hsz : ∀ k ∈ y.1.weights Try.prog 24, k ≤ reachBytes) :
    (pl = none → len = 0 ∧ cl = 0) ∧ len * 12 ≤ 140737488355328 := by
  have hr : reachBytes ≤ 140737488355312 := by decide
  rcases open_slice Try.underlying24 h with ⟨hcs, hx⟩ | ⟨a, len', cap, m, n', D, Pl, hcs, _, hl, hm, hmm, hx, hcell⟩
  · simp only [List.cons.injEq, and_true, Value.slice.injEq] at hcs
    obtain ⟨_, rfl, rfl⟩ := hcs
    exact ⟨fun _ => ⟨rfl, rfl⟩, by decide⟩
  · simp only [List.cons.injEq, and_true, Value.slice.injEq] at hcs
    obtain ⟨rfl, hl1, hc1⟩ := hcs
    obtain rfl : m = cap := by simpa using hmm
    rw [hx] at hsz
    have hb : (Try.prog).bytesOf 35 = 12 := by kernel_rfl
    have hsl : (len' + (m - len')) * 12 ≤ reachBytes := by
      have := hsz _ (by simp only [DataW.weights, Try.underlying24]; exact List.mem_cons_self)
      simpa [hb] using this
    exact ⟨fun h => (by cases h), by omega⟩
set_option maxRecDepth 100000 in
theorem open_ax {v : Value} {d : DataW H} {p : List MemPlace} (hv : Value.okWide Try.prog W .any base 26 v) (h : DataW.Trod enc Try.prog W 0 (fun _ => true) true 26 v d p)
    (hsz : ∀ k ∈ d.weights Try.prog 26, k ≤ reachBytes) : ∃ A : Al, v = A.v ∧ AlX A W := by
  obtain ⟨c0, c1, y0, y1, m, rfl, rfl, rfl, hy0, hy1⟩ := open_agg2 Try.underlying26 (by kernel_rfl) (by kernel_rfl) hv h
  have h0 : ∀ k ∈ y0.1.weights Try.prog 23, k ≤ reachBytes := fun k hk => hsz k (by
    simp only [DataW.weights, Try.underlying26, DataW.weightsEach, List.map_cons]
    exact List.mem_append.2 (Or.inl hk))
  have h1 : ∀ k ∈ y1.1.weights Try.prog 24, k ≤ reachBytes := fun k hk => hsz k (by
    simp only [DataW.weights, Try.underlying26, DataW.weightsEach, List.map_cons]
    exact List.mem_append.2 (Or.inr (List.mem_append.2 (Or.inl hk))))
  obtain ⟨pf, bf, f0, cf, fs, rfl, hF⟩ := open_feats hy0 h0
  obtain ⟨pl, bl, l0, cl, ls, rfl, hLs⟩ := open_ltrs hy1 h1
  obtain ⟨a1, a2⟩ := feats_x hy0 h0
  obtain ⟨b1, b2⟩ := ltrs_x hy1 h1
  exact ⟨⟨pf, bf, f0, cf, fs, pl, bl, l0, cl, ls⟩, rfl, ⟨⟨hF, hLs⟩, a1, b1, a2, b2⟩⟩
end
end Go.Proofs.Ytmbekgfbnapelaa
