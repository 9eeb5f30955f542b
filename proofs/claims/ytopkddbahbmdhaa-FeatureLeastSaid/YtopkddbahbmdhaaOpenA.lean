/-
  AN ALPHABET THAT CAME IN: opened to 'Al'.
-/
import Derived.Test.YtopkddbahbmdhaaFar2
import Derived.ProofKit
import Derived.SizedLaws
import Derived.Lib.SmallJoins
import Derived.Deep.Strs
import Derived.Deep.Slices
namespace Go.Proofs.Ytopkddbahbmdhaa
open Go.ChangeShapes Go.WideShapes Go.ChangeAt Go.RowKit Go.Joins Go.Deep
set_option linter.unusedVariables false

theorem own : ownKnob Try.prog.godebug = none := by kernel_rfl
theorem laidOut : laidOutB Try.prog = true := by kernel_rfl
theorem add_cell {w : World} {a : Addr} {v : Value} (i k : Nat) (h : w.cell? ((a.add i).add k) = some v) : w.cell? ⟨a.block, a.off + i + k, none⟩ = some v := by
  have hs := World.cell?_spot h
  have e : (a.add i).add k = ⟨a.block, a.off + i + k, none⟩ := by
    obtain ⟨b, o, s⟩ := a
    unfold Addr.add at hs ⊢
    by_cases hk : k = 0
    · subst hk
      by_cases hi : i = 0
      · subst hi; simp at hs ⊢; exact hs
      · simp [hi]
    · by_cases hi : i = 0
      · subst hi; simp [hk]
      · simp [hi, hk]
  rw [e] at h
  exact h
theorem add_cell1 {w : World} {a : Addr} {v : Value} (i : Nat) (h : w.cell? (a.add i) = some v) : w.cell? ⟨a.block, a.off + i, none⟩ = some v := by
  have := add_cell (w := w) (a := a) (v := v) i 0 (by rw [show (a.add i).add 0 = a.add i from by unfold Addr.add; simp]; exact h)
  simpa using this
theorem add_cell0 {w : World} {a : Addr} {v : Value} (h : w.cell? (a.add 0) = some v) : some a = some (⟨a.block, a.off, none⟩ : Addr) := by
  rw [show a.add 0 = a from by unfold Addr.add; simp] at h
  have hs := World.cell?_spot h
  obtain ⟨b, o, s⟩ := a
  simp only at hs
  rw [hs]

section
variable {H : Type} {enc : TypeId × Value → H} {W : World} {base : Nat}

theorem open_feats {n : Nat} {c : Value} {y : DataW H × List MemPlace} (h : DataW.trod enc Try.prog W 0 (fun _ => true) true n 23 [c] = some y) (hsz : ∀ k ∈ y.1.weights Try.prog 23, k ≤ reachBytes) :
    ∃ (pf : Option Addr) (bf f0 cf : Nat) (fs : List ByteArray), c = .slice pf fs.length cf ∧ FsIn pf bf f0 cf fs W := by
  rcases open_strs Try.underlying23 Try.underlying9 (by kernel_rfl) h with ⟨hcs, hx⟩ | ⟨a, len, cap, m, Sx, hcs, _, hl, hm, hmm, hx, hcell⟩
  · obtain rfl : c = .slice none 0 0 := by simpa using hcs
    exact ⟨none, 0, 0, 0, [], rfl, ⟨fun h => absurd h (by decide), fun j hj => absurd hj (by simp), by decide, by decide, fun j hj => absurd hj (by simp)⟩⟩
  · obtain rfl : c = .slice (some a) len cap := by simpa using hcs
    obtain rfl : m = cap := by simpa using hmm
    have hfl : ((List.range len).map Sx).length = len := by simp
    have hget : ∀ j, j < len → ((List.range len).map Sx).getD j ByteArray.empty = Sx j := fun j hj => by
      rw [List.getD_eq_getElem?_getD, List.getElem?_map, List.getElem?_range hj]; rfl
    rw [hx] at hsz
    have hb : (Try.prog).bytesOf 9 = 16 := by kernel_rfl
    have hsl : (len + (m - len)) * 16 ≤ reachBytes := by
      have := hsz _ (by simp only [DataW.weights, Try.underlying23]; exact List.mem_cons_self)
      simpa [hb] using this
    have hel : ∀ j, j < len → (Sx j).size ≤ reachBytes := fun j hj => by
      have hmem : ∀ (l : List (DataW H)) (d : DataW H), d ∈ l → ∀ k ∈ d.weights Try.prog 9, k ∈ DataW.weightsAll Try.prog 9 l := by
        intro l
        induction l with
        | nil => intro d hd; exact absurd hd (by simp)
        | cons x r ih =>
          intro d hd k hk
          simp only [DataW.weightsAll, List.mem_append]
          rcases List.mem_cons.1 hd with rfl | hd
          · exact Or.inl hk
          · exact Or.inr (ih d hd k hk)
      have h1 := hmem ((List.range len).map fun i => (.lit (.string (Sx i).data.toList) : DataW H)) (.lit (.string (Sx j).data.toList)) (List.mem_map.2 ⟨j, List.mem_range.2 hj, rfl⟩) ((Sx j).data.toList.length) (by simp [DataW.weights])
      have := hsz _ (by simp only [DataW.weights, Try.underlying23]; exact List.mem_cons_of_mem _ (List.mem_append.2 (Or.inl h1)))
      simpa using this
    have hr : reachBytes < 140737488355328 := by decide
    refine ⟨some a, a.block, a.off, m, (List.range len).map Sx, by rw [hfl], ⟨fun h0 => ?_, fun j hj => ?_, by rw [hfl]; exact hl, by rw [hfl]; omega, fun j hj => ?_⟩⟩
    · rw [hfl] at h0
      exact add_cell0 (hcell 0 (by omega)).1
    · rw [hfl] at hj
      rw [hget j hj]
      exact add_cell1 j (hcell j (by omega)).1
    · rw [hfl] at hj
      rw [hget j hj]
      have := hel j hj
      omega
end
end Go.Proofs.Ytopkddbahbmdhaa
