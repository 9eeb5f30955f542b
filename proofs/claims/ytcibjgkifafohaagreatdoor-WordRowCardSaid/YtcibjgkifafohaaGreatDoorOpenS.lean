/-
  A []string THAT CAME IN.
  A []string THAT CAME IN, with what an append of it wants.
-/
import Derived.Test.YtcibjgkifafohaaGreatDoorOpenAl
import Derived.Test.YtcibjgkifafohaaGreatDoorWdW
namespace Go.Proofs.YtcibjgkifafohaaGreatDoor
open Go.ChangeShapes Go.WideShapes Go.ChangeAt Go.RowKit Go.Joins Go.Deep
set_option linter.unusedVariables false
section
variable {H : Type} {enc : TypeId × Value → H} {W : World} {base : Nat}
set_option maxRecDepth 100000 in
theorem open_ss {v : Value} {d : DataW H} {p : List MemPlace} (hv : Value.okWide Tryz.prog W .any base 22 v) (h : DataW.Trod enc Tryz.prog W 0 (fun _ => true) true 22 v d p)
    (hsz : ∀ k ∈ d.weights Tryz.prog 22, k ≤ reachBytes) : ∃ (pr : Option Addr) (br r0 cr : Nat) (l : List ByteArray), v = .slice pr l.length cr ∧ FsIn pr br r0 cr l W := by
  obtain ⟨a0, len0, cap0, rfl⟩ := okWide_slice Tryz.underlying22 hv
  obtain ⟨fuel, hf⟩ := h
  exact open_feats (y := (d, p)) (show DataW.trod enc Tryz.prog W 0 (fun _ => true) true fuel 22 [.slice a0 len0 cap0] = some (d, p) from hf) hsz
end
theorem FsIn.ss {pr : Option Addr} {br r0 cr : Nat} {l : List ByteArray} {w : World} (h : FsIn pr br r0 cr l w) : SsIn pr br r0 l w := ⟨h.at_, h.cells, h.big⟩
end Go.Proofs.YtcibjgkifafohaaGreatDoor
namespace Go.Proofs.YtcibjgkifafohaaGreatDoor
open Go.ChangeShapes Go.WideShapes Go.ChangeAt Go.RowKit Go.Joins Go.Deep
set_option linter.unusedVariables false
structure FsX (pr : Option Addr) (br r0 cr : Nat) (l : List ByteArray) (w : World) : Prop where
  fs : FsIn pr br r0 cr l w
  nil : pr = none → l.length = 0 ∧ cr = 0
  room : (l.length + 1) * 16 ≤ 140737488355328
section
variable {H : Type} {enc : TypeId × Value → H} {W : World} {base : Nat}
set_option maxRecDepth 100000 in
theorem open_sx {v : Value} {d : DataW H} {p : List MemPlace} (hv : Value.okWide Tryz.prog W .any base 22 v) (h : DataW.Trod enc Tryz.prog W 0 (fun _ => true) true 22 v d p)
    (hsz : ∀ k ∈ d.weights Tryz.prog 22, k ≤ reachBytes) : ∃ (pr : Option Addr) (br r0 cr : Nat) (l : List ByteArray), v = .slice pr l.length cr ∧ FsX pr br r0 cr l W := by
  obtain ⟨pr, br, r0, cr, l, rfl, hF⟩ := open_ss hv h hsz
  refine ⟨pr, br, r0, cr, l, rfl, hF, ?_, ?_⟩
  · obtain ⟨fuel, hf⟩ := h
    rcases open_strs Tryz.underlying22 Tryz.underlying9 (by kernel_rfl) (show DataW.trod enc Tryz.prog W 0 (fun _ => true) true fuel 22 [.slice pr l.length cr] = some (d, p) from hf) with ⟨hcs, hx⟩ | ⟨a, len, cap, m, Sx, hcs, _⟩
    · simp at hcs; exact fun _ => ⟨by rw [hcs.2.1]; rfl, hcs.2.2⟩
    · simp at hcs; intro h; rw [hcs.1] at h; cases h
  · obtain ⟨fuel, hf⟩ := h
    have hr : reachBytes ≤ 140737488355312 := by decide
    rcases open_strs Tryz.underlying22 Tryz.underlying9 (by kernel_rfl) (show DataW.trod enc Tryz.prog W 0 (fun _ => true) true fuel 22 [.slice pr l.length cr] = some (d, p) from hf) with ⟨hcs, hx⟩ | ⟨a, len, cap, m, Sx, hcs, _, hl, hm, hmm, hx, hcell⟩
    · simp at hcs; rw [hcs.2.1]; decide
    · simp only [List.cons.injEq, and_true, Value.slice.injEq] at hcs
      obtain ⟨_, hlen, hcap⟩ := hcs
      obtain rfl : m = cap := by simpa using hmm
      simp only [Prod.mk.injEq] at hx
      obtain ⟨rfl, _⟩ := hx
      have hb : (Tryz.prog).bytesOf 9 = 16 := by kernel_rfl
      have hsl : (len + (m - len)) * 16 ≤ reachBytes := by
        have := hsz _ (by simp only [DataW.weights, Tryz.underlying22]; exact List.mem_cons_self)
        simpa [hb] using this
      omega
end
end Go.Proofs.YtcibjgkifafohaaGreatDoor
