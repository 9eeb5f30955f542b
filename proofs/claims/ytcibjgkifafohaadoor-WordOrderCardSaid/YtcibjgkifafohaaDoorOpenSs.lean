/-
  A []string THAT CAME IN.
-/
import Derived.Test.YtcibjgkifafohaaDoorOpenAl
import Derived.Test.YtcibjgkifafohaaDoorWdW
namespace Go.Proofs.YtcibjgkifafohaaDoor
open Go.ChangeShapes Go.WideShapes Go.ChangeAt Go.RowKit Go.Joins Go.Deep
set_option linter.unusedVariables false
section
variable {H : Type} {enc : TypeId × Value → H} {W : World} {base : Nat}
set_option maxRecDepth 100000 in
theorem open_ss {v : Value} {d : DataW H} {p : List MemPlace} (hv : Value.okWide Tryd.prog W .any base 31 v) (h : DataW.Trod enc Tryd.prog W 0 (fun _ => true) true 31 v d p)
    (hsz : ∀ k ∈ d.weights Tryd.prog 31, k ≤ reachBytes) : ∃ (pr : Option Addr) (br r0 cr : Nat) (l : List ByteArray), v = .slice pr l.length cr ∧ FsIn pr br r0 cr l W := by
  obtain ⟨a0, len0, cap0, rfl⟩ := okWide_slice Tryd.underlying31 hv
  obtain ⟨fuel, hf⟩ := h
  exact open_feats (y := (d, p)) (show DataW.trod enc Tryd.prog W 0 (fun _ => true) true fuel 31 [.slice a0 len0 cap0] = some (d, p) from hf) hsz
end
theorem FsIn.ss {pr : Option Addr} {br r0 cr : Nat} {l : List ByteArray} {w : World} (h : FsIn pr br r0 cr l w) : SsIn pr br r0 l w := ⟨h.at_, h.cells, h.big⟩
end Go.Proofs.YtcibjgkifafohaaDoor
