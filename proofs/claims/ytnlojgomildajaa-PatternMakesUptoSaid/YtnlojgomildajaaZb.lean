/-
  The zero value of [256]bool, a constant that the walk doesn't open. (Where the seat has a zeroCells of its own, 'abbrev zbC' is that one.)
-/
import Derived.Test.YtnlojgomildajaaNdQ
namespace Go.Proofs.Ytnlojgomildajaa
open Go.RowKit Go.Lib
@[irreducible] def zbC : Array Value := Array.replicate 256 (.bool false)
theorem zb_list : zbC.toList = List.replicate 256 (.bool false) := by unfold zbC; simp
theorem zb_ne : zbC ≠ #[] := by
  intro h
  have := congrArg Array.toList h
  rw [zb_list] at this
  cases this
theorem zb_value (w : World) : Sem.run Try.prog (zeroValue 54) w = Result.ok (.agg zbC) w := by
  have h : (Try.prog.info? 54).map (fun i => i.zero) = some (some (.agg (Array.replicate 256 (.bool false)))) := by kernel_rfl
  have e : zbC = Array.replicate 256 (.bool false) := by unfold zbC; rfl
  rw [e]
  cases hi : Try.prog.info? 54 with
  | none => rw [hi] at h; cases h
  | some i =>
    rw [hi] at h
    simp only [Option.map_some, Option.some.injEq] at h
    simp [zeroValue, typeInfo, hi, h]
end Go.Proofs.Ytnlojgomildajaa
