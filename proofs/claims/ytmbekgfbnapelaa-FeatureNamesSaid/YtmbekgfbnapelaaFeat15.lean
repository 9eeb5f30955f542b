/-
  WALKS: feature.Parse.
-/
import Derived.Test.YtmbekgfbnapelaaFeat14
import Derived.Carry
import Derived.Deep.Cut
import Derived.MapKept
namespace Go.Proofs.Ytmbekgfbnapelaa
open Go.RowKit Go.Lib Go.MapKept
set_option linter.unusedVariables false

/-! ### the signs' map -/
def sgM1 : Array MapEntry := #[{ key := .int .i32 43, val := .int .i64 0, born := 0 }]
def sgM2 : Array MapEntry := #[{ key := .int .i32 43, val := .int .i64 0, born := 0 }, { key := .int .i32 45, val := .int .i64 1, born := 1 }]
theorem undT : (Try.prog).underlying 98 = some (.map 21 3) := by kernel_rfl
theorem undK : (Try.prog).underlying 21 = some (.int .i32) := by kernel_rfl
theorem sg_check (key : Int) (w : World) : (Instr.checkKey false 10000 21 (.int .i32 key)).run Try.prog w = .ok () w :=
  MapKept.run_checkKey (k := .int .i32 key) undK (by simp [MapKept.IsKey]) false 9999
theorem sg_new (w : World) (o : Obj) : (w.alloc o).heap[w.heap.size]? = some o := Array.getElem?_push_size
theorem sg_set (w : World) (o o' : Obj) : ({ w.alloc o with heap := (w.alloc o).heap.setIfInBounds w.heap.size o' } : World) = w.alloc o' := by
  have h : (w.heap.push o).setIfInBounds w.heap.size o' = w.heap.push o' := by
    apply Array.ext_getElem?
    intro i
    simp only [Array.getElem?_setIfInBounds, Array.getElem?_push, Array.size_push]
    split <;> split <;> first | rfl | omega | (subst_vars; simp_all)
  show ({ w with heap := (w.heap.push o).setIfInBounds w.heap.size o' } : World) = { w with heap := w.heap.push o' }
  rw [h]
theorem sg_up1 (w : World) : (Instr.mapUpdate 98 (.map (some w.heap.size)) (.int .i32 43) (.int .i64 0)).run Try.prog (w.alloc (.map #[] 0)) = .ok () (w.alloc (.map sgM1 1)) := by
  have hf : Instr.findNow (.int .i32) (.int .i32 43) (#[] : Array MapEntry).toList 0 = some none := rfl
  have hb := sg_new w (.map #[] 0)
  rw [← sg_set w (.map #[] 0) (.map sgM1 1)]
  generalize w.alloc (.map #[] 0) = W at hb ⊢
  simp only [Instr.mapUpdate, Sem.run_bind, run_underlying undT, MapKept.run_getObj_map hb, sg_check, MapKept.run_findKey undK hf, MapKept.run_setObj_map _ hb, Result.andThen]
  rfl
theorem sg_up2 (w : World) : (Instr.mapUpdate 98 (.map (some w.heap.size)) (.int .i32 45) (.int .i64 1)).run Try.prog (w.alloc (.map sgM1 1)) = .ok () (w.alloc (.map sgM2 2)) := by
  have hf : Instr.findNow (.int .i32) (.int .i32 45) sgM1.toList 0 = some none := by kernel_rfl
  have hb := sg_new w (.map sgM1 1)
  have hp : sgM1.push { key := .int .i32 45, val := .int .i64 1, born := 1 } = sgM2 := rfl
  rw [← sg_set w (.map sgM1 1) (.map sgM2 2)]
  generalize w.alloc (.map sgM1 1) = W at hb ⊢
  rw [← hp]
  generalize sgM1 = M at hb hf ⊢
  simp only [Instr.mapUpdate, Sem.run_bind, run_underlying undT, MapKept.run_getObj_map hb, sg_check, MapKept.run_findKey undK hf, MapKept.run_setObj_map _ hb, Result.andThen]
def sideI (b : Nat) : Int := if b = 45 then 1 else 0
def isSg (b : Nat) : Bool := decide (b = 43) || decide (b = 45)
theorem sg_zero (w : World) : (zeroValue 3).run Try.prog w = .ok (.int .i64 0) w := by kernel_rfl
theorem sg_look (w : World) (b : Nat) (c : Nat) (h : w.heap[b]? = some (.map sgM2 2)) : (Instr.lookup 98 (.map (some b)) (.int .i32 (c : Int)) true).run Try.prog w = .ok (.tuple #[.int .i64 (sideI c), .bool (isSg c)]) w := by
  have hk : ∀ b, (Instr.checkKey b 10000 21 (.int .i32 (c:Int))).run Try.prog w = .ok () w := fun b => MapKept.run_checkKey (k := .int .i32 (c:Int)) undK (by simp [MapKept.IsKey]) b 9999
  have hf : Instr.findNow (.int .i32) (.int .i32 (c:Int)) sgM2.toList 0 = some (if c = 43 then some (0, .int .i64 0) else if c = 45 then some (1, .int .i64 1) else none) := by
    have e1 : ((c : Int) == 43) = decide (c = 43) := by rw [Bool.eq_iff_iff]; simp; omega
    have e2 : ((c : Int) == 45) = decide (c = 45) := by rw [Bool.eq_iff_iff]; simp; omega
    simp only [sgM2, Instr.findNow, Instr.sameNow, if_pos, e1, e2]
    by_cases h1 : c = 43
    · simp [h1]
    · by_cases h2 : c = 45
      · simp [h2]
      · simp [h1, h2]
  by_cases h1 : c = 43
  · rw [if_pos h1] at hf
    subst h1
    simp only [Instr.lookup, Sem.run_bind, Sem.run_pure, run_underlying undT, MapKept.run_getObj_map h, hk, MapKept.run_findKey undK hf, Result.andThen]
    rfl
  · rw [if_neg h1] at hf
    by_cases h2 : c = 45
    · rw [if_pos h2] at hf
      subst h2
      simp only [Instr.lookup, Sem.run_bind, Sem.run_pure, run_underlying undT, MapKept.run_getObj_map h, hk, MapKept.run_findKey undK hf, Result.andThen]
      rfl
    · rw [if_neg h2] at hf
      simp only [Instr.lookup, Sem.run_bind, Sem.run_pure, run_underlying undT, MapKept.run_getObj_map h, hk, MapKept.run_findKey undK hf, sg_zero, Result.andThen]
      simp [sideI, isSg, h1, h2]
end Go.Proofs.Ytmbekgfbnapelaa
