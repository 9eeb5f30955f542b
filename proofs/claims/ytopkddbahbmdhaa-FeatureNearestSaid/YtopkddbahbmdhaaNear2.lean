/-
  WALKS: cognatelaw02.FeatureNearest.
-/
import Derived.Test.YtopkddbahbmdhaaNearP
import Derived.Test.YtopkddbahbmdhaaFar2
namespace Go.Proofs.Ytopkddbahbmdhaa
open Go.RowKit Go.Lib
set_option linter.unusedVariables false

theorem u_of' {A : Al} {r : Int} {w : World} (h : A.In w) : Calls Try.prog 15 #[A.v, .int .i32 r] w
    fun e w' => e = .returned (.tuple #[.agg #[.int .i32 (ofR A r).1.r, .int .u32 (ofR A r).1.p, .int .u32 (ofR A r).1.m], .int .i64 (ofR A r).2]) ∧ Below w.heap.size w w' := of_any A r w h

set_option maxHeartbeats 2000000 in
set_option maxRecDepth 100000 in
theorem nearest_no (A : Al) (r : Int) (p m : Nat) (w : World) (hA : A.In w) (hp : p < 4294967296) (hm : m < 4294967296) (e : Int) (he : e ≠ 0) (h1 : nearR A r p m = (0, e)) :
    Calls Try.prog 6 #[A.v, .int .i32 r, .int .u32 p, .int .u32 m] w fun e w' => e = .returned (.bool true) ∧ Below w.heap.size w w' := by
  have HAL := Lib.hid alive_any
  have k1 := fun w h => near_any A r p m w h hp hm
  rw [h1] at k1
  have k2 := fun w (h : A.In w) => u_of' (r := r) h
  obtain ⟨⟨⟨q1, q2, q3⟩, q4⟩, hq⟩ : ∃ x, x = ofR A r := ⟨_, rfl⟩
  rw [← hq] at k2
  simp only [] at k1 k2
  obtain ⟨pf, pl, nf, cf, nl, cl, hv, hnf, hnl, hpl, hcl, hpf, hcf⟩ := A.parts
  rw [hv] at k1 k2 ⊢
  have K1 := Lib.hid k1; have K2 := Lib.hid k2
  have hs := Bx.start (F := .slice pf nf cf) (L := .slice pl nl cl) hA
  have HS := Lib.hid hs
  have e1 : (e == 0) = false := by simp [he]
  have e2 : (e != 0) = true := by simp [he]
  clear hs hA he h1 k1 k2 hq hp hm hv hnf hnl hpl hcl hpf hcf
  go_enter Try.func6, Try.ntmps6
  go_wp2_with fail
  refine (HAL.out _).mono ?_
  rintro _ w1 ⟨rfl, hb⟩
  have hs := HS.out.next hb
  obtain ⟨c0, c1, hlt⟩ : w1.cell? ⟨w.heap.size, 0, none⟩ = some (.slice pf nf cf) ∧ w1.cell? ⟨w.heap.size, 1, none⟩ = some (.slice pl nl cl) ∧ w.heap.size < w1.heap.size := ⟨hs.c0, hs.c1, hs.lt⟩
  clear HS
  have HS := Lib.hid hs
  clear hs hb
  go_wp2_with fail
  refine (K1.out _ HS.out.i).mono ?_
  rintro _ w2 ⟨rfl, hb⟩
  have hs := HS.out.next hb
  obtain ⟨c0, c1, hlt⟩ : w2.cell? ⟨w.heap.size, 0, none⟩ = some (.slice pf nf cf) ∧ w2.cell? ⟨w.heap.size, 1, none⟩ = some (.slice pl nl cl) ∧ w.heap.size < w2.heap.size := ⟨hs.c0, hs.c1, hs.lt⟩
  clear HS
  have HS := Lib.hid hs
  clear hs hb
  go_wp2_with fail
  refine (K2.out _ HS.out.i).mono ?_
  rintro _ w3 ⟨rfl, hb⟩
  have hs := HS.out.next hb
  obtain ⟨c0, c1, hlt⟩ : w3.cell? ⟨w.heap.size, 0, none⟩ = some (.slice pf nf cf) ∧ w3.cell? ⟨w.heap.size, 1, none⟩ = some (.slice pl nl cl) ∧ w.heap.size < w3.heap.size := ⟨hs.c0, hs.c1, hs.lt⟩
  clear HS
  have HS := Lib.hid hs
  clear hs hb
  go_wp2_with fail
  go_ret
  exact ⟨rfl, (HS.out.alloc _).below⟩
end Go.Proofs.Ytopkddbahbmdhaa
