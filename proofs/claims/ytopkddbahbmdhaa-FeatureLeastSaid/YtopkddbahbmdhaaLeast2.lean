/-
  WALKS: cognatelaw02.FeatureLeast.
-/
import Derived.Test.YtopkddbahbmdhaaLeastP
import Derived.Test.YtopkddbahbmdhaaFar2
import Derived.Deep.CutRange
namespace Go.Proofs.Ytopkddbahbmdhaa
open Go.RowKit Go.Lib
set_option linter.unusedVariables false

theorem u_least2 {A : Al} {pr : Option Addr} {br r0 cr : Nat} {l : List Int} {w : World} {P M : Nat} {e : Int} (h : A.In w) (hR : RsIn pr br r0 l w) (he : leastR A l = (P, M, e)) :
    Calls Try.prog 13 #[A.v, .slice pr l.length cr] w fun e' w' => e' = .returned (.tuple #[.int .u32 P, .int .u32 M, .int .i64 e]) ∧ Below w.heap.size w w' := by
  have hc := least_any A pr br r0 cr l w h hR
  rw [he] at hc
  exact hc
theorem u_has2 {A : Al} {r : Int} {p m : Nat} {w : World} {b : Bool} {e : Int} (h : A.In w) (hp : p < 4294967296) (hm : m < 4294967296) (he : hasR A r p m = (b, e)) :
    Calls Try.prog 16 #[A.v, .int .i32 r, .int .u32 p, .int .u32 m] w fun e' w' => e' = .returned (.tuple #[.bool b, .int .i64 e]) ∧ Below w.heap.size w w' := by
  have hc := hasF_any A r p m w h hp hm
  rw [he] at hc
  exact hc

set_option maxHeartbeats 2000000 in
set_option maxRecDepth 100000 in
theorem leastL_long (A : Al) (pr : Option Addr) (n cr : Nat) (p m : Nat) (w : World) (hA : A.In w) (hn : 300 < n) :
    Calls Try.prog 8 #[A.v, .slice pr n cr, .int .u32 p, .int .u32 m] w fun e w' => e = .returned (.bool true) ∧ Below w.heap.size w w' := by
  have HAL := Lib.hid alive_any
  obtain ⟨pf, pl, nf, cf, nl, cl, hv, hnf, hnl, hpl, hcl, hpf, hcf⟩ := A.parts
  rw [hv]
  have hs' : (300 : Int) < (n : Int) := by omega
  have hbx := Bx.start (F := .slice pf nf cf) (L := .slice pl nl cl) hA
  have HS := Lib.hid hbx
  clear hbx hA hv hnf hnl hpl hcl hpf hcf hn
  go_enter Try.func8, Try.ntmps8
  go_wp2_with fail
  refine (HAL.out _).mono ?_
  rintro _ w1 ⟨rfl, hb⟩
  have hs := HS.out.next hb
  obtain ⟨c0, c1, hlt⟩ : w1.cell? ⟨w.heap.size, 0, none⟩ = some (.slice pf nf cf) ∧ w1.cell? ⟨w.heap.size, 1, none⟩ = some (.slice pl nl cl) ∧ w.heap.size < w1.heap.size := ⟨hs.c0, hs.c1, hs.lt⟩
  clear HS
  have HS := Lib.hid hs
  clear hs hb
  go_wp2_with fail
  go_ret
  exact ⟨rfl, HS.out.below⟩

set_option maxHeartbeats 2000000 in
set_option maxRecDepth 100000 in
theorem leastL_no (A : Al) (pr : Option Addr) (br r0 cr : Nat) (l : List Int) (p m : Nat) (w : World) (hA : A.In w) (hR : RsIn pr br r0 l w) (hn : ¬ 300 < l.length) (e : Int) (he : e ≠ 0) (h1 : leastR A l = (0, 0, e)) :
    Calls Try.prog 8 #[A.v, .slice pr l.length cr, .int .u32 p, .int .u32 m] w fun e w' => e = .returned (.bool true) ∧ Below w.heap.size w w' := by
  have HAL := Lib.hid alive_any
  have k1 := fun w (h : A.In w) (hR : RsIn pr br r0 l w) => u_least2 (cr := cr) h hR h1
  obtain ⟨pf, pl, nf, cf, nl, cl, hv, hnf, hnl, hpl, hcl, hpf, hcf⟩ := A.parts
  rw [hv] at k1 ⊢
  obtain ⟨n, hnn⟩ : ∃ n, n = l.length := ⟨_, rfl⟩
  rw [← hnn] at k1 hn ⊢
  have hs' : ¬ (300 : Int) < (n : Int) := by omega
  have e1 : (e == 0) = false := by simp [he]
  have e2 : (e != 0) = true := by simp [he]
  have hbx := Bx.start (F := .slice pf nf cf) (L := .slice pl nl cl) hA
  have HS := Lib.hid hbx; have K1 := Lib.hid k1; have HR := Lib.hid hR
  clear hbx hA hv hnf hnl hpl hcl hpf hcf hn k1 hR hnn he h1
  go_enter Try.func8, Try.ntmps8
  go_wp2_with fail
  refine (HAL.out _).mono ?_
  rintro _ w1 ⟨rfl, hb⟩
  have hs := HS.out.next hb
  obtain ⟨c0, c1, hlt⟩ : w1.cell? ⟨w.heap.size, 0, none⟩ = some (.slice pf nf cf) ∧ w1.cell? ⟨w.heap.size, 1, none⟩ = some (.slice pl nl cl) ∧ w.heap.size < w1.heap.size := ⟨hs.c0, hs.c1, hs.lt⟩
  clear HS
  have HS := Lib.hid hs
  clear hs hb
  go_wp2_with fail
  refine (K1.out _ HS.out.i (HR.out.next HS.out.below)).mono ?_
  rintro _ w2 ⟨rfl, hb⟩
  have hs := HS.out.next hb
  clear HS
  have HS := Lib.hid hs
  clear hs hb
  go_wp2_with fail
  go_ret
  exact ⟨rfl, HS.out.below⟩
end Go.Proofs.Ytopkddbahbmdhaa
