/-
  WALKS: cognatelaw02.FeatureFar.
-/
import Derived.Test.YtopkddbahbmdhaaFarP
namespace Go.Proofs.Ytopkddbahbmdhaa
open Go.RowKit Go.Lib
set_option linter.unusedVariables false

/-- A law's world: the alphabet's value lies in box b. -/
structure Bx (A : Al) (F L : Value) (w : World) (b : Nat) (wk : World) : Prop where
  i : A.In wk
  c0 : wk.cell? ⟨b, 0, none⟩ = some F
  c1 : wk.cell? ⟨b, 1, none⟩ = some L
  below : Below w.heap.size w wk
  lt : b < wk.heap.size
theorem Bx.next {A : Al} {F L : Value} {w : World} {b : Nat} {wk w' : World} (h : Bx A F L w b wk) (hb : Below wk.heap.size wk w') : Bx A F L w b w' :=
  ⟨h.i.next hb, (hb.cell (p := ⟨b, 0, none⟩) h.lt).trans h.c0, (hb.cell (p := ⟨b, 1, none⟩) h.lt).trans h.c1, h.below.trans (hb.mono h.below.size), Nat.lt_of_lt_of_le h.lt hb.size⟩
theorem Bx.alloc {A : Al} {F L : Value} {w : World} {b : Nat} {wk : World} (h : Bx A F L w b wk) (o : Obj) : Bx A F L w b (wk.alloc o) := h.next ((Below.refl _ _).alloc (Nat.le_refl _) _)
theorem Bx.start {A : Al} {F L : Value} {w : World} (h : A.In w) : Bx A F L w w.heap.size (w.alloc (.cells #[F, L] 26)) :=
  ⟨h.alloc _, by simp, by simp, (Below.refl _ _).alloc (Nat.le_refl _) _, by simp⟩

set_option maxHeartbeats 4000000 in
set_option maxRecDepth 100000 in
theorem far_no (A : Al) (x y z : Int) (w : World) (hA : A.In w) (e : Int) (he : e ≠ 0) (h1 : farR A x y = (0, e)) (h2 : farR A y x = (0, e)) :
    Calls Try.prog 7 #[A.v, .int .i32 x, .int .i32 y, .int .i32 z] w fun e w' => e = .returned (.bool true) ∧ Below w.heap.size w w' := by
  have HAL := Lib.hid alive_any
  have k1 := fun w h => far_any A x y w h
  have k2 := fun w h => far_any A y x w h
  have k3 := fun w h => far_any A x z w h
  have k4 := fun w h => far_any A z y w h
  rw [h1] at k1
  rw [h2] at k2
  obtain ⟨⟨p, g⟩, hp⟩ : ∃ r, r = farR A x z := ⟨_, rfl⟩
  obtain ⟨⟨q, h⟩, hq⟩ : ∃ r, r = farR A z y := ⟨_, rfl⟩
  rw [← hp] at k3
  rw [← hq] at k4
  obtain ⟨pf, pl, nf, cf, nl, cl, hv, hnf, hnl, hpl, hcl, hpf, hcf⟩ := A.parts
  rw [hv] at k1 k2 k3 k4 ⊢
  have K1 := Lib.hid k1; have K2 := Lib.hid k2; have K3 := Lib.hid k3; have K4 := Lib.hid k4
  have hs := Bx.start (F := .slice pf nf cf) (L := .slice pl nl cl) hA
  have HS := Lib.hid hs
  have e1 : (e == 0) = false := by simp [he]
  have e2 : (e != 0) = true := by simp [he]
  have e3 : (e != e) = false := by simp
  have e4 : (e == e) = true := by simp
  clear hs hA he h1 h2 k1 k2 k3 k4 hp hq hv hnf hnl hpl hcl hpf hcf
  go_enter Try.func7, Try.ntmps7
  go_wp2_with fail
  refine (HAL.out _).mono ?_
  rintro _ w1 ⟨rfl, hb⟩
  have hs := HS.out.next hb
  obtain ⟨c0, c1, hlt⟩ : w1.cell? ⟨w.heap.size, 0, none⟩ = some (.slice pf nf cf) ∧ w1.cell? ⟨w.heap.size, 1, none⟩ = some (.slice pl nl cl) ∧ w.heap.size < w1.heap.size := ⟨hs.c0, hs.c1, hs.lt⟩
  clear HS
  have HS := Lib.hid hs
  clear hs hb
  go_wp2_with fail
  refine (K1.out _ HS.out.i).mono ?_
  rintro _ w2 ⟨rfl, hb⟩
  have hs := HS.out.next hb
  obtain ⟨c0, c1, hlt⟩ : w2.cell? ⟨w.heap.size, 0, none⟩ = some (.slice pf nf cf) ∧ w2.cell? ⟨w.heap.size, 1, none⟩ = some (.slice pl nl cl) ∧ w.heap.size < w2.heap.size := ⟨hs.c0, hs.c1, hs.lt⟩
  clear HS
  have HS := Lib.hid hs
  clear hs hb
  go_wp2_with fail
  refine (K2.out _ HS.out.i).mono ?_
  rintro _ w3 ⟨rfl, hb⟩
  have hs := HS.out.next hb
  obtain ⟨c0, c1, hlt⟩ : w3.cell? ⟨w.heap.size, 0, none⟩ = some (.slice pf nf cf) ∧ w3.cell? ⟨w.heap.size, 1, none⟩ = some (.slice pl nl cl) ∧ w.heap.size < w3.heap.size := ⟨hs.c0, hs.c1, hs.lt⟩
  clear HS
  have HS := Lib.hid hs
  clear hs hb
  go_wp2_with fail
  refine (K3.out _ HS.out.i).mono ?_
  rintro _ w4 ⟨rfl, hb⟩
  have hs := HS.out.next hb
  obtain ⟨c0, c1, hlt⟩ : w4.cell? ⟨w.heap.size, 0, none⟩ = some (.slice pf nf cf) ∧ w4.cell? ⟨w.heap.size, 1, none⟩ = some (.slice pl nl cl) ∧ w.heap.size < w4.heap.size := ⟨hs.c0, hs.c1, hs.lt⟩
  clear HS
  have HS := Lib.hid hs
  clear hs hb
  go_wp2_with fail
  refine (K4.out _ HS.out.i).mono ?_
  rintro _ w5 ⟨rfl, hb⟩
  have hs := HS.out.next hb
  obtain ⟨c0, c1, hlt⟩ : w5.cell? ⟨w.heap.size, 0, none⟩ = some (.slice pf nf cf) ∧ w5.cell? ⟨w.heap.size, 1, none⟩ = some (.slice pl nl cl) ∧ w.heap.size < w5.heap.size := ⟨hs.c0, hs.c1, hs.lt⟩
  clear HS
  have HS := Lib.hid hs
  clear hs hb
  go_wp2_with fail
  go_ret
  exact ⟨rfl, HS.out.below⟩
end Go.Proofs.Ytopkddbahbmdhaa
