/-
  WALKS: cognatelaw02.FeatureFar, where there is an answer; the whole.
-/
import Derived.Test.YtopkddbahbmdhaaFar
namespace Go.Proofs.Ytopkddbahbmdhaa
open Go.RowKit Go.Lib
set_option linter.unusedVariables false

theorem farR_le (A : Al) (x y : Int) : (farR A x y).1 ≤ 32 := by
  unfold farR
  split
  · split
    · exact popAux_le 32 _
    · exact Nat.zero_le _
  · exact Nat.zero_le _
theorem u_of {A : Al} {r : Int} {q : Ltr} {w : World} (h : A.In w) (e : ofR A r = (q, 0)) : Calls Try.prog 15 #[A.v, .int .i32 r] w
    fun e w' => e = .returned (.tuple #[.agg #[.int .i32 q.r, .int .u32 q.p, .int .u32 q.m], .int .i64 0]) ∧ Below w.heap.size w w' := by
  have hc := of_any A r w h
  rw [e] at hc
  exact hc

set_option maxHeartbeats 8000000 in
set_option maxRecDepth 100000 in
theorem far_yes (A : Al) (x y z : Int) (w : World) (hA : A.In w) (lx ly : Ltr) (hok : A.ok = true) (ox : ofR A x = (lx, 0)) (oy : ofR A y = (ly, 0)) (ex : lofR A.ls x = (lx, 0)) (ey : lofR A.ls y = (ly, 0))
    (h1 : farR A x y = (unl lx ly, 0)) (h2 : farR A y x = (unl lx ly, 0)) (hle : unl lx ly ≤ A.fs.length) (hz : unl lx ly = 0 ↔ lx.p = ly.p ∧ lx.m = ly.m) :
    Calls Try.prog 7 #[A.v, .int .i32 x, .int .i32 y, .int .i32 z] w fun e w' => e = .returned (.bool true) ∧ Below w.heap.size w w' := by
  have HAL := Lib.hid alive_any
  have k1 := fun w h => far_any A x y w h
  have k2 := fun w h => far_any A y x w h
  have k3 := fun w h => far_any A x z w h
  have k4 := fun w h => far_any A z y w h
  have k5 := fun w (h : A.In w) => u_of h ox
  have k6 := fun w (h : A.In w) => u_of h oy
  rw [h1] at k1
  rw [h2] at k2
  have hvia : (farR A x z).2 = 0 → (farR A z y).2 = 0 → unl lx ly ≤ (farR A x z).1 + (farR A z y).1 := fun a b => farR_via hok ex ey a b
  have hp32 := farR_le A x z
  have hq32 := farR_le A z y
  have h24 := Al.ok24 hok
  obtain ⟨⟨p, g⟩, hp⟩ : ∃ r, r = farR A x z := ⟨_, rfl⟩
  obtain ⟨⟨q, h⟩, hq⟩ : ∃ r, r = farR A z y := ⟨_, rfl⟩
  obtain ⟨M, hM⟩ : ∃ M, M = unl lx ly := ⟨_, rfl⟩
  rw [← hp] at k3 hvia hp32
  rw [← hq] at k4 hvia hq32
  rw [← hM] at k1 k2 hle hz hvia
  obtain ⟨pf, pl, nf, cf, nl, cl, hv, hnf, hnl, hpl, hcl, hpf, hcf⟩ := A.parts
  rw [hv] at k1 k2 k3 k4 k5 k6 ⊢
  rw [← hnf] at hle h24
  obtain ⟨rx, px, mx⟩ := lx
  obtain ⟨ry, py, my⟩ := ly
  simp only [] at k1 k2 k3 k4 k5 k6 hz hvia hp32 hq32
  have K1 := Lib.hid k1; have K2 := Lib.hid k2; have K3 := Lib.hid k3; have K4 := Lib.hid k4; have K5 := Lib.hid k5; have K6 := Lib.hid k6
  have hs := Bx.start (F := .slice pf nf cf) (L := .slice pl nl cl) hA
  have HS := Lib.hid hs
  have hM0 : ¬ (M : Int) < 0 := by omega
  have hMn : (M : Int) ≤ (nf : Int) := by omega
  have fin : ((g == 0) = false ∧ (g != 0) = true) ∨ ((g == 0) = true ∧ (g != 0) = false ∧ (h == 0) = false ∧ (h != 0) = true) ∨ ((g == 0) = true ∧ (g != 0) = false ∧ (h == 0) = true ∧ (h != 0) = false ∧ (M : Int) ≤ p + q) := by
    by_cases hg : g = 0
    · by_cases hh : h = 0
      · have := hvia hg hh
        refine Or.inr (Or.inr ⟨by simp [hg], by simp [hg], by simp [hh], by simp [hh], by omega⟩)
      · exact Or.inr (Or.inl ⟨by simp [hg], by simp [hg], by simp [hh], by simp [hh]⟩)
    · exact Or.inl ⟨by simp [hg], by simp [hg]⟩
  have eqs : (((M : Int) == 0) = true ∧ ((px : Int) == (py : Int)) = true ∧ ((mx : Int) == (my : Int)) = true) ∨ (((M : Int) == 0) = false ∧ ((px : Int) == (py : Int)) = false) ∨ (((M : Int) == 0) = false ∧ ((px : Int) == (py : Int)) = true ∧ ((mx : Int) == (my : Int)) = false) := by
    simp only [beq_iff_eq, beq_eq_false_iff_ne, ne_eq, Int.natCast_inj, show ((0 : Int) = ((0 : Nat) : Int)) from rfl]
    omega
  have HFIN := Lib.hid fin
  have HEQS := Lib.hid eqs
  clear fin eqs hs hA h1 h2 k1 k2 k3 k4 k5 k6 hp hq hM hv hnf hnl hpl hcl hpf hcf hvia hz hok ex ey ox oy hle
  go_enter Try.func7, Try.ntmps7
  go_wp2_with fail
  refine (HAL.out _).mono ?_
  rintro _ w1 ⟨rfl, hb⟩
  have hs := HS.out.next hb
  obtain ⟨c0, c1, hlt⟩ : w1.cell? ⟨w.heap.size, 0, none⟩ = some (.slice pf nf cf) ∧ w1.cell? ⟨w.heap.size, 1, none⟩ = some (.slice pl nl cl) ∧ w.heap.size < w1.heap.size := ⟨hs.c0, hs.c1, hs.lt⟩
  clear HS
  have HS := Lib.hid hs
  clear hs hb
  go_wp2_with fail
  refine (K1.out _ HS.out.i).mono ?_
  rintro _ w2 ⟨rfl, hb⟩
  have hs := HS.out.next hb
  obtain ⟨c0, c1, hlt⟩ : w2.cell? ⟨w.heap.size, 0, none⟩ = some (.slice pf nf cf) ∧ w2.cell? ⟨w.heap.size, 1, none⟩ = some (.slice pl nl cl) ∧ w.heap.size < w2.heap.size := ⟨hs.c0, hs.c1, hs.lt⟩
  clear HS
  have HS := Lib.hid hs
  clear hs hb
  go_wp2_with fail
  refine (K2.out _ HS.out.i).mono ?_
  rintro _ w3 ⟨rfl, hb⟩
  have hs := HS.out.next hb
  obtain ⟨c0, c1, hlt⟩ : w3.cell? ⟨w.heap.size, 0, none⟩ = some (.slice pf nf cf) ∧ w3.cell? ⟨w.heap.size, 1, none⟩ = some (.slice pl nl cl) ∧ w.heap.size < w3.heap.size := ⟨hs.c0, hs.c1, hs.lt⟩
  clear HS
  have HS := Lib.hid hs
  clear hs hb
  go_wp2_with fail
  refine (K3.out _ HS.out.i).mono ?_
  rintro _ w4 ⟨rfl, hb⟩
  have hs := HS.out.next hb
  obtain ⟨c0, c1, hlt⟩ : w4.cell? ⟨w.heap.size, 0, none⟩ = some (.slice pf nf cf) ∧ w4.cell? ⟨w.heap.size, 1, none⟩ = some (.slice pl nl cl) ∧ w.heap.size < w4.heap.size := ⟨hs.c0, hs.c1, hs.lt⟩
  clear HS
  have HS := Lib.hid hs
  clear hs hb
  go_wp2_with fail
  refine (K4.out _ HS.out.i).mono ?_
  rintro _ w5 ⟨rfl, hb⟩
  have hs := HS.out.next hb
  obtain ⟨c0, c1, hlt⟩ : w5.cell? ⟨w.heap.size, 0, none⟩ = some (.slice pf nf cf) ∧ w5.cell? ⟨w.heap.size, 1, none⟩ = some (.slice pl nl cl) ∧ w.heap.size < w5.heap.size := ⟨hs.c0, hs.c1, hs.lt⟩
  clear HS
  have HS := Lib.hid hs
  clear hs hb
  go_wp2_with fail
  refine (K5.out _ HS.out.i).mono ?_
  rintro _ w6 ⟨rfl, hb⟩
  have hs := HS.out.next hb
  obtain ⟨c0, c1, hlt⟩ : w6.cell? ⟨w.heap.size, 0, none⟩ = some (.slice pf nf cf) ∧ w6.cell? ⟨w.heap.size, 1, none⟩ = some (.slice pl nl cl) ∧ w.heap.size < w6.heap.size := ⟨hs.c0, hs.c1, hs.lt⟩
  clear HS
  have HS := Lib.hid hs
  clear hs hb
  go_wp2_with fail
  refine (K6.out _ (HS.out.alloc _).i).mono ?_
  rintro _ w7 ⟨rfl, hb⟩
  have hs := (HS.out.alloc _).next hb
  obtain ⟨hcc, hff⟩ := bcell hb
  have d1 : w7.cell? ⟨w6.heap.size, 1, none⟩ = some (.int .u32 px) := by rw [hcc _ _ (by simp)]; simp
  have d2 : w7.cell? ⟨w6.heap.size, 2, none⟩ = some (.int .u32 mx) := by rw [hcc _ _ (by simp)]; simp
  have hz7 := hb.size
  simp only [World.size_alloc] at hz7
  have hlt6 : w6.heap.size < w7.heap.size := by omega
  clear HS
  have HS := Lib.hid hs
  clear hs hb hcc hff c0 c1 hlt hz7
  rcases HEQS.out with ⟨q1, q2, q3⟩ | ⟨q1, q2⟩ | ⟨q1, q2, q3⟩
  all_goals
    rcases HFIN.out with ⟨f1, f2⟩ | ⟨f1, f2, f3, f4⟩ | ⟨f1, f2, f3, f4, f5⟩
    all_goals
      go_wp2_with fail
      go_ret
      exact ⟨rfl, (HS.out.alloc _).below⟩

/-- 'cognatelaw02.FeatureFar' answers true, whatever the input. -/
theorem lawFar (A : Al) (x y z : Int) (w : World) (hA : A.In w) :
    Calls Try.prog 7 #[A.v, .int .i32 x, .int .i32 y, .int .i32 z] w fun e w' => e = .returned (.bool true) ∧ Below w.heap.size w w' := by
  rcases farR_cases A x y hA.L.bits with ⟨e, he, h1, h2⟩ | ⟨lx, ly, hok, ox, oy, ex, ey, h1, h2, hle, hz⟩
  · exact far_no A x y z w hA e he h1 h2
  · exact far_yes A x y z w hA lx ly hok ox oy ex ey h1 h2 hle hz
end Go.Proofs.Ytopkddbahbmdhaa
