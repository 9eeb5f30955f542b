/-
  WALKS: feature.Far, Near.
-/
import Derived.Test.YtmbekgfbnapelaaFeat9
namespace Go.Proofs.Ytmbekgfbnapelaa
open Go.RowKit Go.Lib
set_option linter.unusedVariables false

theorem lofR_mem {ls : List Ltr} {r : Int} (h : (lofR ls r).2 = 0) : (lofR ls r).1 ∈ ls ∧ (lofR ls r).1.r = r := by
  unfold lofR at h ⊢
  cases hf : findL ls r with
  | none => rw [hf] at h; exact absurd h (by decide)
  | some l =>
    unfold findL at hf
    refine ⟨List.mem_of_find?_eq_some hf, ?_⟩
    have := List.find?_some hf
    simpa using this
theorem Al.In.ltr {A : Al} {w : World} (hA : A.In w) {l : Ltr} (h : l ∈ A.ls) : LtrOk l := ⟨(hA.L.bits l h).1, (hA.L.bits l h).2.1⟩
theorem zero_ok : LtrOk zeroL := by unfold LtrOk zeroL; decide
theorem ofR_ltr {A : Al} {w : World} (r : Int) (hA : A.In w) : LtrOk (ofR A r).1 := ofR_bits hA
theorem lacR_ltr {A : Al} {w : World} (r : Int) (p m : Nat) (hA : A.In w) : LtrOk (lacR A r p m).1 := lacR_bits hA

def farR (A : Al) (x y : Int) : Nat × Int := if (ofR A x).2 = 0 then (if (lofR A.ls y).2 = 0 then (unl (ofR A x).1 (lofR A.ls y).1, 0) else (0, (lofR A.ls y).2)) else (0, (ofR A x).2)

set_option maxHeartbeats 1000000 in
theorem far_any (A : Al) (x y : Int) (w : World) (hA : A.In w) :
    Calls Try.prog 15 #[A.v, .int .i32 x, .int .i32 y] w fun e w' => e = .returned (.tuple #[.int .i64 (farR A x y).1, .int .i64 (farR A x y).2]) ∧ Below w.heap.size w w' := by
  obtain ⟨pf, pl, nf, cf, nl, cl, hv, hnf, hnl, hpl, hcl, hpf, hcf⟩ := A.parts
  have hof := of_any A x
  have hlo := letterOf_any A.pl A.bl A.l0 A.cl A.ls y
  have hx := ofR_ltr x hA
  rw [← hnl, ← hpl, ← hcl] at hlo
  rw [hv] at hof ⊢
  have HA := Lib.hid hA; have HOF := Lib.hid hof; have HLO := Lib.hid hlo; have HPL := Lib.hid hpl
  clear hA hof hlo hv hnf hnl hpl hcl hpf hcf
  by_cases h0 : (ofR A x).2 = 0
  · by_cases h1 : (lofR A.ls y).2 = 0
    · have hr : farR A x y = (unl (ofR A x).1 (lofR A.ls y).1, 0) := by unfold farR; rw [if_pos h0, if_pos h1]
      have hy := Al.In.ltr HA.out (lofR_mem h1).1
      rw [hr]
      obtain ⟨a, ha⟩ : ∃ a, a = ofR A x := ⟨_, rfl⟩
      obtain ⟨b, hb⟩ : ∃ a, a = lofR A.ls y := ⟨_, rfl⟩
      rw [← ha] at HOF h0 hx ⊢
      rw [← hb] at HLO h1 hy ⊢
      obtain ⟨a, k⟩ := a
      obtain ⟨b, k2⟩ := b
      simp only [] at h0 h1 hx hy ⊢
      subst h0; subst h1
      have HU := Lib.hid (fun w => unlike_any a b w hx hy)
      obtain ⟨r1, p1, m1⟩ := a
      obtain ⟨r2, p2, m2⟩ := b
      obtain ⟨u, hu⟩ : ∃ u, u = unl ⟨r1, p1, m1⟩ ⟨r2, p2, m2⟩ := ⟨_, rfl⟩
      rw [← hu] at HU ⊢
      unfold Ltr.v at HU
      simp only [] at HU
      clear hr ha hb hx hy hu
      go_enter Try.func15, Try.ntmps15
      go_wp2_with fail
      refine (HOF.out _ (HA.out.alloc _)).mono ?_
      rintro e w1 ⟨rfl, hb1⟩
      unfold Ltr.v
      obtain ⟨hcc, hff⟩ := bcell hb1
      have hz1 := hb1.size
      simp only [World.size_alloc] at hz1
      have hlt0 : w.heap.size < w1.heap.size := by omega
      have HB1 := Lib.hid hb1
      clear hb1
      go_wp2_with fail
      refine (HLO.out _ (by rw [HPL.out]; exact ((((HA.out.alloc _).next HB1.out).alloc _).L))).mono ?_
      rintro e w2 ⟨rfl, hb2⟩
      unfold Ltr.v
      obtain ⟨hcc2, hff2⟩ := bcell hb2
      have hz2 := hb2.size
      simp only [World.size_alloc] at hz2
      have hlt2 : w1.heap.size < w2.heap.size := by omega
      have HB2 := Lib.hid hb2
      clear hb2
      go_wp2_with fail
      refine (HU.out _).mono ?_
      rintro e w3 ⟨rfl, hb3⟩
      have HB3 := Lib.hid hb3
      clear hb3
      go_wp2_with fail
      go_ret2
      exact ⟨rfl, ((((((Below.refl _ _).alloc (Nat.le_refl _) _).trans (HB1.out.mono (by simp))).alloc (by omega) _).trans (HB2.out.mono (by simp; omega))).alloc (by omega) _).trans (HB3.out.mono (by simp; omega))⟩
    · have hr : farR A x y = (0, (lofR A.ls y).2) := by unfold farR; rw [if_pos h0, if_neg h1]
      rw [hr]
      obtain ⟨a, ha⟩ : ∃ a, a = ofR A x := ⟨_, rfl⟩
      obtain ⟨b, hb⟩ : ∃ a, a = lofR A.ls y := ⟨_, rfl⟩
      rw [← ha] at HOF h0
      rw [← hb] at HLO h1 ⊢
      obtain ⟨⟨r1, p1, m1⟩, k⟩ := a
      obtain ⟨⟨r2, p2, m2⟩, k2⟩ := b
      simp only [] at h0 h1 ⊢
      subst h0
      have hk1 : (k2 == 0) = false := by simp [h1]
      have hk2 : (k2 != 0) = true := by simp [h1]
      clear hr ha hb hx h1
      go_enter Try.func15, Try.ntmps15
      go_wp2_with fail
      refine (HOF.out _ (HA.out.alloc _)).mono ?_
      rintro e w1 ⟨rfl, hb1⟩
      unfold Ltr.v
      obtain ⟨hcc, hff⟩ := bcell hb1
      have hz1 := hb1.size
      simp only [World.size_alloc] at hz1
      have hlt0 : w.heap.size < w1.heap.size := by omega
      have HB1 := Lib.hid hb1
      clear hb1
      go_wp2_with fail
      refine (HLO.out _ (by rw [HPL.out]; exact ((((HA.out.alloc _).next HB1.out).alloc _).L))).mono ?_
      rintro e w2 ⟨rfl, hb2⟩
      unfold Ltr.v
      have hz2 := hb2.size
      simp only [World.size_alloc] at hz2
      have HB2 := Lib.hid hb2
      clear hb2
      go_wp2_with fail
      go_ret2
      exact ⟨rfl, (((((Below.refl _ _).alloc (Nat.le_refl _) _).trans (HB1.out.mono (by simp))).alloc (by omega) _).trans (HB2.out.mono (by simp; omega))).alloc (by omega) _⟩
  · have hr : farR A x y = (0, (ofR A x).2) := by unfold farR; rw [if_neg h0]
    rw [hr]
    obtain ⟨a, ha⟩ : ∃ a, a = ofR A x := ⟨_, rfl⟩
    rw [← ha] at HOF h0 ⊢
    obtain ⟨⟨r1, p1, m1⟩, k⟩ := a
    simp only [] at h0 ⊢
    have hk1 : (k == 0) = false := by simp [h0]
    have hk2 : (k != 0) = true := by simp [h0]
    clear hr ha hx h0
    go_enter Try.func15, Try.ntmps15
    go_wp2_with fail
    refine (HOF.out _ (HA.out.alloc _)).mono ?_
    rintro e w1 ⟨rfl, hb1⟩
    unfold Ltr.v
    have hz1 := hb1.size
    simp only [World.size_alloc] at hz1
    have HB1 := Lib.hid hb1
    clear hb1
    go_wp2_with fail
    go_ret2
    exact ⟨rfl, (((Below.refl _ _).alloc (Nat.le_refl _) _).trans (HB1.out.mono (by simp))).alloc (by omega) _⟩

end Go.Proofs.Ytmbekgfbnapelaa
