/-
  WALKS: feature.Of, letterAndClass, alphabetAndClass, has, Has.
-/
import Derived.Test.YtcibjgkifafohaaDoorFeat5
namespace Go.Proofs.YtcibjgkifafohaaDoor
open Go.RowKit Go.Lib
set_option linter.unusedVariables false

theorem ofR_ok {A : Al} {r : Int} (h : A.ok = true) : ofR A r = lofR A.ls r := by unfold ofR; rw [h]; rfl
theorem ofR_no {A : Al} {r : Int} (h : A.ok = false) : ofR A r = (zeroL, 7) := by unfold ofR; rw [h]; rfl
theorem chk_ok {A : Al} (h : A.ok = true) : chk A = 0 := by unfold chk; rw [h]; rfl
theorem chk_no {A : Al} (h : A.ok = false) : chk A = 7 := by unfold chk; rw [h]; rfl

set_option maxHeartbeats 1000000 in
theorem of_any (A : Al) (r : Int) (w : World) (hA : A.In w) :
    Calls Tryd.prog 91 #[A.v, .int .i32 r] w (LofPost (ofR A r) w) := by
  have hv : A.v = .agg #[.slice A.pf A.fs.length A.cf, .slice A.pl A.ls.length A.cl] := rfl
  obtain ⟨F, hF⟩ : ∃ F, F = Value.slice A.pf A.fs.length A.cf := ⟨_, rfl⟩
  obtain ⟨nl, hnl⟩ : ∃ n, n = A.ls.length := ⟨_, rfl⟩
  obtain ⟨pl, hpl⟩ : ∃ n, n = A.pl := ⟨_, rfl⟩
  obtain ⟨cl, hcl⟩ : ∃ n, n = A.cl := ⟨_, rfl⟩
  rw [← hF, ← hnl, ← hpl, ← hcl] at hv
  have hch := check_any A
  have hlo := letterOf_any A.pl A.bl A.l0 A.cl A.ls r
  rw [← hnl, ← hpl, ← hcl] at hlo
  rw [hv] at hch ⊢
  have HA := Lib.hid hA; have HCH := Lib.hid hch; have HLO := Lib.hid hlo; have HPL := Lib.hid hpl
  have hFs : ∃ a b c, F = .slice a b c := ⟨_, _, _, hF⟩
  obtain ⟨fa, fb, fc, rfl⟩ := hFs
  clear hA hch hlo hv hF hnl hpl hcl
  cases hok : A.ok with
  | false =>
    have hx := ofR_no (r := r) hok
    have hc := chk_no hok
    rw [hx]
    have HC := Lib.hid hc
    clear hx hc hok
    go_enter Tryd.func91, Tryd.ntmps91
    go_wp2_with fail
    refine (HCH.out _ ((HA.out.alloc _).alloc _)).mono ?_
    rintro e w1 ⟨rfl, hb1⟩
    rw [HC.out]
    obtain ⟨hcc, hff⟩ := bcell hb1
    have HB1 := Lib.hid hb1
    clear hb1
    go_wp2_with fail
    refine bodyPost_ret (v := .tuple #[.agg #[.int .i32 0, .int .u32 0, .int .u32 0], .int .i64 7]) (by simp [results, Tryd.results91, go_sem, *]) rfl ⟨rfl, ?_⟩
    exact (((((((Below.refl _ _).alloc (Nat.le_refl _) _).alloc (by simp) _).trans (HB1.out.mono (by simp; omega))).setCell (by simp) _).setCell (by simp) _).setCell (by simp) _)
  | true =>
    have hx := ofR_ok (r := r) hok
    have hc := chk_ok hok
    rw [hx]
    obtain ⟨y, hy⟩ : ∃ y, y = lofR A.ls r := ⟨_, rfl⟩
    rw [← hy] at HLO ⊢
    obtain ⟨⟨q, p, m⟩, k⟩ := y
    have HC := Lib.hid hc
    clear hx hc hok hy
    go_enter Tryd.func91, Tryd.ntmps91
    go_wp2_with fail
    refine (HCH.out _ ((HA.out.alloc _).alloc _)).mono ?_
    rintro e w1 ⟨rfl, hb1⟩
    rw [HC.out]
    obtain ⟨hcc, hff⟩ := bcell hb1
    have hz1 := hb1.size
    simp only [World.size_alloc] at hz1
    have hA1 := (((HA.out.alloc _).alloc _).next hb1).L
    have HB1 := Lib.hid hb1; have HA1 := Lib.hid hA1
    clear hb1 hA1
    go_wp2_with fail
    refine (HLO.out _ (by rw [HPL.out]; exact HA1.out)).mono ?_
    rintro e w2 ⟨rfl, hb2⟩
    obtain ⟨hcc2, hff2⟩ := bcell hb2
    have hz2 := hb2.size
    have HB2 := Lib.hid hb2
    clear hb2
    unfold Ltr.v
    have hlt1 : w.heap.size + 1 < w1.heap.size := by omega
    go_wp2_with fail
    refine bodyPost_ret (v := .tuple #[.agg #[.int .i32 q, .int .u32 p, .int .u32 m], .int .i64 k]) (by simp [results, Tryd.results91, go_sem, *]) rfl ⟨rfl, ?_⟩
    exact ((((((((Below.refl _ _).alloc (Nat.le_refl _) _).alloc (by simp) _).trans (HB1.out.mono (by simp; omega))).trans (HB2.out.mono (by omega))).setCell (by simp) _).setCell (by simp) _).setCell (by simp) _)

end Go.Proofs.YtcibjgkifafohaaDoor
