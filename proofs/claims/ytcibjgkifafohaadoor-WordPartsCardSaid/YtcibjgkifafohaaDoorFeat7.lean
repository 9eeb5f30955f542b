/-
  WALKS: feature.letterAndClass, alphabetAndClass, has, Has.
-/
import Derived.Test.YtcibjgkifafohaaDoorFeat6
namespace Go.Proofs.YtcibjgkifafohaaDoor
open Go.RowKit Go.Lib
set_option linter.unusedVariables false

def lacR (A : Al) (r : Int) (p m : Nat) : Ltr × Int := if (ofR A r).2 = 0 then (if clsB A.fs.length p m then ((ofR A r).1, 0) else (zeroL, 20)) else (zeroL, (ofR A r).2)
def aacR (A : Al) (p m : Nat) : Int := if A.ok then (if clsB A.fs.length p m then 0 else 20) else 7
def hasB (l : Ltr) (p m : Nat) : Bool := decide (l.p &&& p = p) && decide (l.m &&& m = m)
def hasR (A : Al) (r : Int) (p m : Nat) : Bool × Int := if (lacR A r p m).2 = 0 then (hasB (lacR A r p m).1 p m, 0) else (false, (lacR A r p m).2)
theorem lofR_code (ls : List Ltr) (r : Int) : (lofR ls r).2 = 0 ∨ (lofR ls r).2 = 5 := by
  unfold lofR
  cases findL ls r with
  | none => exact Or.inr rfl
  | some l => exact Or.inl rfl
theorem ofR_code (A : Al) (r : Int) : (ofR A r).2 = 0 ∨ (ofR A r).2 = 5 ∨ (ofR A r).2 = 7 := by
  unfold ofR
  cases A.ok with
  | false => exact Or.inr (Or.inr rfl)
  | true => rcases lofR_code A.ls r with h | h <;> simp [h]
theorem ofR_24 {A : Al} {r : Int} (h : (ofR A r).2 = 0) : A.ok = true := by
  cases hk : A.ok with
  | true => rfl
  | false => rw [ofR_no hk] at h; exact absurd h (by decide)
theorem ofR_mem {A : Al} {r : Int} (h : (ofR A r).2 = 0) : (ofR A r).1 ∈ A.ls ∧ (ofR A r).1.r = r := by
  have hk := ofR_24 h
  rw [ofR_ok hk] at h ⊢
  unfold lofR at h ⊢
  cases hf : findL A.ls r with
  | none => rw [hf] at h; exact absurd h (by decide)
  | some l =>
    unfold findL at hf
    refine ⟨List.mem_of_find?_eq_some hf, ?_⟩
    have := List.find?_some hf
    simpa using this
theorem ofR_bits {A : Al} {w : World} {r : Int} (hA : A.In w) : (ofR A r).1.p < 4294967296 ∧ (ofR A r).1.m < 4294967296 := by
  by_cases h : (ofR A r).2 = 0
  · have := hA.L.bits _ (ofR_mem h).1
    exact ⟨this.1, this.2.1⟩
  · have e : (ofR A r).1 = zeroL := by
      unfold ofR at h ⊢
      cases hk : A.ok with
      | false => simp
      | true =>
        rw [hk] at h
        simp only [if_true] at h ⊢
        unfold lofR at h ⊢
        cases hf : findL A.ls r with
        | none => rfl
        | some l => rw [hf] at h; exact absurd rfl h
    rw [e]
    decide
theorem lacR_err {A : Al} {r : Int} {p m : Nat} (h : ¬ (ofR A r).2 = 0) : lacR A r p m = (zeroL, (ofR A r).2) := by unfold lacR; rw [if_neg h]
theorem lacR_ok {A : Al} {r : Int} {p m : Nat} (h : (ofR A r).2 = 0) (hc : clsB A.fs.length p m = true) : lacR A r p m = ((ofR A r).1, 0) := by unfold lacR; rw [if_pos h, hc]; rfl
theorem lacR_cls {A : Al} {r : Int} {p m : Nat} (h : (ofR A r).2 = 0) (hc : clsB A.fs.length p m = false) : lacR A r p m = (zeroL, 20) := by unfold lacR; rw [if_pos h, hc]; rfl
theorem aacR_no {A : Al} {p m : Nat} (h : A.ok = false) : aacR A p m = 7 := by unfold aacR; rw [h]; rfl
theorem aacR_ok {A : Al} {p m : Nat} (h : A.ok = true) : aacR A p m = if clsB A.fs.length p m then 0 else 20 := by unfold aacR; rw [h]; rfl

theorem bset3 {B : Nat} {a w : World} (h : Below B a w) (b : Nat) (hb : B ≤ b) (x y z : Value) : Below B a (((w.setCell ⟨b, 0, none⟩ x).setCell ⟨b, 1, none⟩ y).setCell ⟨b, 2, none⟩ z) :=
  ((h.setCell (p := ⟨b, 0, none⟩) hb x).setCell (p := ⟨b, 1, none⟩) hb y).setCell (p := ⟨b, 2, none⟩) hb z
/-- An alphabet's value, its parts under names. -/
theorem Al.parts (A : Al) : ∃ (pf pl : Option Addr) (nf cf nl cl : Nat), A.v = .agg #[.slice pf nf cf, .slice pl nl cl] ∧ nf = A.fs.length ∧ nl = A.ls.length ∧ pl = A.pl ∧ cl = A.cl ∧ pf = A.pf ∧ cf = A.cf :=
  ⟨_, _, _, _, _, _, rfl, rfl, rfl, rfl, rfl, rfl, rfl⟩

set_option maxHeartbeats 1000000 in
theorem lac_any (A : Al) (r : Int) (p m : Nat) (w : World) (hA : A.In w) (hp : p < 4294967296) (hm : m < 4294967296) :
    Calls Tryd.prog 68 #[A.v, .int .i32 r, .int .u32 p, .int .u32 m] w (LofPost (lacR A r p m) w) := by
  obtain ⟨pf, pl, nf, cf, nl, cl, hv, hnf, hnl, hpl, hcl, hpf, hcf⟩ := A.parts
  have hof := of_any A r
  have hcd := ofR_code A r
  rw [hv] at hof ⊢
  have HA := Lib.hid hA; have HOF := Lib.hid hof; have HNF := Lib.hid hnf
  clear hA hof hv hnl hpl hcl hpf hcf hnf
  by_cases h0 : (ofR A r).2 = 0
  · have h24 : nf ≤ 24 := by rw [HNF.out]; exact Al.ok24 (ofR_24 h0)
    have hcl := isClass_any pf pl cf nf nl cl p m
    have HCL := Lib.hid hcl
    obtain ⟨y, hy⟩ : ∃ y, y = ofR A r := ⟨_, rfl⟩
    rw [← hy] at HOF
    obtain ⟨⟨q, u, v⟩, k⟩ := y
    obtain rfl : k = 0 := by rw [← hy] at h0; exact h0
    cases hc : clsB nf p m with
    | false =>
      have hx : lacR A r p m = (zeroL, 20) := lacR_cls h0 (by rw [← HNF.out]; exact hc)
      rw [hx]
      have HC := Lib.hid hc
      clear hx hc hy h0 hcd hcl
      go_enter Tryd.func68, Tryd.ntmps68
      go_wp2_with fail
      refine (HOF.out _ ((HA.out.alloc _).alloc _)).mono ?_
      rintro e w1 ⟨rfl, hb1⟩
      unfold Ltr.v
      obtain ⟨hcc, hff⟩ := bcell hb1
      have hz1 := hb1.size
      simp only [World.size_alloc] at hz1
      have HB1 := Lib.hid hb1
      clear hb1
      have hlt0 : w.heap.size < w1.heap.size := by omega
      have hlt1 : w.heap.size + 1 < w1.heap.size := by omega
      go_wp2_with fail
      refine (HCL.out _ h24 hp hm).mono ?_
      rintro e w2 ⟨rfl, hb2⟩
      rw [HC.out]
      obtain ⟨hcc2, hff2⟩ := bcell hb2
      have hz2 := hb2.size
      simp only [World.size_alloc] at hz2
      have HB2 := Lib.hid hb2
      clear hb2
      go_wp2_with fail
      refine bodyPost_ret (v := .tuple #[.agg #[.int .i32 0, .int .u32 0, .int .u32 0], .int .i64 20]) (by simp [results, Tryd.results68, go_sem, *]) rfl ⟨rfl, ?_⟩
      exact bset3 (((((Below.refl _ _).alloc (Nat.le_refl _) _).alloc (by simp) _).trans (HB1.out.mono (by simp; omega))).alloc (by omega) _ |>.trans (HB2.out.mono (by simp; omega))) (w.heap.size + 1) (by omega) _ _ _
    | true =>
      have hx : lacR A r p m = (⟨q, u, v⟩, 0) := by rw [lacR_ok h0 (by rw [← HNF.out]; exact hc), ← hy]
      rw [hx]
      have HC := Lib.hid hc
      clear hx hc hy h0 hcd hcl
      go_enter Tryd.func68, Tryd.ntmps68
      go_wp2_with fail
      refine (HOF.out _ ((HA.out.alloc _).alloc _)).mono ?_
      rintro e w1 ⟨rfl, hb1⟩
      unfold Ltr.v
      obtain ⟨hcc, hff⟩ := bcell hb1
      have hz1 := hb1.size
      simp only [World.size_alloc] at hz1
      have HB1 := Lib.hid hb1
      clear hb1
      have hlt0 : w.heap.size < w1.heap.size := by omega
      have hlt1 : w.heap.size + 1 < w1.heap.size := by omega
      go_wp2_with fail
      refine (HCL.out _ h24 hp hm).mono ?_
      rintro e w2 ⟨rfl, hb2⟩
      rw [HC.out]
      obtain ⟨hcc2, hff2⟩ := bcell hb2
      have hz2 := hb2.size
      simp only [World.size_alloc] at hz2
      have HB2 := Lib.hid hb2
      clear hb2
      go_wp2_with fail
      refine bodyPost_ret (v := .tuple #[.agg #[.int .i32 q, .int .u32 u, .int .u32 v], .int .i64 0]) (by simp [results, Tryd.results68, go_sem, *]) rfl ⟨rfl, ?_⟩
      exact bset3 (((((Below.refl _ _).alloc (Nat.le_refl _) _).alloc (by simp) _).trans (HB1.out.mono (by simp; omega))).alloc (by omega) _ |>.trans (HB2.out.mono (by simp; omega))) (w.heap.size + 1) (by omega) _ _ _
  · have hx : lacR A r p m = (zeroL, (ofR A r).2) := lacR_err h0
    rw [hx]
    obtain ⟨y, hy⟩ : ∃ y, y = ofR A r := ⟨_, rfl⟩
    rw [← hy] at HOF h0 ⊢
    obtain ⟨⟨q, u, v⟩, k⟩ := y
    simp only [] at h0 ⊢
    have hk1 : (k == 0) = false := by simp [h0]
    have hk2 : (k != 0) = true := by simp [h0]
    clear hx hy hcd h0
    go_enter Tryd.func68, Tryd.ntmps68
    go_wp2_with fail
    refine (HOF.out _ ((HA.out.alloc _).alloc _)).mono ?_
    rintro e w1 ⟨rfl, hb1⟩
    unfold Ltr.v
    obtain ⟨hcc, hff⟩ := bcell hb1
    have hz1 := hb1.size
    simp only [World.size_alloc] at hz1
    have HB1 := Lib.hid hb1
    clear hb1
    have hlt0 : w.heap.size < w1.heap.size := by omega
    have hlt1 : w.heap.size + 1 < w1.heap.size := by omega
    go_wp2_with fail
    refine bodyPost_ret (v := .tuple #[.agg #[.int .i32 0, .int .u32 0, .int .u32 0], .int .i64 k]) (by simp [results, Tryd.results68, go_sem, *]) rfl ⟨rfl, ?_⟩
    exact (bset3 ((((Below.refl _ _).alloc (Nat.le_refl _) _).alloc (by simp) _).trans (HB1.out.mono (by simp; omega))) (w.heap.size + 1) (by omega) _ _ _).alloc (by simp; omega) _

set_option maxHeartbeats 1000000 in
theorem aac_any (A : Al) (p m : Nat) (w : World) (hA : A.In w) (hp : p < 4294967296) (hm : m < 4294967296) :
    Calls Tryd.prog 100 #[A.v, .int .u32 p, .int .u32 m] w fun e w' => e = .returned (.int .i64 (aacR A p m)) ∧ Below w.heap.size w w' := by
  obtain ⟨pf, pl, nf, cf, nl, cl, hv, hnf, hnl, hpl, hcl, hpf, hcf⟩ := A.parts
  have hch := check_any A
  rw [hv] at hch ⊢
  have HA := Lib.hid hA; have HCH := Lib.hid hch; have HNF := Lib.hid hnf
  clear hA hch hv hnl hpl hcl hpf hcf hnf
  cases hok : A.ok with
  | false =>
    rw [aacR_no hok]
    have HC := Lib.hid (chk_no hok)
    clear hok
    go_enter Tryd.func100, Tryd.ntmps100
    go_wp2_with fail
    refine (HCH.out _ (HA.out.alloc _)).mono ?_
    rintro e w1 ⟨rfl, hb1⟩
    rw [HC.out]
    have HB1 := Lib.hid hb1
    clear hb1
    go_wp2_with fail
    go_ret
    exact ⟨rfl, ((Below.refl _ _).alloc (Nat.le_refl _) _).trans (HB1.out.mono (by simp))⟩
  | true =>
    rw [aacR_ok hok]
    have h24 : nf ≤ 24 := by rw [HNF.out]; exact Al.ok24 hok
    have HC := Lib.hid (chk_ok hok)
    have HCL := Lib.hid (isClass_any pf pl cf nf nl cl p m)
    rw [← HNF.out]
    clear hok
    cases hc : clsB nf p m with
    | false =>
      have HCC := Lib.hid hc
      clear hc
      have hif : (if false = true then (0 : Int) else 20) = 20 := rfl
      rw [hif]
      clear hif
      go_enter Tryd.func100, Tryd.ntmps100
      go_wp2_with fail
      refine (HCH.out _ (HA.out.alloc _)).mono ?_
      rintro e w1 ⟨rfl, hb1⟩
      rw [HC.out]
      obtain ⟨hcc, hff⟩ := bcell hb1
      have HB1 := Lib.hid hb1
      clear hb1
      go_wp2_with fail
      refine (HCL.out _ h24 hp hm).mono ?_
      rintro e w2 ⟨rfl, hb2⟩
      rw [HCC.out]
      have hz1 := HB1.out.size
      have HB2 := Lib.hid hb2
      clear hb2
      go_wp2_with fail
      go_ret
      exact ⟨rfl, (((Below.refl _ _).alloc (Nat.le_refl _) _).trans (HB1.out.mono (by simp))).trans (HB2.out.mono (by simp at hz1; omega))⟩
    | true =>
      have HCC := Lib.hid hc
      clear hc
      have hif : (if true = true then (0 : Int) else 20) = 0 := rfl
      rw [hif]
      clear hif
      go_enter Tryd.func100, Tryd.ntmps100
      go_wp2_with fail
      refine (HCH.out _ (HA.out.alloc _)).mono ?_
      rintro e w1 ⟨rfl, hb1⟩
      rw [HC.out]
      obtain ⟨hcc, hff⟩ := bcell hb1
      have HB1 := Lib.hid hb1
      clear hb1
      go_wp2_with fail
      refine (HCL.out _ h24 hp hm).mono ?_
      rintro e w2 ⟨rfl, hb2⟩
      rw [HCC.out]
      have hz1 := HB1.out.size
      have HB2 := Lib.hid hb2
      clear hb2
      go_wp2_with fail
      go_ret
      exact ⟨rfl, (((Below.refl _ _).alloc (Nat.le_refl _) _).trans (HB1.out.mono (by simp))).trans (HB2.out.mono (by simp at hz1; omega))⟩

set_option maxHeartbeats 400000 in
theorem has_any (l : Ltr) (p m : Nat) (w : World) (h1 : l.p < 4294967296) (h2 : l.m < 4294967296) (hp : p < 4294967296) (hm : m < 4294967296) :
    Calls Tryd.prog 69 #[l.v, .int .u32 p, .int .u32 m] w fun e w' => e = .returned (.bool (hasB l p m)) ∧ Below w.heap.size w w' := by
  obtain ⟨q, u, v⟩ := l
  simp only [] at h1 h2
  have e1 := u32_and_nat u p h1 hp
  have e2 := u32_and_nat v m h2 hm
  have hh : hasB ⟨q, u, v⟩ p m = (decide (u &&& p = p) && decide (v &&& m = m)) := rfl
  obtain ⟨X, hX⟩ : ∃ X, X = u &&& p := ⟨_, rfl⟩
  obtain ⟨Y, hY⟩ : ∃ X, X = v &&& m := ⟨_, rfl⟩
  rw [← hX] at e1 hh
  rw [← hY] at e2 hh
  rw [hh]
  unfold Ltr.v
  simp only []
  clear hX hY hh
  by_cases hx : X = p
  · have hx1 : ((X : Int) == (p : Int)) = true := by simp [hx]
    have ey : ((Y : Int) == (m : Int)) = decide (Y = m) := by rw [Bool.eq_iff_iff]; simp; omega
    have EY := Lib.hid ey
    have ed : decide (X = p) = true := by simp [hx]
    rw [ed]
    clear ey ed hx
    go_enter Tryd.func69, Tryd.ntmps69
    go_wp2
    go_ret
    exact ⟨by rw [Bool.true_and, ← EY.out] <;> rfl, (Below.refl _ _).alloc (Nat.le_refl _) _⟩
  · have hx1 : ((X : Int) == (p : Int)) = false := by simp; omega
    have ed : decide (X = p) = false := by simp [hx]
    rw [ed]
    clear ed hx
    go_enter Tryd.func69, Tryd.ntmps69
    go_wp2
    go_ret
    exact ⟨rfl, (Below.refl _ _).alloc (Nat.le_refl _) _⟩

end Go.Proofs.YtcibjgkifafohaaDoor
