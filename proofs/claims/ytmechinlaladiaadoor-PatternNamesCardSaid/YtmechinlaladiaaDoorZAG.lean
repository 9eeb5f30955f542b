/-
  WALKS: feature.letterAndClass, alphabetAndClass, has, Has.
  WALKS: feature.Has, Class.
  PLAIN: masks of letters; a law's world with an alphabet's box.
  WALKS: math/bits.OnesCount32; feature.unlike, turned.
  WALKS: feature.Far, Near.
  WALKS: feature.Near.
  WALKS: feature.Least.
-/
import Derived.Lib.BitFns
import Derived.Deep.QuietTactic
import Derived.BigQuiet
import Derived.Deep.Cut
import Derived.Test.YtmechinlaladiaaDoorZAF
import Derived.Test.YtmechinlaladiaaDoorZAE
namespace Go.Proofs.YtmechinlaladiaaDoor
open Go.RowKit Go.Lib
set_option linter.unusedVariables false

def lacR (A : Al) (r : Int) (p m : Nat) : Ltr × Int := if (ofR A r).2 = 0 then (if clsB A.fs.length p m then ((ofR A r).1, 0) else (zeroL, 20)) else (zeroL, (ofR A r).2)
def aacR (A : Al) (p m : Nat) : Int := if A.ok then (if clsB A.fs.length p m then 0 else 20) else 7
def hasB (l : Ltr) (p m : Nat) : Bool := decide (l.p &&& p = p) && decide (l.m &&& m = m)
def hasR (A : Al) (r : Int) (p m : Nat) : Bool × Int := if (lacR A r p m).2 = 0 then (hasB (lacR A r p m).1 p m, 0) else (false, (lacR A r p m).2)
theorem lofR_code (ls : List Ltr) (r : Int) : (lofR ls r).2 = 0 ∨ (lofR ls r).2 = 5 := by
  unfold lofR
  cases findL ls r with
  | none => exact Or.inr rfl
  | some l => exact Or.inl rfl
theorem ofR_code (A : Al) (r : Int) : (ofR A r).2 = 0 ∨ (ofR A r).2 = 5 ∨ (ofR A r).2 = 7 := by
  unfold ofR
  cases A.ok with
  | false => exact Or.inr (Or.inr rfl)
  | true => rcases lofR_code A.ls r with h | h <;> simp [h]
theorem ofR_24 {A : Al} {r : Int} (h : (ofR A r).2 = 0) : A.ok = true := by
  cases hk : A.ok with
  | true => rfl
  | false => rw [ofR_no hk] at h; exact absurd h (by decide)
theorem ofR_mem {A : Al} {r : Int} (h : (ofR A r).2 = 0) : (ofR A r).1 ∈ A.ls ∧ (ofR A r).1.r = r := by
  have hk := ofR_24 h
  rw [ofR_ok hk] at h ⊢
  unfold lofR at h ⊢
  cases hf : findL A.ls r with
  | none => rw [hf] at h; exact absurd h (by decide)
  | some l =>
    unfold findL at hf
    refine ⟨List.mem_of_find?_eq_some hf, ?_⟩
    have := List.find?_some hf
    simpa using this
theorem ofR_bits {A : Al} {w : World} {r : Int} (hA : A.In w) : (ofR A r).1.p < 4294967296 ∧ (ofR A r).1.m < 4294967296 := by
  by_cases h : (ofR A r).2 = 0
  · have := hA.L.bits _ (ofR_mem h).1
    exact ⟨this.1, this.2.1⟩
  · have e : (ofR A r).1 = zeroL := by
      unfold ofR at h ⊢
      cases hk : A.ok with
      | false => simp
      | true =>
        rw [hk] at h
        simp only [if_true] at h ⊢
        unfold lofR at h ⊢
        cases hf : findL A.ls r with
        | none => rfl
        | some l => rw [hf] at h; exact absurd rfl h
    rw [e]
    decide
theorem lacR_err {A : Al} {r : Int} {p m : Nat} (h : ¬ (ofR A r).2 = 0) : lacR A r p m = (zeroL, (ofR A r).2) := by unfold lacR; rw [if_neg h]
theorem lacR_ok {A : Al} {r : Int} {p m : Nat} (h : (ofR A r).2 = 0) (hc : clsB A.fs.length p m = true) : lacR A r p m = ((ofR A r).1, 0) := by unfold lacR; rw [if_pos h, hc]; rfl
theorem lacR_cls {A : Al} {r : Int} {p m : Nat} (h : (ofR A r).2 = 0) (hc : clsB A.fs.length p m = false) : lacR A r p m = (zeroL, 20) := by unfold lacR; rw [if_pos h, hc]; rfl
theorem aacR_no {A : Al} {p m : Nat} (h : A.ok = false) : aacR A p m = 7 := by unfold aacR; rw [h]; rfl
theorem aacR_ok {A : Al} {p m : Nat} (h : A.ok = true) : aacR A p m = if clsB A.fs.length p m then 0 else 20 := by unfold aacR; rw [h]; rfl

theorem bset3 {B : Nat} {a w : World} (h : Below B a w) (b : Nat) (hb : B ≤ b) (x y z : Value) : Below B a (((w.setCell ⟨b, 0, none⟩ x).setCell ⟨b, 1, none⟩ y).setCell ⟨b, 2, none⟩ z) :=
  ((h.setCell (p := ⟨b, 0, none⟩) hb x).setCell (p := ⟨b, 1, none⟩) hb y).setCell (p := ⟨b, 2, none⟩) hb z
/-- An alphabet's value, its parts under names. -/
theorem Al.parts (A : Al) : ∃ (pf pl : Option Addr) (nf cf nl cl : Nat), A.v = .agg #[.slice pf nf cf, .slice pl nl cl] ∧ nf = A.fs.length ∧ nl = A.ls.length ∧ pl = A.pl ∧ cl = A.cl ∧ pf = A.pf ∧ cf = A.cf :=
  ⟨_, _, _, _, _, _, rfl, rfl, rfl, rfl, rfl, rfl, rfl⟩

set_option maxHeartbeats 1000000 in
theorem lac_any (A : Al) (r : Int) (p m : Nat) (w : World) (hA : A.In w) (hp : p < 4294967296) (hm : m < 4294967296) :
    Calls Tryd.prog 57 #[A.v, .int .i32 r, .int .u32 p, .int .u32 m] w (LofPost (lacR A r p m) w) := by
  obtain ⟨pf, pl, nf, cf, nl, cl, hv, hnf, hnl, hpl, hcl, hpf, hcf⟩ := A.parts
  have hof := of_any A r
  have hcd := ofR_code A r
  rw [hv] at hof ⊢
  have HA := Lib.hid hA; have HOF := Lib.hid hof; have HNF := Lib.hid hnf
  clear hA hof hv hnl hpl hcl hpf hcf hnf
  by_cases h0 : (ofR A r).2 = 0
  · have h24 : nf ≤ 24 := by rw [HNF.out]; exact Al.ok24 (ofR_24 h0)
    have hcl := isClass_any pf pl cf nf nl cl p m
    have HCL := Lib.hid hcl
    obtain ⟨y, hy⟩ : ∃ y, y = ofR A r := ⟨_, rfl⟩
    rw [← hy] at HOF
    obtain ⟨⟨q, u, v⟩, k⟩ := y
    obtain rfl : k = 0 := by rw [← hy] at h0; exact h0
    cases hc : clsB nf p m with
    | false =>
      have hx : lacR A r p m = (zeroL, 20) := lacR_cls h0 (by rw [← HNF.out]; exact hc)
      rw [hx]
      have HC := Lib.hid hc
      clear hx hc hy h0 hcd hcl
      go_enter Tryd.func57, Tryd.ntmps57
      go_wp2_with fail
      refine (HOF.out _ ((HA.out.alloc _).alloc _)).mono ?_
      rintro e w1 ⟨rfl, hb1⟩
      unfold Ltr.v
      obtain ⟨hcc, hff⟩ := bcell hb1
      have hz1 := hb1.size
      simp only [World.size_alloc] at hz1
      have HB1 := Lib.hid hb1
      clear hb1
      have hlt0 : w.heap.size < w1.heap.size := by omega
      have hlt1 : w.heap.size + 1 < w1.heap.size := by omega
      go_wp2_with fail
      refine (HCL.out _ h24 hp hm).mono ?_
      rintro e w2 ⟨rfl, hb2⟩
      rw [HC.out]
      obtain ⟨hcc2, hff2⟩ := bcell hb2
      have hz2 := hb2.size
      simp only [World.size_alloc] at hz2
      have HB2 := Lib.hid hb2
      clear hb2
      go_wp2_with fail
      refine bodyPost_ret (v := .tuple #[.agg #[.int .i32 0, .int .u32 0, .int .u32 0], .int .i64 20]) (by simp [results, Tryd.results57, go_sem, *]) rfl ⟨rfl, ?_⟩
      exact bset3 (((((Below.refl _ _).alloc (Nat.le_refl _) _).alloc (by simp) _).trans (HB1.out.mono (by simp; omega))).alloc (by omega) _ |>.trans (HB2.out.mono (by simp; omega))) (w.heap.size + 1) (by omega) _ _ _
    | true =>
      have hx : lacR A r p m = (⟨q, u, v⟩, 0) := by rw [lacR_ok h0 (by rw [← HNF.out]; exact hc), ← hy]
      rw [hx]
      have HC := Lib.hid hc
      clear hx hc hy h0 hcd hcl
      go_enter Tryd.func57, Tryd.ntmps57
      go_wp2_with fail
      refine (HOF.out _ ((HA.out.alloc _).alloc _)).mono ?_
      rintro e w1 ⟨rfl, hb1⟩
      unfold Ltr.v
      obtain ⟨hcc, hff⟩ := bcell hb1
      have hz1 := hb1.size
      simp only [World.size_alloc] at hz1
      have HB1 := Lib.hid hb1
      clear hb1
      have hlt0 : w.heap.size < w1.heap.size := by omega
      have hlt1 : w.heap.size + 1 < w1.heap.size := by omega
      go_wp2_with fail
      refine (HCL.out _ h24 hp hm).mono ?_
      rintro e w2 ⟨rfl, hb2⟩
      rw [HC.out]
      obtain ⟨hcc2, hff2⟩ := bcell hb2
      have hz2 := hb2.size
      simp only [World.size_alloc] at hz2
      have HB2 := Lib.hid hb2
      clear hb2
      go_wp2_with fail
      refine bodyPost_ret (v := .tuple #[.agg #[.int .i32 q, .int .u32 u, .int .u32 v], .int .i64 0]) (by simp [results, Tryd.results57, go_sem, *]) rfl ⟨rfl, ?_⟩
      exact bset3 (((((Below.refl _ _).alloc (Nat.le_refl _) _).alloc (by simp) _).trans (HB1.out.mono (by simp; omega))).alloc (by omega) _ |>.trans (HB2.out.mono (by simp; omega))) (w.heap.size + 1) (by omega) _ _ _
  · have hx : lacR A r p m = (zeroL, (ofR A r).2) := lacR_err h0
    rw [hx]
    obtain ⟨y, hy⟩ : ∃ y, y = ofR A r := ⟨_, rfl⟩
    rw [← hy] at HOF h0 ⊢
    obtain ⟨⟨q, u, v⟩, k⟩ := y
    simp only [] at h0 ⊢
    have hk1 : (k == 0) = false := by simp [h0]
    have hk2 : (k != 0) = true := by simp [h0]
    clear hx hy hcd h0
    go_enter Tryd.func57, Tryd.ntmps57
    go_wp2_with fail
    refine (HOF.out _ ((HA.out.alloc _).alloc _)).mono ?_
    rintro e w1 ⟨rfl, hb1⟩
    unfold Ltr.v
    obtain ⟨hcc, hff⟩ := bcell hb1
    have hz1 := hb1.size
    simp only [World.size_alloc] at hz1
    have HB1 := Lib.hid hb1
    clear hb1
    have hlt0 : w.heap.size < w1.heap.size := by omega
    have hlt1 : w.heap.size + 1 < w1.heap.size := by omega
    go_wp2_with fail
    refine bodyPost_ret (v := .tuple #[.agg #[.int .i32 0, .int .u32 0, .int .u32 0], .int .i64 k]) (by simp [results, Tryd.results57, go_sem, *]) rfl ⟨rfl, ?_⟩
    exact (bset3 ((((Below.refl _ _).alloc (Nat.le_refl _) _).alloc (by simp) _).trans (HB1.out.mono (by simp; omega))) (w.heap.size + 1) (by omega) _ _ _).alloc (by simp; omega) _

set_option maxHeartbeats 1000000 in
theorem aac_any (A : Al) (p m : Nat) (w : World) (hA : A.In w) (hp : p < 4294967296) (hm : m < 4294967296) :
    Calls Tryd.prog 44 #[A.v, .int .u32 p, .int .u32 m] w fun e w' => e = .returned (.int .i64 (aacR A p m)) ∧ Below w.heap.size w w' := by
  obtain ⟨pf, pl, nf, cf, nl, cl, hv, hnf, hnl, hpl, hcl, hpf, hcf⟩ := A.parts
  have hch := check_any A
  rw [hv] at hch ⊢
  have HA := Lib.hid hA; have HCH := Lib.hid hch; have HNF := Lib.hid hnf
  clear hA hch hv hnl hpl hcl hpf hcf hnf
  cases hok : A.ok with
  | false =>
    rw [aacR_no hok]
    have HC := Lib.hid (chk_no hok)
    clear hok
    go_enter Tryd.func44, Tryd.ntmps44
    go_wp2_with fail
    refine (HCH.out _ (HA.out.alloc _)).mono ?_
    rintro e w1 ⟨rfl, hb1⟩
    rw [HC.out]
    have HB1 := Lib.hid hb1
    clear hb1
    go_wp2_with fail
    go_ret
    exact ⟨rfl, ((Below.refl _ _).alloc (Nat.le_refl _) _).trans (HB1.out.mono (by simp))⟩
  | true =>
    rw [aacR_ok hok]
    have h24 : nf ≤ 24 := by rw [HNF.out]; exact Al.ok24 hok
    have HC := Lib.hid (chk_ok hok)
    have HCL := Lib.hid (isClass_any pf pl cf nf nl cl p m)
    rw [← HNF.out]
    clear hok
    cases hc : clsB nf p m with
    | false =>
      have HCC := Lib.hid hc
      clear hc
      have hif : (if false = true then (0 : Int) else 20) = 20 := rfl
      rw [hif]
      clear hif
      go_enter Tryd.func44, Tryd.ntmps44
      go_wp2_with fail
      refine (HCH.out _ (HA.out.alloc _)).mono ?_
      rintro e w1 ⟨rfl, hb1⟩
      rw [HC.out]
      obtain ⟨hcc, hff⟩ := bcell hb1
      have HB1 := Lib.hid hb1
      clear hb1
      go_wp2_with fail
      refine (HCL.out _ h24 hp hm).mono ?_
      rintro e w2 ⟨rfl, hb2⟩
      rw [HCC.out]
      have hz1 := HB1.out.size
      have HB2 := Lib.hid hb2
      clear hb2
      go_wp2_with fail
      go_ret
      exact ⟨rfl, (((Below.refl _ _).alloc (Nat.le_refl _) _).trans (HB1.out.mono (by simp))).trans (HB2.out.mono (by simp at hz1; omega))⟩
    | true =>
      have HCC := Lib.hid hc
      clear hc
      have hif : (if true = true then (0 : Int) else 20) = 0 := rfl
      rw [hif]
      clear hif
      go_enter Tryd.func44, Tryd.ntmps44
      go_wp2_with fail
      refine (HCH.out _ (HA.out.alloc _)).mono ?_
      rintro e w1 ⟨rfl, hb1⟩
      rw [HC.out]
      obtain ⟨hcc, hff⟩ := bcell hb1
      have HB1 := Lib.hid hb1
      clear hb1
      go_wp2_with fail
      refine (HCL.out _ h24 hp hm).mono ?_
      rintro e w2 ⟨rfl, hb2⟩
      rw [HCC.out]
      have hz1 := HB1.out.size
      have HB2 := Lib.hid hb2
      clear hb2
      go_wp2_with fail
      go_ret
      exact ⟨rfl, (((Below.refl _ _).alloc (Nat.le_refl _) _).trans (HB1.out.mono (by simp))).trans (HB2.out.mono (by simp at hz1; omega))⟩

set_option maxHeartbeats 400000 in
theorem has_any (l : Ltr) (p m : Nat) (w : World) (h1 : l.p < 4294967296) (h2 : l.m < 4294967296) (hp : p < 4294967296) (hm : m < 4294967296) :
    Calls Tryd.prog 45 #[l.v, .int .u32 p, .int .u32 m] w fun e w' => e = .returned (.bool (hasB l p m)) ∧ Below w.heap.size w w' := by
  obtain ⟨q, u, v⟩ := l
  simp only [] at h1 h2
  have e1 := u32_and_nat u p h1 hp
  have e2 := u32_and_nat v m h2 hm
  have hh : hasB ⟨q, u, v⟩ p m = (decide (u &&& p = p) && decide (v &&& m = m)) := rfl
  obtain ⟨X, hX⟩ : ∃ X, X = u &&& p := ⟨_, rfl⟩
  obtain ⟨Y, hY⟩ : ∃ X, X = v &&& m := ⟨_, rfl⟩
  rw [← hX] at e1 hh
  rw [← hY] at e2 hh
  rw [hh]
  unfold Ltr.v
  simp only []
  clear hX hY hh
  by_cases hx : X = p
  · have hx1 : ((X : Int) == (p : Int)) = true := by simp [hx]
    have ey : ((Y : Int) == (m : Int)) = decide (Y = m) := by rw [Bool.eq_iff_iff]; simp; omega
    have EY := Lib.hid ey
    have ed : decide (X = p) = true := by simp [hx]
    rw [ed]
    clear ey ed hx
    go_enter Tryd.func45, Tryd.ntmps45
    go_wp2
    go_ret
    exact ⟨by rw [Bool.true_and, ← EY.out] <;> rfl, (Below.refl _ _).alloc (Nat.le_refl _) _⟩
  · have hx1 : ((X : Int) == (p : Int)) = false := by simp; omega
    have ed : decide (X = p) = false := by simp [hx]
    rw [ed]
    clear ed hx
    go_enter Tryd.func45, Tryd.ntmps45
    go_wp2
    go_ret
    exact ⟨rfl, (Below.refl _ _).alloc (Nat.le_refl _) _⟩

end Go.Proofs.YtmechinlaladiaaDoor
namespace Go.Proofs.YtmechinlaladiaaDoor
open Go.RowKit Go.Lib
set_option linter.unusedVariables false

theorem hasR_err {A : Al} {r : Int} {p m : Nat} (h : ¬ (lacR A r p m).2 = 0) : hasR A r p m = (false, (lacR A r p m).2) := by unfold hasR; rw [if_neg h]
theorem hasR_ok {A : Al} {r : Int} {p m : Nat} (h : (lacR A r p m).2 = 0) : hasR A r p m = (hasB (lacR A r p m).1 p m, 0) := by unfold hasR; rw [if_pos h]
theorem lacR_bits {A : Al} {w : World} {r : Int} {p m : Nat} (hA : A.In w) : (lacR A r p m).1.p < 4294967296 ∧ (lacR A r p m).1.m < 4294967296 := by
  have hb := ofR_bits (r := r) hA
  unfold lacR
  split
  · split
    · exact hb
    · exact (by decide : (0 : Nat) < 4294967296 ∧ (0 : Nat) < 4294967296)
  · exact (by decide : (0 : Nat) < 4294967296 ∧ (0 : Nat) < 4294967296)

set_option maxHeartbeats 1000000 in
theorem hasF_any (A : Al) (r : Int) (p m : Nat) (w : World) (hA : A.In w) (hp : p < 4294967296) (hm : m < 4294967296) :
    Calls Tryd.prog 43 #[A.v, .int .i32 r, .int .u32 p, .int .u32 m] w fun e w' => e = .returned (.tuple #[.bool (hasR A r p m).1, .int .i64 (hasR A r p m).2]) ∧ Below w.heap.size w w' := by
  obtain ⟨pf, pl, nf, cf, nl, cl, hv, hnf, hnl, hpl, hcl, hpf, hcf⟩ := A.parts
  have hlac := lac_any A r p m
  have hb := lacR_bits (r := r) (p := p) (m := m) hA
  rw [hv] at hlac ⊢
  have HA := Lib.hid hA; have HL := Lib.hid hlac
  clear hA hlac hv hnl hpl hcl hpf hcf hnf
  by_cases h0 : (lacR A r p m).2 = 0
  · rw [hasR_ok h0]
    obtain ⟨y, hy⟩ : ∃ y, y = lacR A r p m := ⟨_, rfl⟩
    rw [← hy] at HL h0 hb ⊢
    obtain ⟨⟨q, u, v⟩, k⟩ := y
    simp only [] at h0 hb ⊢
    subst h0
    obtain ⟨hb1, hb2⟩ := hb
    have hh := has_any ⟨q, u, v⟩ p m
    unfold Ltr.v at hh
    simp only [] at hh
    obtain ⟨B, hB⟩ : ∃ B, B = hasB ⟨q, u, v⟩ p m := ⟨_, rfl⟩
    rw [← hB] at hh ⊢
    have HH := Lib.hid hh
    clear hy hh hB
    go_enter Tryd.func43, Tryd.ntmps43
    go_wp2_with fail
    refine (HL.out _ (HA.out.alloc _) hp hm).mono ?_
    rintro e w1 ⟨rfl, hb1'⟩
    unfold Ltr.v
    have hz1 := hb1'.size
    simp only [World.size_alloc] at hz1
    have HB1 := Lib.hid hb1'
    clear hb1'
    go_wp2_with fail
    refine (HH.out _ hb1 hb2 hp hm).mono ?_
    rintro e w2 ⟨rfl, hb2'⟩
    have HB2 := Lib.hid hb2'
    clear hb2'
    go_wp2_with fail
    go_ret2
    exact ⟨rfl, ((((Below.refl _ _).alloc (Nat.le_refl _) _).trans (HB1.out.mono (by simp))).alloc (by omega) _).trans (HB2.out.mono (by simp; omega))⟩
  · rw [hasR_err h0]
    obtain ⟨y, hy⟩ : ∃ y, y = lacR A r p m := ⟨_, rfl⟩
    rw [← hy] at HL h0 ⊢
    obtain ⟨⟨q, u, v⟩, k⟩ := y
    simp only [] at h0 ⊢
    have hk1 : (k == 0) = false := by simp [h0]
    have hk2 : (k != 0) = true := by simp [h0]
    clear hy hb h0
    go_enter Tryd.func43, Tryd.ntmps43
    go_wp2_with fail
    refine (HL.out _ (HA.out.alloc _) hp hm).mono ?_
    rintro e w1 ⟨rfl, hb1'⟩
    unfold Ltr.v
    have hz1 := hb1'.size
    simp only [World.size_alloc] at hz1
    have HB1 := Lib.hid hb1'
    clear hb1'
    go_wp2_with fail
    go_ret2
    exact ⟨rfl, (((Below.refl _ _).alloc (Nat.le_refl _) _).trans (HB1.out.mono (by simp))).alloc (by omega) _⟩

/-! ### Class -/
def clsL (ls : List Ltr) (p m : Nat) : List Int := (ls.filter fun l => hasB l p m).map Ltr.r
def clsR (A : Al) (p m : Nat) : List Int := if aacR A p m = 0 then clsL A.ls p m else []
def ClsPost (A : Al) (p m : Nat) (w : World) (e : Ending) (w' : World) : Prop :=
  ∃ v : Value, e = .returned (.tuple #[v, .int .i64 (aacR A p m)]) ∧ w'.ownsRow w.heap.size 21 1 v (clsR A p m).length ((clsR A p m).map E32) ∧ Below w.heap.size w w'
theorem clsL_snoc_yes (ls : List Ltr) (p m k : Nat) (hk : k < ls.length) (h : hasB (ls.getD k default) p m = true) : clsL (ls.take (k + 1)) p m = clsL (ls.take k) p m ++ [(ls.getD k default).r] := by
  rw [List.getD_eq_getElem?_getD, List.getElem?_eq_getElem hk] at h ⊢
  simp only [Option.getD_some] at h ⊢
  unfold clsL
  rw [List.take_succ_eq_append_getElem hk, List.filter_append, List.map_append]
  simp [h]
theorem clsL_snoc_no (ls : List Ltr) (p m k : Nat) (hk : k < ls.length) (h : hasB (ls.getD k default) p m = false) : clsL (ls.take (k + 1)) p m = clsL (ls.take k) p m := by
  rw [List.getD_eq_getElem?_getD, List.getElem?_eq_getElem hk] at h
  simp only [Option.getD_some] at h
  unfold clsL
  rw [List.take_succ_eq_append_getElem hk, List.filter_append, List.map_append]
  simp [h]
theorem clsL_le (ls : List Ltr) (p m k : Nat) : (clsL (ls.take k) p m).length ≤ k := by
  unfold clsL
  rw [List.length_map]
  have h1 := List.length_filter_le (fun l => hasB l p m) (ls.take k)
  have h2 := List.length_take_le k ls
  omega
theorem aacR_ok0 {A : Al} {p m : Nat} (h : aacR A p m = 0) : A.ok = true := by
  cases hk : A.ok with
  | true => rfl
  | false => rw [aacR_no hk] at h; exact absurd h (by decide)
theorem Al.ok_ltrs {A : Al} (h : A.ok = true) : 1 ≤ A.ls.length ∧ A.ls.length ≤ 128 := by
  rw [Al.ok_eq, Bool.and_eq_true] at h
  have h2 := h.2
  unfold ltrsB at h2
  simp only [Bool.and_eq_true, decide_eq_true_eq] at h2
  exact h2.1.1

set_option maxHeartbeats 2000000 in
set_option maxRecDepth 100000 in
theorem class_any (A : Al) (p m : Nat) (w : World) (hA : A.In w) (hp : p < 4294967296) (hm : m < 4294967296) :
    Calls Tryd.prog 26 #[A.v, .int .u32 p, .int .u32 m] w (ClsPost A p m w) := by
  obtain ⟨pf, pl, nf, cf, nl, cl, hv, hnf, hnl, hpl, hcl, hpf, hcf⟩ := A.parts
  have haac := aac_any A p m
  rw [hv] at haac ⊢
  have HA := Lib.hid hA; have HAAC := Lib.hid haac
  clear haac hv hnf hcl hpf hcf
  by_cases h0 : aacR A p m = 0
  · have hlen := Al.ok_ltrs (aacR_ok0 h0)
    rw [← hnl] at hlen
    obtain ⟨h1, h128⟩ := hlen
    have hat := hA.L.at_ (by omega)
    rw [← hpl] at hat
    subst hat
    have hr : clsR A p m = clsL A.ls p m := by unfold clsR; rw [if_pos h0]
    obtain ⟨i0, hi, hz0, hz1, hz2⟩ := info_parts rune_info
    have HI0 := Lib.hid hi; have HZ0 := Lib.hid hz0; have HZ1 := Lib.hid hz1; have HZ2 := Lib.hid hz2
    have H0 := Lib.hid h0; have HNL := Lib.hid hnl; have HR := Lib.hid hr
    obtain ⟨ls, hls⟩ : ∃ l, l = A.ls := ⟨_, rfl⟩
    obtain ⟨bl, hbl⟩ : ∃ l, l = A.bl := ⟨_, rfl⟩
    obtain ⟨l0, hl0⟩ : ∃ l, l = A.l0 := ⟨_, rfl⟩
    have hL0 := fun (w : World) (h : A.In w) => h.L
    rw [← hls, ← hbl, ← hl0] at hL0
    rw [← hls] at HNL HR
    rw [← hbl, ← hl0] at HAAC ⊢
    have HL0 := Lib.hid hL0
    clear hA hpl hi hz0 hz1 hz2 h0 hnl hr hls hbl hl0 hL0
    go_enter Tryd.func26, Tryd.ntmps26
    go_wp2_with fail
    refine (HAAC.out _ (HA.out.alloc _) hp hm).mono ?_
    rintro e w1 ⟨rfl, hb1⟩
    rw [H0.out]
    obtain ⟨hcc, hff⟩ := bcell hb1
    have hz1 := hb1.size
    simp only [World.size_alloc] at hz1
    have cb1 : w1.cell? ⟨w.heap.size, 1, none⟩ = some (.slice (some ⟨bl, l0, none⟩) nl cl) := by rw [hcc _ _ (by simp)]; simp
    have HB1 := Lib.hid hb1
    clear hb1 hcc hff
    go_wp2_with fail
    have hbw1 : Below w.heap.size w w1 := ((Below.refl _ _).alloc (Nat.le_refl _) _).trans (HB1.out.mono (by simp))
    have HBW1 := Lib.hid hbw1
    clear hbw1 cb1
    go_loopw [9, 22] (fun v i wr => ∃ k : Nat, i = .int .i64 k ∧ k ≤ nl ∧ Hid (wr.ownsRow w.heap.size 21 1 v (clsL (ls.take k) p m).length ((clsL (ls.take k) p m).map E32)) ∧ Hid (Below w.heap.size w wr)) (fun _ i _ => nl - (intOf i).toNat)
    case atStart => exact ⟨0, rfl, Nat.zero_le _, World.ownsRow_nil _ _ _ _, HBW1.out⟩
    case round =>
      obtain ⟨k, rfl, hk, HO, HB⟩ := hrel
      have hszr := HB.out.size
      by_cases hkn : k < nl
      · have hlk := clsL_le ls p m k
        have hyes := clsL_snoc_yes ls p m k (by rw [← HNL.out]; exact hkn)
        have hno := clsL_snoc_no ls p m k (by rw [← HNL.out]; exact hkn)
        obtain ⟨LL, hLL⟩ : ∃ x, x = clsL (ls.take k) p m := ⟨_, rfl⟩
        rw [← hLL] at HO hlk hyes hno
        obtain ⟨nn, hnn⟩ : ∃ x, x = LL.length := ⟨_, rfl⟩
        rw [← hnn] at HO hlk
        obtain ⟨o, c, rfl⟩ := ownF_shape HO.out
        have hL2 := HL0.out wr (HA.out.next HB.out)
        have c0 := hL2.cr k (by rw [← HNL.out]; exact hkn)
        have c1 := hL2.cp k (by rw [← HNL.out]; exact hkn)
        have c2 := hL2.cm k (by rw [← HNL.out]; exact hkn)
        obtain ⟨b1, b2, b3, b4⟩ := hL2.get k (by rw [← HNL.out]; exact hkn)
        have hh := has_any (ls.getD k default) p m
        have hv : (ls.getD k default).v = .agg #[.int .i32 (ls.getD k default).r, .int .u32 (ls.getD k default).p, .int .u32 (ls.getD k default).m] := rfl
        obtain ⟨l, hl⟩ : ∃ l, l = ls.getD k default := ⟨_, rfl⟩
        rw [← hl] at c0 c1 c2 b1 b2 hh hv hyes hno
        rw [hv] at hh
        obtain ⟨q, hq⟩ : ∃ r, r = l.r := ⟨_, rfl⟩
        obtain ⟨u, hu⟩ : ∃ r, r = l.p := ⟨_, rfl⟩
        obtain ⟨v, hvv⟩ : ∃ r, r = l.m := ⟨_, rfl⟩
        rw [← hq] at c0 hh hyes
        rw [← hu] at c1 b1 hh
        rw [← hvv] at c2 b2 hh
        obtain ⟨B, hB⟩ : ∃ B, B = hasB l p m := ⟨_, rfl⟩
        rw [← hB] at hh hyes hno
        have HH := Lib.hid hh; have HY := Lib.hid hyes; have HNo := Lib.hid hno; have HLL := Lib.hid hLL; have HNN := Lib.hid hnn
        clear hL2 hh hv hl hq hu hvv hB hyes hno hLL hnn b3 b4
        cases B with
        | false =>
          go_wp2_with fail
          refine (HH.out _ b1 b2 hp hm).mono ?_
          rintro e w2 ⟨rfl, hb2⟩
          have HB2 := Lib.hid hb2
          clear hb2
          go_wp2_with fail
          go_roundw
          case rel =>
            refine ⟨k + 1, by go_num, by omega, (show World.ownsRow _ _ _ _ _ _ _ from ?_), (show Below _ _ _ from ?_)⟩
            · rw [HNo.out trivial, ← HNN.out]
              exact ownF_below (ownF_below HO.out ((Below.refl _ _).alloc (Nat.le_refl _) _)) HB2.out
            · exact (HB.out.alloc hszr _).trans (HB2.out.mono (by simp; omega))
          case measure => simp [intOf]; omega
        | true =>
          go_wp2_with fail
          refine (HH.out _ b1 b2 hp hm).mono ?_
          rintro e w2 ⟨rfl, hb2⟩
          have hcx := hb2.cell (p := ⟨wr.heap.size, 0, none⟩) (by simp)
          have cx : w2.cell? ⟨wr.heap.size, 0, none⟩ = some (.int .i32 q) := by rw [hcx]; simp
          have hz2 := hb2.size
          simp only [World.size_alloc] at hz2
          have hown2 := ownF_below (ownF_below HO.out ((Below.refl _ _).alloc (Nat.le_refl _) _)) hb2
          have hB2 : Below w.heap.size w w2 := (HB.out.alloc hszr _).trans (hb2.mono (by simp; omega))
          have HO2 := Lib.hid hown2; have HB2 := Lib.hid hB2
          clear hb2 hcx hown2 hB2
          go_wp2_with (at_builtin; refine wpList_append_own _ rfl (.tmp 30) (.tmp 33) 46 rfl w.heap.size 21 i0 (.int .i32 0) 1 4 Tryd.underlying46 HI0.out HZ0.out HZ1.out HZ2.out rfl (by decide) _ _ _ rfl (HO2.out.alloc _) ⟨w2.heap.size, 0, none⟩ 1 1 [.int .i32 q] rfl rfl ?c1 ?c2 ?c3 ?c4 ?c5 ?_)
          case c1 =>
            intro j u hj
            match j, hj with
            | 0, hj => simp at hj; subst hj; simp [Addr.add]
            | j + 1, hj => simp at hj
          case c2 => intro u hu; simp at hu; subst hu; rfl
          case c3 => unfold maxLen; omega
          case c4 => omega
          case c5 => simp; omega
          intro v3 w3 hown3 hgrow3 hnil3
          have hob : ∀ q, (Value.slice o nn c).ownBlock = some q → w.heap.size ≤ q := fun q hq => (HO2.out.lt q hq).1
          have hB3 : Below w.heap.size w w3 := (HB2.out.alloc (by omega) _).grown hgrow3 (by simp; omega) hob
          have HB3 := Lib.hid hB3
          have HO3 := Lib.hid hown3
          clear hob hB3 hown3 hgrow3 hnil3
          go_wp2_with fail
          go_roundw
          case rel =>
            refine ⟨k + 1, by go_num, by omega, (show World.ownsRow _ _ _ _ _ _ _ from ?_), HB3⟩
            rw [HY.out trivial, List.length_append, ← HNN.out, List.map_append]
            exact HO3.out
          case measure => simp [intOf]; omega
      · obtain rfl : k = nl := by omega
        obtain ⟨o, c, rfl⟩ := ownF_shape HO.out
        go_wp2_with fail
        go_ret2
        refine ⟨.slice o (clsL (ls.take k) p m).length c, by rw [H0.out] <;> rfl, ?_, HB.out⟩
        have e : clsL ls p m = clsL (ls.take k) p m := by rw [HNL.out, List.take_length]
        rw [HR.out, e]
        exact HO.out
  · have hr : clsR A p m = [] := by unfold clsR; rw [if_neg h0]
    obtain ⟨c, hc⟩ : ∃ c, c = aacR A p m := ⟨_, rfl⟩
    rw [← hc] at HAAC h0
    have hk1 : (c == 0) = false := by simp [h0]
    have hk2 : (c != 0) = true := by simp [h0]
    have HR := Lib.hid hr; have HC := Lib.hid hc
    clear hA hnl hpl hr hc h0
    go_enter Tryd.func26, Tryd.ntmps26
    go_wp2_with fail
    refine (HAAC.out _ (HA.out.alloc _) hp hm).mono ?_
    rintro e w1 ⟨rfl, hb1⟩
    have HB1 := Lib.hid hb1
    clear hb1
    go_wp2_with fail
    go_ret2
    refine ⟨.slice none 0 0, by rw [← HC.out] <;> rfl, ?_, ((Below.refl _ _).alloc (Nat.le_refl _) _).trans (HB1.out.mono (by simp))⟩
    rw [HR.out]
    exact World.ownsRow_nil _ _ _ _

end Go.Proofs.YtmechinlaladiaaDoor
namespace Go.Proofs.YtmechinlaladiaaDoor
open Go.RowKit Go.Lib
set_option linter.unusedVariables false

def LtrOk (x : Ltr) : Prop := x.p < 4294967296 ∧ x.m < 4294967296
theorem cls_lt {k p m : Nat} (hk : k ≤ 24) (hp : p < 4294967296) (hm : m < 4294967296) (h : clsB k p m = true) : p < 2 ^ k ∧ m < 2 ^ k := by
  unfold clsB at h
  simp only [Bool.and_eq_true, decide_eq_true_eq] at h
  have key : ∀ q, q < 4294967296 → (∀ i, q.testBit i = true → (p ||| m).testBit i = true) → q < 2 ^ k := by
    intro q hq hsub
    apply Nat.lt_pow_two_of_testBit
    intro i hi
    cases hb : q.testBit i with
    | false => rfl
    | true =>
      exfalso
      have hi32 : i < 32 := by
        rcases Nat.lt_or_ge i 32 with h' | h'
        · exact h'
        · rw [Nat.testBit_lt_two_pow (Nat.lt_of_lt_of_le hq (Nat.pow_le_pow_right (by decide) h' : 2 ^ 32 ≤ 2 ^ i))] at hb
          exact absurd hb (by decide)
      have hc := congrArg (fun n => n.testBit i) h.1
      simp only [Nat.testBit_and, Nat.zero_testBit, hsub i hb, Bool.true_and] at hc
      have ha : allN k < 2 ^ 32 := Nat.lt_of_lt_of_le (allN_lt hk) (by decide)
      rw [show (4294967295 : Nat) - allN k = 2 ^ 32 - (allN k + 1) by omega, Nat.testBit_two_pow_sub_succ ha, decide_eq_true hi32, Bool.true_and] at hc
      unfold allN at hc
      rw [Nat.testBit_two_pow_sub_one, decide_eq_false (by omega)] at hc
      exact absurd hc (by decide)
  refine ⟨key p hp fun i hi => by rw [Nat.testBit_or, hi]; rfl, key m hm fun i hi => by rw [Nat.testBit_or, hi, Bool.or_true]⟩

theorem cls_of {k p m : Nat} (hk : k ≤ 24) (hp : p < 2 ^ k) (hm : m < 2 ^ k) (h : p &&& m = 0) : clsB k p m = true := by
  unfold clsB
  rw [Bool.and_eq_true]
  refine ⟨decide_eq_true ?_, decide_eq_true h⟩
  apply Nat.eq_of_testBit_eq
  intro i
  have ha : allN k < 2 ^ 32 := Nat.lt_of_lt_of_le (allN_lt hk) (by decide)
  rw [show (4294967295 : Nat) - allN k = 2 ^ 32 - (allN k + 1) by omega, Nat.testBit_and, Nat.testBit_two_pow_sub_succ ha, Nat.zero_testBit, Nat.testBit_or]
  by_cases hi : i < k
  · unfold allN
    rw [Nat.testBit_two_pow_sub_one, decide_eq_true hi]
    simp
  · have h2 : 2 ^ k ≤ 2 ^ i := Nat.pow_le_pow_right (by decide) (by omega)
    rw [Nat.testBit_lt_two_pow (Nat.lt_of_lt_of_le hp h2), Nat.testBit_lt_two_pow (Nat.lt_of_lt_of_le hm h2)]
    simp
/-- A law's world: the alphabet's value lies in box b. -/
structure Bx (A : Al) (F L : Value) (w : World) (b : Nat) (wk : World) : Prop where
  i : A.In wk
  c0 : wk.cell? ⟨b, 0, none⟩ = some F
  c1 : wk.cell? ⟨b, 1, none⟩ = some L
  below : Below w.heap.size w wk
  lt : b < wk.heap.size
theorem Bx.next {A : Al} {F L : Value} {w : World} {b : Nat} {wk w' : World} (h : Bx A F L w b wk) (hb : Below wk.heap.size wk w') : Bx A F L w b w' :=
  ⟨h.i.next hb, (hb.cell (p := ⟨b, 0, none⟩) h.lt).trans h.c0, (hb.cell (p := ⟨b, 1, none⟩) h.lt).trans h.c1, h.below.trans (hb.mono h.below.size), Nat.lt_of_lt_of_le h.lt hb.size⟩
theorem Bx.alloc {A : Al} {F L : Value} {w : World} {b : Nat} {wk : World} (h : Bx A F L w b wk) (o : Obj) : Bx A F L w b (wk.alloc o) := h.next ((Below.refl _ _).alloc (Nat.le_refl _) _)
theorem Bx.start {A : Al} {F L : Value} {w : World} (h : A.In w) : Bx A F L w w.heap.size (w.alloc (.cells #[F, L] 31)) :=
  ⟨h.alloc _, by simp, by simp, (Below.refl _ _).alloc (Nat.le_refl _) _, by simp⟩

end Go.Proofs.YtmechinlaladiaaDoor
namespace Go.Proofs.YtmechinlaladiaaDoor
open Go.RowKit Go.Lib
set_option linter.unusedVariables false

/-! ### how many bits -/
theorem popAux_zero : ∀ a, popAux a 0 = 0
  | 0 => rfl
  | a + 1 => by rw [popAux, popAux_zero a]
theorem popAux_add : ∀ (a b x : Nat), popAux (a + b) x = popAux a x + popAux b (x / 2 ^ a)
  | 0, b, x => by simp [popAux]
  | a + 1, b, x => by
    rw [show a + 1 + b = (a + b) + 1 by omega, popAux, popAux, popAux_add a b (x / 2), Nat.div_div_eq_div_mul, show 2 * 2 ^ a = 2 ^ (a + 1) by rw [Nat.pow_succ, Nat.mul_comm]]
    omega
theorem popAux_mod : ∀ (a x : Nat), popAux a (x % 2 ^ a) = popAux a x
  | 0, x => rfl
  | a + 1, x => by
    rw [popAux, popAux, ← popAux_mod a (x % 2 ^ (a + 1) / 2), ← popAux_mod a (x / 2)]
    have h1 : x % 2 ^ (a + 1) % 2 = x % 2 := by rw [Nat.pow_succ, Nat.mul_comm, Nat.mod_mul]; omega
    have h2 : x % 2 ^ (a + 1) / 2 = x / 2 % 2 ^ a := by rw [Nat.pow_succ, Nat.mul_comm, Nat.mod_mul]; omega
    rw [h1, h2, Nat.mod_mod]
theorem popAux_le : ∀ (a x : Nat), popAux a x ≤ a
  | 0, x => Nat.le_refl _
  | a + 1, x => by
    have := popAux_le a (x / 2)
    rw [popAux]
    omega
theorem ones8 (n : Nat) (h : n < 256) : pop8 (n : Int) = (popAux 8 n : Int) := by
  have e := pop8_eq ⟨n, h⟩
  simp only at e
  rw [e]
  unfold onesCount
  rw [show (64 : Nat) = 8 + 56 from rfl, popAux_add, Nat.div_eq_of_lt (by omega), popAux_zero]
  omega
theorem ones32 (x : Nat) (h : x < 4294967296) : popAux 32 x = popAux 8 (x % 256) + popAux 8 (x / 256 % 256) + popAux 8 (x / 65536 % 256) + popAux 8 (x / 16777216) := by
  have m1 := popAux_mod 8 x
  have m2 := popAux_mod 8 (x / 256)
  have m3 := popAux_mod 8 (x / 65536)
  simp only [show (2 : Nat) ^ 8 = 256 from rfl] at m1 m2 m3
  rw [m1, m2, m3, show (32 : Nat) = 8 + 24 from rfl, popAux_add 8 24, show (24 : Nat) = 8 + 16 from rfl, popAux_add 8 16, show (16 : Nat) = 8 + 8 from rfl, popAux_add 8 8]
  simp only [show (2 : Nat) ^ 8 = 256 from rfl, Nat.div_div_eq_div_mul, Nat.reduceMul]
  omega

/-! ### unlike, turned -/
def unl (x y : Ltr) : Nat := popAux 32 ((x.p ^^^ y.p) ||| (x.m ^^^ y.m))
def trn (x : Ltr) (p m : Nat) : Ltr := ⟨x.r, (x.p &&& (4294967295 - m)) ||| p, (x.m &&& (4294967295 - p)) ||| m⟩
theorem trn_ok (x : Ltr) (p m : Nat) (hx : LtrOk x) (hp : p < 4294967296) (hm : m < 4294967296) : LtrOk (trn x p m) :=
  ⟨Nat.or_lt_two_pow (n := 32) (Nat.and_lt_two_pow _ (by omega)) hp, Nat.or_lt_two_pow (n := 32) (Nat.and_lt_two_pow _ (by omega)) hm⟩

end Go.Proofs.YtmechinlaladiaaDoor
namespace Go.Proofs.YtmechinlaladiaaDoor
open Go.RowKit Go.Lib
set_option linter.unusedVariables false

theorem lofR_mem {ls : List Ltr} {r : Int} (h : (lofR ls r).2 = 0) : (lofR ls r).1 ∈ ls ∧ (lofR ls r).1.r = r := by
  unfold lofR at h ⊢
  cases hf : findL ls r with
  | none => rw [hf] at h; exact absurd h (by decide)
  | some l =>
    unfold findL at hf
    refine ⟨List.mem_of_find?_eq_some hf, ?_⟩
    have := List.find?_some hf
    simpa using this
theorem Al.In.ltr {A : Al} {w : World} (hA : A.In w) {l : Ltr} (h : l ∈ A.ls) : LtrOk l := ⟨(hA.L.bits l h).1, (hA.L.bits l h).2.1⟩
theorem zero_ok : LtrOk zeroL := by unfold LtrOk zeroL; decide
theorem ofR_ltr {A : Al} {w : World} (r : Int) (hA : A.In w) : LtrOk (ofR A r).1 := ofR_bits hA
theorem lacR_ltr {A : Al} {w : World} (r : Int) (p m : Nat) (hA : A.In w) : LtrOk (lacR A r p m).1 := lacR_bits hA

def farR (A : Al) (x y : Int) : Nat × Int := if (ofR A x).2 = 0 then (if (lofR A.ls y).2 = 0 then (unl (ofR A x).1 (lofR A.ls y).1, 0) else (0, (lofR A.ls y).2)) else (0, (ofR A x).2)

end Go.Proofs.YtmechinlaladiaaDoor
namespace Go.Proofs.YtmechinlaladiaaDoor
open Go.RowKit Go.Lib
set_option linter.unusedVariables false

def nearSt (want : Ltr) : List Ltr → Int → Nat → Int × Nat
  | [], b, n => (b, n)
  | y :: l, b, n => if unl want y < n then nearSt want l y.r (unl want y) else nearSt want l b n
def nearR (A : Al) (r : Int) (p m : Nat) : Int × Int := if (lacR A r p m).2 = 0 then ((nearSt (trn (lacR A r p m).1 p m) A.ls 0 25).1, 0) else (0, (lacR A r p m).2)
theorem nearSt_yes (want : Ltr) (ls : List Ltr) (k : Nat) (b : Int) (n : Nat) (hk : k < ls.length) (h : unl want (ls.getD k default) < n) :
    nearSt want (ls.drop k) b n = nearSt want (ls.drop (k + 1)) (ls.getD k default).r (unl want (ls.getD k default)) := by
  rw [List.getD_eq_getElem?_getD, List.getElem?_eq_getElem hk] at h ⊢
  simp only [Option.getD_some] at h ⊢
  rw [List.drop_eq_getElem_cons hk, nearSt, if_pos h]
theorem nearSt_no (want : Ltr) (ls : List Ltr) (k : Nat) (b : Int) (n : Nat) (hk : k < ls.length) (h : ¬ unl want (ls.getD k default) < n) :
    nearSt want (ls.drop k) b n = nearSt want (ls.drop (k + 1)) b n := by
  rw [List.getD_eq_getElem?_getD, List.getElem?_eq_getElem hk] at h
  simp only [Option.getD_some] at h
  rw [List.drop_eq_getElem_cons hk, nearSt, if_neg h]
theorem lacR_okk {A : Al} {r : Int} {p m : Nat} (h : (lacR A r p m).2 = 0) : A.ok = true := by
  by_cases h0 : (ofR A r).2 = 0
  · exact ofR_24 h0
  · rw [lacR_err h0] at h; exact absurd h h0

end Go.Proofs.YtmechinlaladiaaDoor
namespace Go.Proofs.YtmechinlaladiaaDoor
open Go.RowKit Go.Lib
set_option linter.unusedVariables false

def lstS (ls : List Ltr) : List Int → Nat → Nat → Nat × Nat × Int
  | [], P, M => (P, M, 0)
  | r :: l, P, M => if (lofR ls r).2 = 0 then lstS ls l (P &&& (lofR ls r).1.p) (M &&& (lofR ls r).1.m) else (0, 0, (lofR ls r).2)
def leastR (A : Al) (l : List Int) : Nat × Nat × Int := if A.ok then (if 128 < l.length then (0, 0, 4) else if l.length = 0 then (0, 0, 8) else lstS A.ls l (allN A.fs.length) (allN A.fs.length)) else (0, 0, 7)
def LstPost (x : Nat × Nat × Int) (w : World) (e : Ending) (w' : World) : Prop := e = .returned (.tuple #[.int .u32 x.1, .int .u32 x.2.1, .int .i64 x.2.2]) ∧ Below w.heap.size w w'
theorem lstS_yes (ls : List Ltr) (l : List Int) (k P M : Nat) (hk : k < l.length) (h : (lofR ls (l.getD k 0)).2 = 0) :
    lstS ls (l.drop k) P M = lstS ls (l.drop (k + 1)) (P &&& (lofR ls (l.getD k 0)).1.p) (M &&& (lofR ls (l.getD k 0)).1.m) := by
  rw [List.getD_eq_getElem?_getD, List.getElem?_eq_getElem hk] at h ⊢
  simp only [Option.getD_some] at h ⊢
  rw [List.drop_eq_getElem_cons hk, lstS, if_pos h]
theorem lstS_no (ls : List Ltr) (l : List Int) (k P M : Nat) (hk : k < l.length) (h : ¬ (lofR ls (l.getD k 0)).2 = 0) :
    lstS ls (l.drop k) P M = (0, 0, (lofR ls (l.getD k 0)).2) := by
  rw [List.getD_eq_getElem?_getD, List.getElem?_eq_getElem hk] at h ⊢
  simp only [Option.getD_some] at h ⊢
  rw [List.drop_eq_getElem_cons hk, lstS, if_neg h]

set_option maxHeartbeats 400000 in
theorem featuresOf_eq (pf pl : Option Addr) (cf n nl cl : Nat) (w : World) (hn : n ≤ 24) :
    Calls Tryd.prog 69 #[.agg #[.slice pf n cf, .slice pl nl cl]] w fun e w' => e = .returned (.int .u32 (allN n)) ∧ w' = w.alloc (.cells #[.slice pf n cf, .slice pl nl cl] 31) := by
  have e := allN_int n hn
  have HE := Lib.hid e
  clear e
  go_enter Tryd.func69, Tryd.ntmps69
  go_wp2
  go_ret
  exact ⟨by rw [← HE.out] <;> rfl, rfl⟩

end Go.Proofs.YtmechinlaladiaaDoor
