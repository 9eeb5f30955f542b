/-
  WALKS: feature.featuresOf, isClass, isRune.
-/
import Derived.Test.YtcibjgkifafohaaDoorFeat1
namespace Go.Proofs.YtcibjgkifafohaaDoor
open Go.RowKit Go.Lib
set_option linter.unusedVariables false

theorem allN_int (n : Nat) (hn : n ≤ 24) : (((2 : Int) ^ n % 4294967296 - 1) % 4294967296) = (allN n : Int) := by
  have h1 : 2 ^ n ≤ 2 ^ 24 := Nat.pow_le_pow_right (by decide) hn
  have h0 : 0 < 2 ^ n := Nat.two_pow_pos n
  have e : (2 : Int) ^ n = ((2 ^ n : Nat) : Int) := by push_cast; rfl
  rw [e]
  unfold allN
  generalize (2 : Nat) ^ n = p at h0 h1
  omega

set_option maxHeartbeats 400000 in
theorem featuresOf_any (pf pl : Option Addr) (cf n nl cl : Nat) (w : World) (hn : n ≤ 24) :
    Calls Tryd.prog 118 #[.agg #[.slice pf n cf, .slice pl nl cl]] w fun e w' => e = .returned (.int .u32 (allN n)) ∧ Below w.heap.size w w' := by
  have e := allN_int n hn
  have HE := Lib.hid e
  clear e
  go_enter Tryd.func118, Tryd.ntmps118
  go_wp2
  go_ret
  exact ⟨by rw [← HE.out] <;> rfl, (Below.refl _ _).alloc (Nat.le_refl _) _⟩

set_option maxHeartbeats 400000 in
theorem isClass_any (pf pl : Option Addr) (cf n nl cl p m : Nat) (w : World) (hn : n ≤ 24) (hp : p < 4294967296) (hm : m < 4294967296) :
    Calls Tryd.prog 92 #[.agg #[.slice pf n cf, .slice pl nl cl], .int .u32 p, .int .u32 m] w fun e w' => e = .returned (.bool (clsB n p m)) ∧ Below w.heap.size w w' := by
  have hA := allN_lt hn
  have lo : p ||| m < 4294967296 := Nat.or_lt_two_pow (n := 32) hp hm
  have eo := u32_or_nat p m hp hm
  have en := u32_andNot_nat (p ||| m) (allN n) lo (by omega)
  have ea := u32_and_nat p m hp hm
  have hc : clsB n p m = (decide ((p ||| m) &&& (4294967295 - allN n) = 0) && decide (p &&& m = 0)) := rfl
  obtain ⟨O, hO⟩ : ∃ O, O = p ||| m := ⟨_, rfl⟩
  obtain ⟨M, hM⟩ : ∃ M, M = allN n := ⟨_, rfl⟩
  have hF := featuresOf_any pf pl cf n nl cl
  rw [← hO] at eo en hc lo
  rw [← hM] at en hc hA hF
  obtain ⟨X, hX⟩ : ∃ X, X = O &&& (4294967295 - M) := ⟨_, rfl⟩
  obtain ⟨Y, hY⟩ : ∃ Y, Y = p &&& m := ⟨_, rfl⟩
  rw [← hX] at en hc
  rw [← hY] at ea hc
  have HC := Lib.hid hc; have HF := Lib.hid hF
  clear hO hM hX hY hc hF
  by_cases hx : X = 0
  · have hxz : ((X : Int) == 0) = true := by simp [hx]
    go_enter Tryd.func92, Tryd.ntmps92
    go_wp2_with fail
    refine (HF.out _ hn).mono ?_
    rintro e w1 ⟨rfl, hb1⟩
    have HB := Lib.hid hb1
    clear hb1
    go_wp2_with fail
    go_ret
    refine ⟨?_, ((Below.refl _ _).alloc (Nat.le_refl _) _).trans (HB.out.mono (by simp))⟩
    have e1 : ((Y : Int) == 0) = decide (Y = 0) := by rw [Bool.eq_iff_iff]; simp
    rw [HC.out, hx, ← e1] <;> rfl
  · have hxz : ((X : Int) == 0) = false := by simp; omega
    go_enter Tryd.func92, Tryd.ntmps92
    go_wp2_with fail
    refine (HF.out _ hn).mono ?_
    rintro e w1 ⟨rfl, hb1⟩
    have HB := Lib.hid hb1
    clear hb1
    go_wp2_with fail
    go_ret
    refine ⟨?_, ((Below.refl _ _).alloc (Nat.le_refl _) _).trans (HB.out.mono (by simp))⟩
    rw [HC.out]
    simp [hx]

theorem isRune_of (r : Int) (w : World) (b : Bool) (h : letB r = b) (hw : Calls Tryd.prog 136 #[.int .i32 r] w fun e w' => e = .returned (.bool b) ∧ w = w') :
    Calls Tryd.prog 136 #[.int .i32 r] w fun e w' => e = .returned (.bool (letB r)) ∧ w = w' := by rw [h]; exact hw
set_option maxHeartbeats 1000000 in
theorem isRune_any (r : Int) (w : World) :
    Calls Tryd.prog 136 #[.int .i32 r] w fun e w' => e = .returned (.bool (letB r)) ∧ w = w' := by
  by_cases h97 : 97 ≤ r
  · by_cases h122 : r ≤ 122
    · refine isRune_of r w true (by unfold letB; simp [h97, h122]) ?_
      go_enter Tryd.func136, Tryd.ntmps136
      go_wp2
      go_ret
      exact ⟨rfl, rfl⟩
    · have h65 : 65 ≤ r := by omega
      have h90 : ¬ r ≤ 90 := by omega
      by_cases h161 : 161 ≤ r
      · by_cases hb : r = 65533
        · subst hb
          refine isRune_of _ w false (by decide) ?_
          go_enter Tryd.func136, Tryd.ntmps136
          go_wp2
          go_ret
          exact ⟨rfl, rfl⟩
        · have hb1 : (r == 65533) = false := by simp [hb]
          have hb2 : (r != 65533) = true := by simp [hb]
          refine isRune_of r w (Lib.validRune r) (by unfold letB; simp [h122, h90, h161, hb]) ?_
          have hv := Tryd.utf8_ValidRune r
          have HV := Lib.hid hv
          clear hv hb
          go_enter Tryd.func136, Tryd.ntmps136
          go_wp2_with fail
          refine (HV.out _).mono ?_
          rintro e w1 ⟨rfl, rfl⟩
          go_wp2_with fail
          go_ret
          exact ⟨rfl, rfl⟩
      · refine isRune_of r w false (by unfold letB; simp [h122, h90, h161]) ?_
        go_enter Tryd.func136, Tryd.ntmps136
        go_wp2
        go_ret
        exact ⟨rfl, rfl⟩
  · have h161 : ¬ 161 ≤ r := by omega
    by_cases h65 : 65 ≤ r
    · by_cases h90 : r ≤ 90
      · refine isRune_of r w true (by unfold letB; simp [h65, h90]) ?_
        go_enter Tryd.func136, Tryd.ntmps136
        go_wp2
        go_ret
        exact ⟨rfl, rfl⟩
      · refine isRune_of r w false (by unfold letB; simp [h97, h90, h161]) ?_
        go_enter Tryd.func136, Tryd.ntmps136
        go_wp2
        go_ret
        exact ⟨rfl, rfl⟩
    · refine isRune_of r w false (by unfold letB; simp [h97, h65, h161]) ?_
      go_enter Tryd.func136, Tryd.ntmps136
      go_wp2
      go_ret
      exact ⟨rfl, rfl⟩

end Go.Proofs.YtcibjgkifafohaaDoor
