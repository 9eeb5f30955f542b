/-
  WALKS: the document's thing, an escape of sixteens.
-/
import Derived.Test.YtmbekgfbnapelaaDoorRefThing
import Derived.Deep.RegionHeld3
namespace Go.Proofs.YtmbekgfbnapelaaDoor
open Go.RowKit Go.Lib
set_option linter.unusedVariables false

theorem byteT_of (X Y : Int) (h1 : 0 ≤ X) (h2 : X ≤ 15) (h3 : 0 ≤ Y) (h4 : Y ≤ 15) : (16 * X + Y : Int) = ((UInt8.ofNat (16 * X.toNat + Y.toNat)).toNat : Int) := by
  rw [UInt8.toNat_ofNat_of_lt' (by simp [UInt8.size]; omega)]
  omega
set_option maxRecDepth 100000 in
set_option maxHeartbeats 4000000 in
theorem thing_x (s : ByteArray) (a : Nat) (w : World) (hs : s.size ≤ 1073741824) (h0 : (s.get! a).toNat = 92) (ha : a + 1 < s.size) (h2 : (s.get! (a + 1)).toNat = 120) :
    Calls Tryd.prog 27 #[.string s, .int .i64 a] w (ThPost (thing (s.extract a s.size)) w) := by
  have hx := get_run' s a (by omega) a rfl
  rw [h0] at hx
  have hx : ∀ (wx : World), (Instr.index 9 (.string s) (.int .i64 a)).run Tryd.prog wx = .ok (.int .u8 92) wx := hx
  have hX := get_run' s (a + 1) ha ((a : Int) + 1) (by omega)
  rw [h2] at hX
  have hX : ∀ (wx : World), (Instr.index 9 (.string s) (.int .i64 ((a : Int) + 1))).run Tryd.prog wx = .ok (.int .u8 120) wx := hX
  have HTh : Hid (thing (s.extract a s.size) = match readB (s.extract (a + 2) s.size) with | some n => ([UInt8.ofNat n], 4) | none => ([], 0)) := by
    show thing _ = _
    rw [thing_esc ha h0, h2, if_neg (by omega), if_pos rfl]
    rfl
  obtain ⟨T, hT⟩ : ∃ T, T = thing (s.extract a s.size) := ⟨_, rfl⟩
  rw [← hT] at HTh ⊢
  have d1 : (a : Int) + 1 < (s.size : Int) := by omega
  have d2 : ¬ (s.size : Int) ≤ (a : Int) + 1 := by omega
  clear hT h0 h2
  by_cases h3 : a + 3 < s.size
  · have hU0 : (s.extract (a + 2) s.size).get! 0 = s.get! (a + 2) := ext_get s (a + 2) s.size 0 (by omega) (Nat.le_refl _)
    have hU1 : (s.extract (a + 2) s.size).get! 1 = s.get! (a + 3) := ext_get s (a + 2) s.size 1 (by omega) (Nat.le_refl _)
    have hRB : readB (s.extract (a + 2) s.size) = if 8 ≤ hexv (s.get! (a + 2)).toNat ∧ 0 ≤ hexv (s.get! (a + 3)).toNat then some (16 * (hexv (s.get! (a + 2)).toNat).toNat + (hexv (s.get! (a + 3)).toNat).toNat) else none := by
      have hsz : 2 ≤ (s.extract (a + 2) s.size).size := by simp; omega
      unfold readB
      rw [hU0, hU1]
      by_cases hc : 8 ≤ hexv (s.get! (a + 2)).toNat ∧ 0 ≤ hexv (s.get! (a + 3)).toNat
      · rw [if_pos ⟨hsz, hc⟩, if_pos hc]
      · rw [if_neg (fun h => hc h.2), if_neg hc]
    have i2 := get_run' s (a + 2) (by omega) ((a : Int) + 2) (by omega)
    have i3 := get_run' s (a + 3) (by omega) ((a : Int) + 3) (by omega)
    have l2 := get_u8 s (a + 2)
    have l3 := get_u8 s (a + 3)
    obtain ⟨x, hxe⟩ : ∃ x, x = (s.get! (a + 2)).toNat := ⟨_, rfl⟩
    obtain ⟨y, hye⟩ : ∃ y, y = (s.get! (a + 3)).toNat := ⟨_, rfl⟩
    rw [← hxe] at hRB i2 l2
    rw [← hye] at hRB i3 l3
    have cX : ∀ wx, Calls Tryd.prog 48 #[.int .u8 x] wx fun e w' => e = .returned (.int .i64 (hexv x)) ∧ w' = wx := fun wx => (worth_any x l2 wx).mono fun e w' h => ⟨h.1, h.2.symm⟩
    have cY : ∀ wx, Calls Tryd.prog 48 #[.int .u8 y] wx fun e w' => e = .returned (.int .i64 (hexv y)) ∧ w' = wx := fun wx => (worth_any y l3 wx).mono fun e w' h => ⟨h.1, h.2.symm⟩
    have cX0 : ∀ wx, Calls Tryd.prog 48 #[.int .u8 x] wx fun e w' => e = .returned (.int .i64 (hexv x)) ∧ wx = w' := fun wx => worth_any x l2 wx
    have cY0 : ∀ wx, Calls Tryd.prog 48 #[.int .u8 y] wx fun e w' => e = .returned (.int .i64 (hexv y)) ∧ wx = w' := fun wx => worth_any y l3 wx
    have bx := hexv_lt x
    have by' := hexv_lt y
    obtain ⟨X, hXX⟩ : ∃ X, X = hexv x := ⟨_, rfl⟩
    obtain ⟨Y, hYY⟩ : ∃ Y, Y = hexv y := ⟨_, rfl⟩
    rw [← hXX] at hRB cX cX0 bx
    rw [← hYY] at hRB cY cY0 by'
    have HRB := Lib.hid hRB
    have CX := Lib.hid cX; have CY := Lib.hid cY; have CX0 := Lib.hid cX0; have CY0 := Lib.hid cY0
    have d3 : (a : Int) + 3 < (s.size : Int) := by omega
    clear hU0 hU1 hRB hxe hye cX cY cX0 cY0 hXX hYY h3
    by_cases hc : X < 8
    · have HR : Hid (T = ([], 0)) := by show T = _; rw [HTh.out, HRB.out, if_neg (by omega)]
      clear HTh HRB
      go_enter Tryd.func27, Tryd.ntmps27
      go_wp2_with fail
      refine (CX0.out _).mono ?_
      rintro e w1 ⟨rfl, rfl⟩
      go_wp2_with fail
      go_ret2
      exact th_none HR.out (Below.refl _ _)
    by_cases hc2 : Y < 0
    · have HR : Hid (T = ([], 0)) := by show T = _; rw [HTh.out, HRB.out, if_neg (by omega)]
      have hc' : 8 ≤ X := by omega
      clear HTh HRB
      go_enter Tryd.func27, Tryd.ntmps27
      go_wp2_with fail
      refine (CX0.out _).mono ?_
      rintro e w1 ⟨rfl, rfl⟩
      go_wp2_with fail
      refine (CY0.out _).mono ?_
      rintro e w1 ⟨rfl, rfl⟩
      go_wp2_with fail
      go_ret2
      exact th_none HR.out (Below.refl _ _)
    · have HR : Hid (T = ([UInt8.ofNat (16 * X.toNat + Y.toNat)], 4)) := by show T = _; rw [HTh.out, HRB.out, if_pos (by omega)]
      have hc' : 8 ≤ X := by omega
      have hc2' : 0 ≤ Y := by omega
      have HBy := Lib.hid (byteT_of X Y (by omega) (by omega) (by omega) (by omega))
      clear HTh HRB
      go_enter Tryd.func27, Tryd.ntmps27
      go_wp2_with fail
      refine (CX0.out _).mono ?_
      rintro e w1 ⟨rfl, rfl⟩
      go_wp2_with fail
      refine (CY0.out _).mono ?_
      rintro e w1 ⟨rfl, rfl⟩
      go_wp2_with fail
      have q1 : IntKind.i64.wrap ((a : Int) + 2) = (a : Int) + 2 := by rw [IntKind.wrap_i64]; omega
      have q2 : IntKind.i64.wrap ((a : Int) + 3) = (a : Int) + 3 := by rw [IntKind.wrap_i64]; omega
      have q3 : IntKind.i64.wrap (16 * X) = 16 * X := by rw [IntKind.wrap_i64]; omega
      have q4 : IntKind.i64.wrap (16 * X + Y) = 16 * X + Y := by rw [IntKind.wrap_i64]; omega
      have q5 : IntKind.u8.wrap (16 * X + Y) = 16 * X + Y := by show (16 * X + Y) % 256 = _; omega
      go_still_tail 13, (by kernel_rfl)
      still_call (CX.out _)
      repeat still_step
      still_call (CY.out _)
      repeat still_step
      refine wpStill_nil ?_
      clear q1 q2 q3 q4 q5
      change wpList _ _ _ _ _ w.drew
      have hdr : Below w.heap.size w w.drew := (Below.refl _ _).drew
      obtain ⟨W1, hW1⟩ : ∃ W1, W1 = w.drew := ⟨_, rfl⟩
      rw [← hW1] at hdr ⊢
      have HDR := Lib.hid hdr
      clear hW1 hdr
      go_wp2_with fail
      go_ret2
      exact th_one HR.out rfl HBy.out HDR.out HDR.out.size
  · have HR : Hid (T = ([], 0)) := by
      show T = _
      rw [HTh.out]
      have : readB (s.extract (a + 2) s.size) = none := by unfold readB; rw [if_neg (by simp; omega)]
      rw [this]
    have d3 : ¬ (a : Int) + 3 < (s.size : Int) := by omega
    clear HTh h3
    go_enter Tryd.func27, Tryd.ntmps27
    go_wp2_with fail
    go_ret2
    exact th_none HR.out (Below.refl _ _)
end Go.Proofs.YtmbekgfbnapelaaDoor
