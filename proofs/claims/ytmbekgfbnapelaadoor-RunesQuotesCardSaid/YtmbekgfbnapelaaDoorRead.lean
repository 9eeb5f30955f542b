/-
  WALKS: runes.sixteen, readByte, readRune; cognateref01.worth.
-/
import Derived.Test.YtmbekgfbnapelaaDoorQuoted
import Derived.Laws.BitsLemmas
import Derived.Deep.RegionHeld3
namespace Go.Proofs.YtmbekgfbnapelaaDoor
open Go.RowKit Go.Lib
set_option linter.unusedVariables false

theorem ret_int {k : IntKind} {a b : Int} (h : a = b) : Ending.returned (.int k a) = .returned (.int k b) := by rw [h]
theorem ret_vv {a b : Value} (h : a = b) : Ending.returned a = .returned b := by rw [h]
def hexv (b : Nat) : Int := if 48 ≤ b ∧ b ≤ 57 then (b : Int) - 48 else if 97 ≤ b ∧ b ≤ 102 then (b : Int) - 87 else -1
theorem hexv_lt (b : Nat) : -1 ≤ hexv b ∧ hexv b ≤ 15 := by unfold hexv; split <;> (try split) <;> omega

set_option maxHeartbeats 400000 in
theorem sixteen_any (b : Nat) (hb : b < 256) (w : World) : Calls Tryd.prog 93 #[.int .u8 b] w fun e w' => e = .returned (.int .i64 (hexv b)) ∧ w = w' := by
  by_cases h1 : b < 48
  · have H : Hid (hexv b = -1) := by show hexv b = -1; unfold hexv; rw [if_neg (by omega), if_neg (by omega)]
    go_enter Tryd.func93, Tryd.ntmps93
    go_wp2
    go_ret
    exact ⟨ret_int H.out.symm, rfl⟩
  by_cases h2 : b ≤ 57
  · have H : Hid (hexv b = (b : Int) - 48) := by show hexv b = (b : Int) - 48; unfold hexv; rw [if_pos (by omega)]
    go_enter Tryd.func93, Tryd.ntmps93
    go_wp2
    go_ret
    exact ⟨ret_int H.out.symm, rfl⟩
  by_cases h3 : b < 97
  · have H : Hid (hexv b = -1) := by show hexv b = -1; unfold hexv; rw [if_neg (by omega), if_neg (by omega)]
    go_enter Tryd.func93, Tryd.ntmps93
    go_wp2
    go_ret
    exact ⟨ret_int H.out.symm, rfl⟩
  by_cases h4 : b ≤ 102
  · have H : Hid (hexv b = (b : Int) - 97 + 10) := by show hexv b = (b : Int) - 97 + 10; unfold hexv; rw [if_neg (by omega), if_pos (by omega)]; omega
    go_enter Tryd.func93, Tryd.ntmps93
    go_wp2
    go_ret
    exact ⟨ret_int H.out.symm, rfl⟩
  · have H : Hid (hexv b = -1) := by show hexv b = -1; unfold hexv; rw [if_neg (by omega), if_neg (by omega)]
    go_enter Tryd.func93, Tryd.ntmps93
    go_wp2
    go_ret
    exact ⟨ret_int H.out.symm, rfl⟩

/-- What readByte answers. -/
def readB (u : ByteArray) : Option Nat := if 2 ≤ u.size ∧ 8 ≤ hexv (u.get! 0).toNat ∧ 0 ≤ hexv (u.get! 1).toNat then some (16 * (hexv (u.get! 0).toNat).toNat + (hexv (u.get! 1).toNat).toNat) else none
def readBv (u : ByteArray) : Value := match readB u with
  | some n => .tuple #[.int .u8 n, .bool true]
  | none => .tuple #[.int .u8 0, .bool false]
theorem get_run' (s : ByteArray) (p : Nat) (hp : p < s.size) (i : Int) (hi : i = (p : Int)) (wx : World) : (Instr.index 9 (.string s) (.int .i64 i)).run Tryd.prog wx = .ok (.int .u8 ((s.get! p).toNat : Nat)) wx := by
  subst hi; exact get_run s p hp wx

set_option maxHeartbeats 1000000 in
theorem readByte_any (u : ByteArray) (w : World) : Calls Tryd.prog 76 #[.string u] w fun e w' => e = .returned (readBv u) ∧ Below w.heap.size w w' := by
  by_cases h0 : u.size < 2
  · have H : Hid (readBv u = .tuple #[.int .u8 0, .bool false]) := by show readBv u = _; unfold readBv readB; rw [if_neg (by omega)]
    have h0' : (u.size : Int) < 2 := by omega
    go_enter Tryd.func76, Tryd.ntmps76
    go_wp2
    go_ret2
    exact ⟨ret_vv H.out.symm, Below.refl _ _⟩
  have hx := get_run' u 0 (by omega) 0 rfl
  have hy := get_run' u 1 (by omega) 1 rfl
  have hx2 := get_u8 u 0
  have hy2 := get_u8 u 1
  obtain ⟨x, hxe⟩ : ∃ x, x = (u.get! 0).toNat := ⟨_, rfl⟩
  obtain ⟨y, hye⟩ : ∃ y, y = (u.get! 1).toNat := ⟨_, rfl⟩
  have HR : Hid (readB u = if 2 ≤ u.size ∧ 8 ≤ hexv x ∧ 0 ≤ hexv y then some (16 * (hexv x).toNat + (hexv y).toNat) else none) := by show readB u = _; rw [hxe, hye]; rfl
  rw [← hxe] at hx hx2
  rw [← hye] at hy hy2
  clear hxe hye
  have cX : ∀ wx, Calls Tryd.prog 93 #[.int .u8 x] wx fun e w' => e = .returned (.int .i64 (hexv x)) ∧ wx = w' := fun wx => sixteen_any x hx2 wx
  have cY : ∀ wx, Calls Tryd.prog 93 #[.int .u8 y] wx fun e w' => e = .returned (.int .i64 (hexv y)) ∧ wx = w' := fun wx => sixteen_any y hy2 wx
  have bx := hexv_lt x
  have by' := hexv_lt y
  obtain ⟨X, hX⟩ : ∃ X, X = hexv x := ⟨_, rfl⟩
  obtain ⟨Y, hY⟩ : ∃ Y, Y = hexv y := ⟨_, rfl⟩
  rw [← hX, ← hY] at HR
  rw [← hX] at cX bx
  rw [← hY] at cY by'
  have HX := Lib.hid cX; have HY := Lib.hid cY
  clear cX cY hX hY
  by_cases hc : 8 ≤ X ∧ 0 ≤ Y
  · have H : Hid (readBv u = .tuple #[.int .u8 (X * 16 + Y), .bool true]) := by
      show readBv u = _
      unfold readBv
      rw [HR.out, if_pos ⟨by omega, hc⟩]
      show Value.tuple #[.int .u8 ((16 * X.toNat + Y.toNat : Nat) : Int), .bool true] = _
      rw [show ((16 * X.toNat + Y.toNat : Nat) : Int) = X * 16 + Y by omega]
    have hor : bits BinOp.or IntKind.i64 (X * 16) Y = X * 16 + Y := bits_join .i64 63 (by decide) (fun n a b => by rw [IntKind.wrap_i64]; omega) 4 (X * 16) Y (by omega) (by omega) (by omega) (by omega) (by omega) (by omega)
    obtain ⟨hc1, hc2⟩ := hc
    go_enter Tryd.func76, Tryd.ntmps76
    go_wp2_with fail
    go_region_held3 (fun w' => Below w.heap.size w w') (first | exact (Below.refl _ _).drew | exact hacc) (first | (go_at_call 93; (with_reducible first | refine (HX.out _).mono ?_ | refine (HY.out _).mono ?_); rintro e w1 ⟨rfl, hww⟩; have hacc : Below w.heap.size w w1 := (by first | exact hww ▸ (Below.refl _ _).drew | exact hww ▸ hacc)))
    all_goals (try go_wp2_with fail)
    all_goals
      go_ret2
      exact ⟨ret_vv H.out.symm, hacc⟩
  · have H : Hid (readBv u = .tuple #[.int .u8 0, .bool false]) := by
      show readBv u = _
      unfold readBv
      rw [HR.out, if_neg (fun h => hc h.2)]
    have hc' : X < 8 ∨ Y < 0 := by omega
    clear hc
    rcases hc' with hc | hc
    all_goals
      go_enter Tryd.func76, Tryd.ntmps76
      go_wp2_with fail
      go_region_held3 (fun w' => Below w.heap.size w w') (first | exact (Below.refl _ _).drew | exact hacc) (first | (go_at_call 93; (with_reducible first | refine (HX.out _).mono ?_ | refine (HY.out _).mono ?_); rintro e w1 ⟨rfl, hww⟩; have hacc : Below w.heap.size w w1 := (by first | exact hww ▸ (Below.refl _ _).drew | exact hww ▸ hacc)))
      all_goals (try go_wp2_with fail)
      all_goals
        go_ret2
        exact ⟨ret_vv H.out.symm, hacc⟩

/-- What readRune answers. -/
def rrBad (u : ByteArray) (i r : Nat) : Prop := i = 0 ∨ (1 < i ∧ (u.get! 0).toNat = 48) ∨ (32 ≤ r ∧ r ≤ 126) ∨ ¬ (r < 55296 ∨ (57344 ≤ r ∧ r ≤ 1114111))
instance (u : ByteArray) (i r : Nat) : Decidable (rrBad u i r) := by unfold rrBad; infer_instance
def rrF (u : ByteArray) : Nat → Nat → Nat → Nat × Nat
  | 0, _, _ => (0, 0)
  | f + 1, i, r => if i < u.size then (if (u.get! i).toNat = 59 then (if rrBad u i r then (0, 0) else (r, i + 1)) else if hexv (u.get! i).toNat < 0 then (0, 0) else rrF u f (i + 1) (r * 16 + (hexv (u.get! i).toNat).toNat)) else (0, 0)
def readR (u : ByteArray) : Nat × Nat := rrF u 7 0 0

theorem rrF_at (u : ByteArray) (i r : Nat) (h : i < u.size) (hi : i ≤ 6) : rrF u (7 - i) i r = if (u.get! i).toNat = 59 then (if rrBad u i r then (0, 0) else (r, i + 1)) else if hexv (u.get! i).toNat < 0 then (0, 0) else rrF u (7 - (i + 1)) (i + 1) (r * 16 + (hexv (u.get! i).toNat).toNat) := by
  rw [show 7 - i = (7 - (i + 1)) + 1 by omega]
  show (if i < u.size then _ else _) = _
  rw [if_pos h]
theorem rrF_out (u : ByteArray) (f i r : Nat) (h : ¬ i < u.size) : rrF u f i r = (0, 0) := by
  cases f with
  | zero => rfl
  | succ f => show (if i < u.size then _ else _) = _; rw [if_neg h]
theorem pow_le7 (i : Nat) (h : i ≤ 7) : 16 ^ i ≤ 268435456 := Nat.le_trans (Nat.pow_le_pow_right (by omega) h) (by decide)
theorem ret_rr {a b : Nat × Nat} (h : a = b) : Ending.returned (.tuple #[.int .i32 (a.1 : Int), .int .i64 (a.2 : Int)]) = .returned (.tuple #[.int .i32 (b.1 : Int), .int .i64 (b.2 : Int)]) := by rw [h]
theorem ret_rr2 {a : Nat × Nat} {r i : Nat} (h : a = (r, i + 1)) : Ending.returned (.tuple #[.int .i32 (r : Int), .int .i64 ((i : Int) + 1)]) = .returned (.tuple #[.int .i32 (a.1 : Int), .int .i64 (a.2 : Int)]) := by rw [h]; rfl
theorem valid_run (r : Int) (b : Bool) (w : World) (h : Lib.validRune r = b) : Calls Tryd.prog 94 #[.int .i32 r] w fun e w' => e = .returned (.bool b) ∧ w' = w := by
  rw [← h]; exact Tryd.utf8_ValidRune r w

set_option maxRecDepth 100000 in
set_option maxHeartbeats 4000000 in
theorem readRune_any (u : ByteArray) (w : World) (hu : u.size ≤ 1073741824) : Calls Tryd.prog 77 #[.string u] w fun e w' => e = .returned (.tuple #[.int .i32 (readR u).1, .int .i64 (readR u).2]) ∧ Below w.heap.size w w' := by
  go_enter Tryd.func77, Tryd.ntmps77
  go_wp2_with fail
  go_loopw [4, 5] (fun rv iv wr => ∃ i r : Nat, iv = .int .i64 (i : Nat) ∧ rv = .int .i32 (r : Nat) ∧ i ≤ 7 ∧ r < 16 ^ i ∧ rrF u (7 - i) i r = readR u ∧ Below w.heap.size w wr) (fun _ iv _ => 7 - (RowKit.intOf iv).toNat)
  case atStart => exact ⟨0, 0, rfl, rfl, by omega, by decide, rfl, Below.refl _ _⟩
  case round =>
    obtain ⟨i, r, rfl, rfl, hi7, hr, hrel, hb⟩ := hrel
    have HB := Lib.hid hb
    have hp := pow_le7 i hi7
    have hr2 : r < 268435456 := by omega
    by_cases h1 : i < u.size
    · by_cases h2 : i ≤ 6
      · have hp6 : r < 16777216 := by
          have : 16 ^ i ≤ 16777216 := Nat.le_trans (Nat.pow_le_pow_right (by omega) h2) (by decide)
          omega
        have hrel' := hrel
        rw [rrF_at u i r h1 h2] at hrel
        have hx := get_run' u i h1 i rfl
        have hy := get_run' u 0 (by omega) 0 rfl
        have hxl := get_u8 u i
        have hyl := get_u8 u 0
        obtain ⟨x, hxe⟩ : ∃ x, x = (u.get! i).toNat := ⟨_, rfl⟩
        obtain ⟨y, hye⟩ : ∃ y, y = (u.get! 0).toNat := ⟨_, rfl⟩
        rw [← hxe] at hx hxl hrel
        rw [← hye] at hy hyl
        clear hrel' hb
        by_cases hs : x = 59
        · rw [if_pos hs] at hrel
          have hs' : ((x : Int) == 59) = true := by rw [beq_iff_eq]; omega
          by_cases b1 : i = 0
          · have HR : Hid (readR u = (0, 0)) := by show readR u = (0, 0); rw [← hrel, if_pos (show rrBad u i r from Or.inl b1)]
            have b1' : ((i : Int) == 0) = true := by rw [beq_iff_eq]; omega
            have hys : ((y : Int) == 59) = true := by
              have : y = x := by rw [hye, hxe, b1]
              rw [beq_iff_eq]; omega
            clear hrel hxe hye
            go_wp2_with fail
            go_ret2
            exact ⟨ret_rr (a := (0, 0)) HR.out.symm, HB.out⟩
          have b1' : ((i : Int) == 0) = false := by rw [beq_eq_false_iff_ne]; omega
          by_cases b2 : 1 < i ∧ y = 48
          · have HR : Hid (readR u = (0, 0)) := by show readR u = (0, 0); rw [← hrel, if_pos (show rrBad u i r from Or.inr (Or.inl ⟨b2.1, by rw [← hye]; exact b2.2⟩))]
            obtain ⟨b2, b2'⟩ := b2
            have b2i : decide ((1 : Int) < (i : Int)) = true := decide_eq_true (by omega)
            have b3' : ((y : Int) == 48) = true := by rw [beq_iff_eq]; omega
            clear hrel hxe hye
            go_wp2_with fail
            go_ret2
            exact ⟨ret_rr (a := (0, 0)) HR.out.symm, HB.out⟩
          have b2' : decide ((1 : Int) < (i : Int)) = false ∨ (decide ((1 : Int) < (i : Int)) = true ∧ ((y : Int) == 48) = false) := by
            by_cases c : i ≤ 1
            · exact .inl (decide_eq_false (by omega))
            · exact .inr ⟨decide_eq_true (by omega), by rw [beq_eq_false_iff_ne]; omega⟩
          by_cases b3 : 32 ≤ r ∧ r ≤ 126
          · have HR : Hid (readR u = (0, 0)) := by show readR u = (0, 0); rw [← hrel, if_pos (show rrBad u i r from Or.inr (Or.inr (Or.inl b3)))]
            have HS : Hid (showsB (r : Int) = true) := decide_eq_true (by omega)
            clear b2 b3
            clear hrel hxe hye hr hp hr2 hp6
            rcases b2' with c | ⟨c, c'⟩
            all_goals
              go_wp2_with fail
              refine (shows_is r true _ HS.out).mono ?_
              rintro e w1 ⟨rfl, rfl⟩
              go_wp2_with fail
              go_ret2
              exact ⟨ret_rr (a := (0, 0)) HR.out.symm, HB.out⟩
          have HS : Hid (showsB (r : Int) = false) := decide_eq_false (by omega)
          by_cases b4 : r < 55296 ∨ (57344 ≤ r ∧ r ≤ 1114111)
          · have HR : Hid (readR u = (r, i + 1)) := by
              show readR u = (r, i + 1)
              rw [← hrel, if_neg]
              unfold rrBad
              rw [← hye]
              omega
            have hV : Lib.validRune (r : Int) = true := decide_eq_true (by omega)
            have HV := Lib.hid (fun wx => valid_run r true wx hV)
            clear hV
            clear b2 b3 b4
            clear hrel hxe hye hr hp hr2 hp6
            rcases b2' with c | ⟨c, c'⟩
            all_goals
              go_wp2_with fail
              refine (shows_is r false _ HS.out).mono ?_
              rintro e w1 ⟨rfl, rfl⟩
              go_wp2_with fail
              refine (HV.out _).mono ?_
              rintro e w1 ⟨rfl, rfl⟩
              go_wp2_with fail
              go_ret2
              exact ⟨ret_rr2 HR.out, HB.out⟩
          · have HR : Hid (readR u = (0, 0)) := by show readR u = (0, 0); rw [← hrel, if_pos (show rrBad u i r from Or.inr (Or.inr (Or.inr b4)))]
            have hV : Lib.validRune (r : Int) = false := decide_eq_false (by omega)
            have HV := Lib.hid (fun wx => valid_run r false wx hV)
            clear hV
            clear b2 b3 b4
            clear hrel hxe hye hr hp hr2 hp6
            rcases b2' with c | ⟨c, c'⟩
            all_goals
              go_wp2_with fail
              refine (shows_is r false _ HS.out).mono ?_
              rintro e w1 ⟨rfl, rfl⟩
              go_wp2_with fail
              refine (HV.out _).mono ?_
              rintro e w1 ⟨rfl, rfl⟩
              go_wp2_with fail
              go_ret2
              exact ⟨ret_rr (a := (0, 0)) HR.out.symm, HB.out⟩
        · rw [if_neg hs] at hrel
          have hs' : ((x : Int) == 59) = false := by rw [beq_eq_false_iff_ne]; omega
          have hxv := hexv_lt x
          have cX : ∀ wx, Calls Tryd.prog 93 #[.int .u8 x] wx fun e w' => e = .returned (.int .i64 (hexv x)) ∧ wx = w' := fun wx => sixteen_any x hxl wx
          have HX := Lib.hid cX
          by_cases hd : hexv x < 0
          · have HR : Hid (readR u = (0, 0)) := by show readR u = (0, 0); rw [← hrel, if_pos hd]
            clear hrel hxe hye cX
            go_wp2_with fail
            refine (HX.out _).mono ?_
            rintro e w1 ⟨rfl, rfl⟩
            go_wp2_with fail
            go_ret2
            exact ⟨ret_rr (a := (0, 0)) HR.out.symm, HB.out⟩
          · rw [if_neg hd] at hrel
            have HR := Lib.hid hrel
            have hq : r * 16 + (hexv x).toNat < 16 ^ (i + 1) := by rw [Nat.pow_succ]; omega
            have HQ := Lib.hid hq
            have hor : bits BinOp.or IntKind.i32 ((r : Int) * 16) (hexv x) = (r : Int) * 16 + hexv x := bits_join .i32 31 (by decide) wraps_i32 4 _ _ (by omega) (by omega) (by omega) (by omega) (by omega) (by omega)
            clear hrel hxe hye cX hq hp hr
            obtain ⟨X, hX⟩ : ∃ X, X = hexv x := ⟨_, rfl⟩
            rw [← hX] at HX hxv hd hor HR HQ
            clear hX
            go_wp2_with fail
            refine (HX.out _).mono ?_
            rintro e w1 ⟨rfl, rfl⟩
            go_wp2_with fail
            exact ⟨⟨i + 1, r * 16 + X.toNat, by go_num, by rw [show ((r * 16 + X.toNat : Nat) : Int) = (r : Int) * 16 + X by omega], by omega, HQ.out, HR.out, HB.out⟩, by simp [RowKit.intOf]; omega⟩
      · have HR : Hid (readR u = (0, 0)) := by show readR u = (0, 0); rw [← hrel, show 7 - i = 0 by omega]; rfl
        clear hrel hb
        go_wp2_with fail
        go_ret2
        exact ⟨ret_rr (a := (0, 0)) HR.out.symm, HB.out⟩
    · have HR : Hid (readR u = (0, 0)) := by show readR u = (0, 0); rw [← hrel, rrF_out u _ i r h1]
      clear hrel hb
      go_wp2_with fail
      go_ret2
      exact ⟨ret_rr (a := (0, 0)) HR.out.symm, HB.out⟩
end Go.Proofs.YtmbekgfbnapelaaDoor
