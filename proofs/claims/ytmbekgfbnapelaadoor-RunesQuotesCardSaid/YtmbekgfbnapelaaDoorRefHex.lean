/-
  WALKS OF THE DOCUMENT's ANSWER: cognateref01.sixteen, number, worth.
-/
import Derived.Test.YtmbekgfbnapelaaDoorPlain
import Derived.Test.YtmbekgfbnapelaaDoorRefPart
import Derived.Laws.Concat
namespace Go.Proofs.YtmbekgfbnapelaaDoor
open Go.RowKit Go.Lib
set_option linter.unusedVariables false

set_option maxRecDepth 100000 in
set_option maxHeartbeats 400000 in
theorem worth_any (b : Nat) (hb : b < 256) (w : World) : Calls Tryd.prog 48 #[.int .u8 b] w fun e w' => e = .returned (.int .i64 (hexv b)) ∧ w = w' := by
  by_cases h1 : b < 48
  · have H : Hid (hexv b = -1) := by show hexv b = -1; unfold hexv; rw [if_neg (by omega), if_neg (by omega)]
    go_enter Tryd.func48, Tryd.ntmps48
    go_wp2
    go_ret
    exact ⟨ret_int H.out.symm, rfl⟩
  by_cases h2 : b ≤ 57
  · have H : Hid (hexv b = (b : Int) - 48) := by show hexv b = (b : Int) - 48; unfold hexv; rw [if_pos (by omega)]
    go_enter Tryd.func48, Tryd.ntmps48
    go_wp2
    go_ret
    exact ⟨ret_int H.out.symm, rfl⟩
  by_cases h3 : b < 97
  · have H : Hid (hexv b = -1) := by show hexv b = -1; unfold hexv; rw [if_neg (by omega), if_neg (by omega)]
    go_enter Tryd.func48, Tryd.ntmps48
    go_wp2
    go_ret
    exact ⟨ret_int H.out.symm, rfl⟩
  by_cases h4 : b ≤ 102
  · have H : Hid (hexv b = (b : Int) - 97 + 10) := by show hexv b = (b : Int) - 97 + 10; unfold hexv; rw [if_neg (by omega), if_pos (by omega)]; omega
    go_enter Tryd.func48, Tryd.ntmps48
    go_wp2
    go_ret
    exact ⟨ret_int H.out.symm, rfl⟩
  · have H : Hid (hexv b = -1) := by show hexv b = -1; unfold hexv; rw [if_neg (by omega), if_neg (by omega)]
    go_enter Tryd.func48, Tryd.ntmps48
    go_wp2
    go_ret
    exact ⟨ret_int H.out.symm, rfl⟩

theorem six_cut (n : Nat) (h : n < 16) : (⟨#[48, 49, 50, 51, 52, 53, 54, 55, 56, 57, 97, 98, 99, 100, 101, 102]⟩ : ByteArray).extract n (n + 1) = strOf [hexc n] := by
  match n, h with
  | 0, _ => rfl | 1, _ => rfl | 2, _ => rfl | 3, _ => rfl | 4, _ => rfl | 5, _ => rfl | 6, _ => rfl | 7, _ => rfl
  | 8, _ => rfl | 9, _ => rfl | 10, _ => rfl | 11, _ => rfl | 12, _ => rfl | 13, _ => rfl | 14, _ => rfl | 15, _ => rfl
  | n + 16, h => omega
theorem ret_str {a b : ByteArray} (h : a = b) : Ending.returned (.string a) = .returned (.string b) := by rw [h]
set_option maxRecDepth 100000 in
set_option maxHeartbeats 400000 in
theorem ref_sixteen_any (n : Nat) (h : n < 16) (w : World) : Calls Tryd.prog 75 #[.int .i64 n] w fun e w' => e = .returned (.string (strOf [hexc n])) ∧ w' = w := by
  have HC := Lib.hid (six_cut n h)
  go_enter Tryd.func75, Tryd.ntmps75
  go_wp2
  go_ret
  exact ⟨ret_str HC.out, rfl⟩
theorem strOf_append (a b : List UInt8) : strOf a ++ strOf b = strOf (a ++ b) := by
  apply ByteArray.ext
  simp [strOf]
set_option maxRecDepth 100000 in
set_option maxHeartbeats 1000000 in
theorem ref_number_any : ∀ (f n : Nat), n < 16 ^ (f + 1) → f ≤ 7 → ∀ w, Calls Tryd.prog 50 #[.int .i64 n] w fun e w' => e = .returned (.string (strOf (hexF f n))) ∧ Below w.heap.size w w'
  | f, n, hn, hf, w => by
    by_cases h1 : n < 16
    · have e : hexF f n = [hexc n] := by
        cases f with
        | zero => rfl
        | succ f => show (if n < 16 then _ else _) = _; rw [if_pos h1]
      have HE := Lib.hid e
      have h1' : (n : Int) < 16 := by omega
      clear hn e
      go_enter Tryd.func50, Tryd.ntmps50
      go_wp2_with fail
      refine (ref_sixteen_any n h1 _).mono ?_
      rintro e w1 ⟨rfl, rfl⟩
      go_wp2_with fail
      go_ret
      exact ⟨ret_str (by rw [HE.out]), Below.refl _ _⟩
    · cases f with
      | zero => simp at hn; omega
      | succ f =>
        have e : hexF (f + 1) n = hexF f (n / 16) ++ [hexc (n % 16)] := by show (if n < 16 then _ else _) = _; rw [if_neg h1]
        have ih := ref_number_any f (n / 16) (by rw [Nat.pow_succ] at hn; omega) (by omega)
        have hl := hexF_length f (n / 16)
        have hn4 : n < 4294967296 := Nat.lt_of_lt_of_le hn (Nat.le_trans (Nat.pow_le_pow_right (by omega) (show f + 1 + 1 ≤ 8 by omega)) (by decide))
        have HE := Lib.hid e
        have cS : ∀ wx, Calls Tryd.prog 75 #[.int .i64 ((n % 16 : Nat) : Int)] wx fun e w' => e = .returned (.string (strOf [hexc (n % 16)])) ∧ w' = wx := fun wx => ref_sixteen_any (n % 16) (by omega) wx
        have HN := Lib.hid ih; have HS := Lib.hid cS
        have h1' : (16 : Int) ≤ (n : Int) := by omega
        obtain ⟨N, hN1, hN2⟩ : ∃ N : Int, (n : Int) ≤ N ∧ N ≤ 4294967296 := ⟨n, by omega, by omega⟩
        clear hn e ih cS hn4
        go_enter Tryd.func50, Tryd.ntmps50
        go_wp2_with fail
        refine (HN.out _).mono ?_
        rintro e w1 ⟨rfl, hb1⟩
        have HB1 := Lib.hid hb1
        clear hb1
        go_wp2_with fail
        refine (HS.out _).mono ?_
        rintro e w2 ⟨rfl, rfl⟩
        have hlen : (strOf (hexF f (n / 16))).size + (strOf [hexc (n % 16)]).size ≤ 9223372036854775807 := by
          have e1 : ∀ l, (strOf l).size = l.length := fun l => by show (strOf l).data.size = _; simp [strOf]
          rw [e1, e1]; simp; omega
        have hcat := run_string_add_sum (P := Tryd.prog) w2 (strOf (hexF f (n / 16))) (strOf [hexc (n % 16)]) hlen
        rw [strOf_append] at hcat
        clear hlen
        go_wp2_with fail
        go_ret
        exact ⟨ret_str (by rw [HE.out]), HB1.out⟩
end Go.Proofs.YtmbekgfbnapelaaDoor
