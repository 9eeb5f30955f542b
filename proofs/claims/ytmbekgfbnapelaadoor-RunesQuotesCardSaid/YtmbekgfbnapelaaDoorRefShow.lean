/-
  WALKS: the document's shown.
-/
import Derived.Test.YtmbekgfbnapelaaDoorRefHex
import Derived.Test.YtmbekgfbnapelaaDoorQuoted
namespace Go.Proofs.YtmbekgfbnapelaaDoor
open Go.RowKit Go.Lib
set_option linter.unusedVariables false

theorem one_byte (s : ByteArray) (p : Nat) (hp : p < s.size) : s.extract p (p + 1) = strOf [s.get! p] := by
  apply ByteArray.ext
  apply Array.ext'
  simp only [strOf, ByteArray.data_extract, Array.toList_extract]
  rw [List.extract_eq_take_drop, show p + 1 - p = 1 by omega, get_lt s p hp]
  have hp' : p < s.data.toList.length := by simpa using hp
  rw [List.drop_eq_getElem_cons hp']
  rfl
theorem byte_is {s : ByteArray} {p : Nat} (hb : brk s p = false) : (((s.get! p).toNat = 34 ∨ (s.get! p).toNat = 92) ↔ (dR s p = 34 ∨ dR s p = 92)) ∧ ((32 ≤ (s.get! p).toNat ∧ (s.get! p).toNat ≤ 126) ↔ (32 ≤ dR s p ∧ dR s p ≤ 126)) := by
  rcases shape s p hb with ⟨_, h1, g0⟩ | ⟨_, _, h1, h2, g0, _⟩ | ⟨_, _, h1, h2, h3, g0, _⟩ | ⟨_, _, h1, h2, g0, _⟩ <;> omega

set_option maxHeartbeats 2000000 in
set_option maxRecDepth 100000 in
theorem rshown_brk (s : ByteArray) (p : Nat) (hp : p < s.size) (hs : s.size ≤ 1073741824) (w : World) (hb : brk s p = true) :
    Calls Tryd.prog 46 #[.string s, pieceV s p] w fun e w' => e = .returned (.string (strOf (shownL s p))) ∧ Below w.heap.size w w' := by
  have hsh := shown_brk hb
  have hget := fun wx => get_run s p hp wx
  have hlt : (s.get! p).toNat < 256 := (s.get! p).toNat_lt
  unfold pieceV
  rw [hb]
  obtain ⟨b, hb'⟩ : ∃ b, b = (s.get! p).toNat := ⟨_, rfl⟩
  rw [← hb'] at hsh hget hlt
  have k1 := fun W => ref_sixteen_any (b / 16) (by omega) W
  have k2 := fun W => ref_sixteen_any (b % 16) (by omega) W
  have c1 := fun W => run_string_add_sum (P := Tryd.prog) W ⟨#[92, 120]⟩ (strOf [hexc (b / 16)]) (by show 2 + 1 ≤ _; decide)
  have c2 := fun W => run_string_add_sum (P := Tryd.prog) W ((⟨#[92, 120]⟩ : ByteArray) ++ strOf [hexc (b / 16)]) (strOf [hexc (b % 16)]) (by show ((⟨#[92, 120]⟩ : ByteArray) ++ strOf [hexc (b / 16)]).size + 1 ≤ _; rw [ByteArray.size_append]; show 2 + 1 + 1 ≤ _; decide)
  have hcat : ((⟨#[92, 120]⟩ : ByteArray) ++ strOf [hexc (b / 16)]) ++ strOf [hexc (b % 16)] = strOf (shownL s p) := by
    rw [hsh]
    rw [show (⟨#[92, 120]⟩ : ByteArray) = strOf [92, 120] from rfl, strOf_append, strOf_append]
    rfl
  obtain ⟨R, hR⟩ : ∃ R, R = strOf (shownL s p) := ⟨_, rfl⟩
  rw [← hR] at hcat ⊢
  obtain ⟨x1, hx1⟩ : ∃ x, x = strOf [hexc (b / 16)] := ⟨_, rfl⟩
  obtain ⟨x2, hx2⟩ : ∃ x, x = strOf [hexc (b % 16)] := ⟨_, rfl⟩
  rw [← hx1] at k1 c1 c2 hcat
  rw [← hx2] at k2 c2 hcat
  obtain ⟨x3, hx3⟩ : ∃ x, x = (⟨#[92, 120]⟩ : ByteArray) ++ x1 := ⟨_, rfl⟩
  rw [← hx3] at c1 c2 hcat
  rw [hcat] at c2
  have hb1 : (b : Int) ≤ 255 := by omega
  have K1 := Lib.hid k1; have K2 := Lib.hid k2
  clear hsh hb hR hx1 hx2 hx3 hcat k1 k2 hb'
  go_enter Tryd.func46, Tryd.ntmps46
  go_wp2_with fail
  refine (K1.out _).mono ?_
  rintro _ w1 ⟨rfl, rfl⟩
  go_wp2_with fail
  refine (K2.out _).mono ?_
  rintro _ w2 ⟨rfl, rfl⟩
  go_wp2_with fail
  go_ret
  exact ⟨rfl, (Below.refl _ _).alloc (Nat.le_refl _) _⟩
set_option maxHeartbeats 2000000 in
set_option maxRecDepth 100000 in
theorem rshown_esc (s : ByteArray) (p : Nat) (hp : p < s.size) (hs : s.size ≤ 1073741824) (w : World) (hb : brk s p = false) (h2 : dR s p = 34 ∨ dR s p = 92) :
    Calls Tryd.prog 46 #[.string s, pieceV s p] w fun e w' => e = .returned (.string (strOf (shownL s p))) ∧ Below w.heap.size w w' := by
  have hsh := shown_esc hb h2
  have h34 := (byte_is hb).1.2 h2
  have hget := fun wx => get_run s p hp wx
  have hone := one_byte s p hp
  unfold pieceV
  rw [hb]
  have hcat : (⟨#[92]⟩ : ByteArray) ++ s.extract p (p + 1) = strOf (shownL s p) := by
    rw [hsh, hone, show (⟨#[92]⟩ : ByteArray) = strOf [92] from rfl, strOf_append]
    rfl
  have c1 := fun W => run_string_add_sum (P := Tryd.prog) W ⟨#[92]⟩ (s.extract p (p + 1)) (by rw [hone]; show 1 + 1 ≤ _; decide)
  rw [hcat] at c1
  obtain ⟨R, hR⟩ : ∃ R, R = strOf (shownL s p) := ⟨_, rfl⟩
  rw [← hR] at c1 ⊢
  obtain ⟨b, hb'⟩ : ∃ b, b = (s.get! p).toNat := ⟨_, rfl⟩
  rw [← hb'] at hget h34
  have z1 : (p : Int) + 1 ≤ (s.size : Int) := by omega
  clear hsh hb hR hb' hcat hone h2
  rcases h34 with rfl | rfl
  all_goals
    go_enter Tryd.func46, Tryd.ntmps46
    go_wp2_with fail
    go_ret
    exact ⟨rfl, (Below.refl _ _).alloc (Nat.le_refl _) _⟩
set_option maxHeartbeats 2000000 in
set_option maxRecDepth 100000 in
theorem rshown_self (s : ByteArray) (p : Nat) (hp : p < s.size) (hs : s.size ≤ 1073741824) (w : World) (hb : brk s p = false) (h2 : ¬ (dR s p = 34 ∨ dR s p = 92)) (h3 : 32 ≤ dR s p ∧ dR s p ≤ 126) :
    Calls Tryd.prog 46 #[.string s, pieceV s p] w fun e w' => e = .returned (.string (strOf (shownL s p))) ∧ Below w.heap.size w w' := by
  have hsh := shown_self hb h2 h3
  have h34 : ¬ ((s.get! p).toNat = 34 ∨ (s.get! p).toNat = 92) := fun h => h2 ((byte_is hb).1.1 h)
  have h32 := (byte_is hb).2.2 h3
  have hget := fun wx => get_run s p hp wx
  have hone := one_byte s p hp
  rw [hsh, ← hone]
  unfold pieceV
  rw [hb]
  obtain ⟨b, hb'⟩ : ∃ b, b = (s.get! p).toNat := ⟨_, rfl⟩
  rw [← hb'] at hget h34 h32
  have z1 : (p : Int) + 1 ≤ (s.size : Int) := by omega
  have e1 : ((b : Int) == 34) = false := by simp; omega
  have e2 : ((b : Int) == 92) = false := by simp; omega
  have e3 : (32 : Int) ≤ (b : Int) := by omega
  have e4 : (b : Int) ≤ 126 := by omega
  clear hsh hb hb' hone h2 h3 h34 h32
  go_enter Tryd.func46, Tryd.ntmps46
  go_wp2_with fail
  go_ret
  exact ⟨rfl, (Below.refl _ _).alloc (Nat.le_refl _) _⟩
set_option maxHeartbeats 2000000 in
set_option maxRecDepth 100000 in
theorem rshown_u (s : ByteArray) (p : Nat) (hp : p < s.size) (hs : s.size ≤ 1073741824) (w : World) (hb : brk s p = false) (h2 : ¬ (dR s p = 34 ∨ dR s p = 92)) (h3 : ¬ (32 ≤ dR s p ∧ dR s p ≤ 126)) (hR2 : dR s p ≤ 1114111) :
    Calls Tryd.prog 46 #[.string s, pieceV s p] w fun e w' => e = .returned (.string (strOf (shownL s p))) ∧ Below w.heap.size w w' := by
  have hsh := shown_u hb h2 h3
  have h34 : ¬ ((s.get! p).toNat = 34 ∨ (s.get! p).toNat = 92) := fun h => h2 ((byte_is hb).1.1 h)
  have h32 : ¬ (32 ≤ (s.get! p).toNat ∧ (s.get! p).toNat ≤ 126) := fun h => h3 ((byte_is hb).2.1 h)
  have hget := fun wx => get_run s p hp wx
  have hlt : (s.get! p).toNat < 256 := (s.get! p).toNat_lt
  have kn := fun W => ref_number_any 7 (dR s p) (Nat.lt_of_le_of_lt hR2 (by decide)) (by decide) W
  have hl := hexF_length 7 (dR s p)
  have e1 : ∀ l, (strOf l).size = l.length := fun l => by show (strOf l).data.size = _; simp [strOf]
  have c1 := fun W => run_string_add_sum (P := Tryd.prog) W ⟨#[92, 117]⟩ (strOf (hexF 7 (dR s p))) (by rw [e1]; show 2 + _ ≤ _; omega)
  have c2 := fun W => run_string_add_sum (P := Tryd.prog) W ((⟨#[92, 117]⟩ : ByteArray) ++ strOf (hexF 7 (dR s p))) ⟨#[59]⟩ (by rw [ByteArray.size_append, e1]; show 2 + _ + 1 ≤ _; omega)
  have hcat : ((⟨#[92, 117]⟩ : ByteArray) ++ strOf (hexF 7 (dR s p))) ++ ⟨#[59]⟩ = strOf (shownL s p) := by
    rw [hsh, show (⟨#[92, 117]⟩ : ByteArray) = strOf [92, 117] from rfl, show (⟨#[59]⟩ : ByteArray) = strOf [59] from rfl, strOf_append, strOf_append]
    rfl
  rw [hcat] at c2
  unfold pieceV
  rw [hb]
  obtain ⟨Z, hZ⟩ : ∃ R, R = strOf (shownL s p) := ⟨_, rfl⟩
  rw [← hZ] at c2 ⊢
  obtain ⟨x1, hx1⟩ : ∃ x, x = strOf (hexF 7 (dR s p)) := ⟨_, rfl⟩
  rw [← hx1] at kn c1 c2
  obtain ⟨x2, hx2⟩ : ∃ x, x = (⟨#[92, 117]⟩ : ByteArray) ++ x1 := ⟨_, rfl⟩
  rw [← hx2] at c1 c2
  obtain ⟨b, hb'⟩ : ∃ b, b = (s.get! p).toNat := ⟨_, rfl⟩
  rw [← hb'] at hget h34 h32 hlt
  obtain ⟨R, hR⟩ : ∃ R, R = dR s p := ⟨_, rfl⟩
  rw [← hR] at kn hR2 ⊢
  have KN := Lib.hid kn
  have q1 : ((b : Int) == 34) = false := by simp; omega
  have q2 : ((b : Int) == 92) = false := by simp; omega
  have hcase : b < 32 ∨ (32 ≤ b ∧ 126 < b) := by omega
  have hR3 : (R : Int) ≤ 1114111 := by omega
  clear hsh hb hb' h2 h3 h34 h32 hcat hx1 hx2 hZ kn hl e1 hR hR2
  rcases hcase with hc | ⟨hc1, hc2⟩
  · have e3 : ¬ (32 : Int) ≤ (b : Int) := by omega
    go_enter Tryd.func46, Tryd.ntmps46
    go_wp2_with fail
    refine (KN.out _).mono ?_
    rintro _ w1 ⟨rfl, hb1⟩
    have HB := Lib.hid hb1
    clear hb1
    go_wp2_with fail
    go_ret
    exact ⟨rfl, ((Below.refl _ _).alloc (Nat.le_refl _) _).trans (HB.out.mono (by simp))⟩
  · have e3 : (32 : Int) ≤ (b : Int) := by omega
    have e4 : ¬ (b : Int) ≤ 126 := by omega
    go_enter Tryd.func46, Tryd.ntmps46
    go_wp2_with fail
    refine (KN.out _).mono ?_
    rintro _ w1 ⟨rfl, hb1⟩
    have HB := Lib.hid hb1
    clear hb1
    go_wp2_with fail
    go_ret
    exact ⟨rfl, ((Below.refl _ _).alloc (Nat.le_refl _) _).trans (HB.out.mono (by simp))⟩
theorem rshown_any (s : ByteArray) (p : Nat) (hp : p < s.size) (hs : s.size ≤ 1073741824) (w : World) :
    Calls Tryd.prog 46 #[.string s, pieceV s p] w fun e w' => e = .returned (.string (strOf (shownL s p))) ∧ Below w.heap.size w w' := by
  cases hb : brk s p with
  | true => exact rshown_brk s p hp hs w hb
  | false =>
    by_cases h2 : dR s p = 34 ∨ dR s p = 92
    · exact rshown_esc s p hp hs w hb h2
    · by_cases h3 : 32 ≤ dR s p ∧ dR s p ≤ 126
      · exact rshown_self s p hp hs w hb h2 h3
      · refine rshown_u s p hp hs w hb h2 h3 ?_
        rcases shape s p hb with ⟨_, h1, _⟩ | ⟨_, _, _, h1, _⟩ | ⟨_, _, _, h1, _⟩ | ⟨_, _, _, h1, _⟩ <;> omega
end Go.Proofs.YtmbekgfbnapelaaDoor
