/-
  WALKS: math/bits.OnesCount32; feature.unlike, turned.
-/
import Derived.Test.YtmbekgfbnapelaaFxP
import Derived.Lib.BitFns
import Derived.Deep.QuietTactic
import Derived.BigQuiet
namespace Go.Proofs.Ytmbekgfbnapelaa
open Go.RowKit Go.Lib
set_option linter.unusedVariables false

/-! ### how many bits -/
theorem popAux_zero : ∀ a, popAux a 0 = 0
  | 0 => rfl
  | a + 1 => by rw [popAux, popAux_zero a]
theorem popAux_add : ∀ (a b x : Nat), popAux (a + b) x = popAux a x + popAux b (x / 2 ^ a)
  | 0, b, x => by simp [popAux]
  | a + 1, b, x => by
    rw [show a + 1 + b = (a + b) + 1 by omega, popAux, popAux, popAux_add a b (x / 2), Nat.div_div_eq_div_mul, show 2 * 2 ^ a = 2 ^ (a + 1) by rw [Nat.pow_succ, Nat.mul_comm]]
    omega
theorem popAux_mod : ∀ (a x : Nat), popAux a (x % 2 ^ a) = popAux a x
  | 0, x => rfl
  | a + 1, x => by
    rw [popAux, popAux, ← popAux_mod a (x % 2 ^ (a + 1) / 2), ← popAux_mod a (x / 2)]
    have h1 : x % 2 ^ (a + 1) % 2 = x % 2 := by rw [Nat.pow_succ, Nat.mul_comm, Nat.mod_mul]; omega
    have h2 : x % 2 ^ (a + 1) / 2 = x / 2 % 2 ^ a := by rw [Nat.pow_succ, Nat.mul_comm, Nat.mod_mul]; omega
    rw [h1, h2, Nat.mod_mod]
theorem popAux_le : ∀ (a x : Nat), popAux a x ≤ a
  | 0, x => Nat.le_refl _
  | a + 1, x => by
    have := popAux_le a (x / 2)
    rw [popAux]
    omega
theorem ones8 (n : Nat) (h : n < 256) : pop8 (n : Int) = (popAux 8 n : Int) := by
  have e := pop8_eq ⟨n, h⟩
  simp only at e
  rw [e]
  unfold onesCount
  rw [show (64 : Nat) = 8 + 56 from rfl, popAux_add, Nat.div_eq_of_lt (by omega), popAux_zero]
  omega
theorem ones32 (x : Nat) (h : x < 4294967296) : popAux 32 x = popAux 8 (x % 256) + popAux 8 (x / 256 % 256) + popAux 8 (x / 65536 % 256) + popAux 8 (x / 16777216) := by
  have m1 := popAux_mod 8 x
  have m2 := popAux_mod 8 (x / 256)
  have m3 := popAux_mod 8 (x / 65536)
  simp only [show (2 : Nat) ^ 8 = 256 from rfl] at m1 m2 m3
  rw [m1, m2, m3, show (32 : Nat) = 8 + 24 from rfl, popAux_add 8 24, show (24 : Nat) = 8 + 16 from rfl, popAux_add 8 16, show (16 : Nat) = 8 + 8 from rfl, popAux_add 8 8]
  simp only [show (2 : Nat) ^ 8 = 256 from rfl, Nat.div_div_eq_div_mul, Nat.reduceMul]
  omega

set_option maxHeartbeats 1000000 in
set_option maxRecDepth 100000 in
theorem ones_any (x : Nat) (w : World) (hx : x < 4294967296) :
    Calls Try.prog 99 #[.int .u32 x] w fun e w' => e = .returned (.int .i64 (popAux 32 x)) ∧ Below w.heap.size w w' := by
  obtain ⟨D, hD⟩ : ∃ D : Nat, D = x / 16777216 := ⟨_, rfl⟩
  have eD : (x : Int) / 16777216 = (D : Int) := by omega
  have b1 : (D : Int) ≤ 255 := by omega
  have HD := Lib.hid hD
  clear hD
  obtain ⟨E2, hE2⟩ : ∃ D : Nat, D = x / 65536 := ⟨_, rfl⟩
  have e2 : (x : Int) / 65536 = (E2 : Int) := by omega
  obtain ⟨E3, hE3⟩ : ∃ D : Nat, D = x / 256 := ⟨_, rfl⟩
  have e3 : (x : Int) / 256 = (E3 : Int) := by omega
  have a2 : bits .and .u32 (E2 : Int) 255 = ((E2 &&& 255 : Nat) : Int) := u32_and_nat E2 255 (by omega) (by omega)
  have a3 : bits .and .u32 (E3 : Int) 255 = ((E3 &&& 255 : Nat) : Int) := u32_and_nat E3 255 (by omega) (by omega)
  have a4 : bits .and .u32 (x : Int) 255 = ((x &&& 255 : Nat) : Int) := u32_and_nat x 255 (by omega) (by omega)
  have HE2 := Lib.hid hE2; have HE3 := Lib.hid hE3
  clear hE2 hE3
  obtain ⟨A, hA⟩ : ∃ A : Nat, A = E2 &&& 255 := ⟨_, rfl⟩
  obtain ⟨B, hB⟩ : ∃ A : Nat, A = E3 &&& 255 := ⟨_, rfl⟩
  obtain ⟨C, hC⟩ : ∃ A : Nat, A = x &&& 255 := ⟨_, rfl⟩
  have hA1 : A ≤ 255 := by rw [hA]; exact Nat.and_le_right
  have hB1 : B ≤ 255 := by rw [hB]; exact Nat.and_le_right
  have hC1 : C ≤ 255 := by rw [hC]; exact Nat.and_le_right
  rw [← hA] at a2
  rw [← hB] at a3
  rw [← hC] at a4
  have HA := Lib.hid hA; have HB := Lib.hid hB; have HC := Lib.hid hC
  clear hA hB hC
  have iA : (A : Int) ≤ 255 := by omega
  have iB : (B : Int) ≤ 255 := by omega
  have iC : (C : Int) ≤ 255 := by omega
  go_enter Try.func99, Try.ntmps99
  go_wp2
  go_quiet (fail)
  go_wp2
  go_ret
  refine ⟨?_, below_drewN (Below.refl _ _) _⟩
  have hs := ones32 x hx
  have h255 : ∀ y, y &&& 255 = y % 256 := fun y => Nat.and_two_pow_sub_one_eq_mod y 8
  have q1 := ones8 D (by omega)
  have q2 := ones8 A (by omega)
  have q3 := ones8 B (by omega)
  have q4 := ones8 C (by omega)
  have l1 := popAux_le 8 D
  have l2 := popAux_le 8 A
  have l3 := popAux_le 8 B
  have l4 := popAux_le 8 C
  have r1 : D = x / 16777216 := HD.out
  have r2 : A = x / 65536 % 256 := by rw [HA.out, h255, HE2.out]
  have r3 : B = x / 256 % 256 := by rw [HB.out, h255, HE3.out]
  have r4 : C = x % 256 := by rw [HC.out, h255]
  have e : (pop8 (D : Int) + pop8 (A : Int) + pop8 (B : Int) + pop8 (C : Int)) % 256 = (popAux 32 x : Int) := by
    rw [q1, q2, q3, q4, hs, ← r1, ← r2, ← r3, ← r4]
    omega
  rw [← e] <;> rfl

/-! ### unlike, turned -/
def unl (x y : Ltr) : Nat := popAux 32 ((x.p ^^^ y.p) ||| (x.m ^^^ y.m))
def trn (x : Ltr) (p m : Nat) : Ltr := ⟨x.r, (x.p &&& (4294967295 - m)) ||| p, (x.m &&& (4294967295 - p)) ||| m⟩
theorem trn_ok (x : Ltr) (p m : Nat) (hx : LtrOk x) (hp : p < 4294967296) (hm : m < 4294967296) : LtrOk (trn x p m) :=
  ⟨Nat.or_lt_two_pow (n := 32) (Nat.and_lt_two_pow _ (by omega)) hp, Nat.or_lt_two_pow (n := 32) (Nat.and_lt_two_pow _ (by omega)) hm⟩

set_option maxHeartbeats 400000 in
theorem unlike_any (x y : Ltr) (w : World) (hx : LtrOk x) (hy : LtrOk y) :
    Calls Try.prog 63 #[x.v, y.v] w fun e w' => e = .returned (.int .i64 (unl x y)) ∧ Below w.heap.size w w' := by
  obtain ⟨r1, p1, m1⟩ := x
  obtain ⟨r2, p2, m2⟩ := y
  obtain ⟨h1, h2⟩ := hx
  obtain ⟨h3, h4⟩ := hy
  simp only [] at h1 h2 h3 h4
  have hu : unl ⟨r1, p1, m1⟩ ⟨r2, p2, m2⟩ = popAux 32 ((p1 ^^^ p2) ||| (m1 ^^^ m2)) := rfl
  have e1 := u32_xor_nat p1 p2 h1 h3
  have e2 := u32_xor_nat m1 m2 h2 h4
  have l1 : p1 ^^^ p2 < 4294967296 := Nat.xor_lt_two_pow (n := 32) h1 h3
  have l2 : m1 ^^^ m2 < 4294967296 := Nat.xor_lt_two_pow (n := 32) h2 h4
  obtain ⟨X, hX⟩ : ∃ X, X = p1 ^^^ p2 := ⟨_, rfl⟩
  obtain ⟨Y, hY⟩ : ∃ X, X = m1 ^^^ m2 := ⟨_, rfl⟩
  rw [← hX] at e1 hu l1
  rw [← hY] at e2 hu l2
  have e3 := u32_or_nat X Y l1 l2
  have l3 : X ||| Y < 4294967296 := Nat.or_lt_two_pow (n := 32) l1 l2
  have hZ' : ∃ Z, Z = X ||| Y := ⟨_, rfl⟩
  obtain ⟨Z, hZ⟩ := hZ'
  rw [← hZ] at e3 hu l3
  have HU := Lib.hid hu
  unfold Ltr.v
  simp only []
  clear hX hY hZ hu
  go_enter Try.func63, Try.ntmps63
  go_wp2_with fail
  refine (ones_any Z _ l3).mono ?_
  rintro e w1 ⟨rfl, hb1⟩
  have HB1 := Lib.hid hb1
  clear hb1
  go_wp2_with fail
  go_ret
  exact ⟨by rw [HU.out] <;> rfl, (((Below.refl _ _).alloc (Nat.le_refl _) _).alloc (by simp) _).trans (HB1.out.mono (by simp; omega))⟩

set_option maxHeartbeats 1000000 in
theorem turned_any (x : Ltr) (p m : Nat) (w : World) (hx : LtrOk x) (hp : p < 4294967296) (hm : m < 4294967296) :
    Calls Try.prog 64 #[x.v, .int .u32 p, .int .u32 m] w fun e w' => e = .returned (trn x p m).v ∧ Below w.heap.size w w' := by
  obtain ⟨r1, p1, m1⟩ := x
  obtain ⟨h1, h2⟩ := hx
  simp only [] at h1 h2
  have ht : (trn ⟨r1, p1, m1⟩ p m).v = .agg #[.int .i32 r1, .int .u32 (((p1 &&& (4294967295 - m)) ||| p : Nat) : Int), .int .u32 (((m1 &&& (4294967295 - p)) ||| m : Nat) : Int)] := rfl
  have e1 := u32_andNot_nat p1 m h1 hm
  have e2 := u32_andNot_nat m1 p h2 hp
  have l1 : p1 &&& (4294967295 - m) < 4294967296 := Nat.and_lt_two_pow (n := 32) _ (by omega)
  have l2 : m1 &&& (4294967295 - p) < 4294967296 := Nat.and_lt_two_pow (n := 32) _ (by omega)
  obtain ⟨X, hX⟩ : ∃ X, X = p1 &&& (4294967295 - m) := ⟨_, rfl⟩
  obtain ⟨Y, hY⟩ : ∃ X, X = m1 &&& (4294967295 - p) := ⟨_, rfl⟩
  rw [← hX] at e1 ht l1
  rw [← hY] at e2 ht l2
  have e3 := u32_or_nat X p l1 hp
  have e4 := u32_or_nat Y m l2 hm
  have hU : ∃ Z, Z = X ||| p := ⟨_, rfl⟩
  obtain ⟨U, hU⟩ := hU
  have hV : ∃ Z, Z = Y ||| m := ⟨_, rfl⟩
  obtain ⟨V, hV⟩ := hV
  rw [← hU] at e3 ht
  rw [← hV] at e4 ht
  rw [ht]
  unfold Ltr.v
  simp only []
  clear hX hY hU hV ht
  go_enter Try.func64, Try.ntmps64
  go_wp2
  refine bodyPost_ret (v := .agg #[.int .i32 r1, .int .u32 U, .int .u32 V]) (by simp [results, Try.results64, go_sem, *]) rfl ⟨rfl, ?_⟩
  exact ((Below.refl _ _).alloc (Nat.le_refl _) _).alloc (by simp) _

end Go.Proofs.Ytmbekgfbnapelaa
