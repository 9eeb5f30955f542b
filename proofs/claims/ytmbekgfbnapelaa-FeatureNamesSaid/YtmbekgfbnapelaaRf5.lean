/-
  WALKS: cognateref02.unlike.
-/
import Derived.Test.YtmbekgfbnapelaaRfA
import Derived.Test.YtmbekgfbnapelaaNear
import Derived.Test.YtmbekgfbnapelaaBackP
namespace Go.Proofs.Ytmbekgfbnapelaa
open Go.RowKit Go.Lib
set_option linter.unusedVariables false

theorem and_pow_val (n k : Nat) : n &&& 2 ^ k = n / 2 ^ k % 2 * 2 ^ k := by
  rw [bit_of]
  cases hb : n.testBit k with
  | false => rw [(and_pow_iff n k).2 hb]; simp
  | true =>
    apply Nat.eq_of_testBit_eq
    intro i
    rw [Nat.testBit_and, Nat.testBit_two_pow]
    simp only [Bool.toNat_true, Nat.one_mul, Nat.testBit_two_pow]
    by_cases hi : k = i
    · subst hi; simp [hb]
    · simp [hi]
theorem bits_same (a b k : Nat) : (a &&& 2 ^ k = b &&& 2 ^ k) ↔ (a / 2 ^ k % 2 = b / 2 ^ k % 2) := by
  rw [and_pow_val, and_pow_val]
  have := Nat.two_pow_pos k
  constructor
  · intro h; exact Nat.eq_of_mul_eq_mul_right this h
  · intro h; rw [h]

set_option maxHeartbeats 1000000 in
set_option maxRecDepth 100000 in
theorem runlike_any (x y : Ltr) (w : World) (hx : LtrOk x) (hy : LtrOk y) :
    Calls Try.prog 69 #[.agg #[.int .i32 x.r, .int .u32 x.p, .int .u32 x.m], .agg #[.int .i32 y.r, .int .u32 y.p, .int .u32 y.m]] w fun e w' => e = .returned (.int .i64 (sgn x y.p y.m 24)) ∧ Below w.heap.size w w' := by
  have hsn := sgn_snoc x y.p y.m
  obtain ⟨C, hC⟩ : ∃ C : Nat → Nat, ∀ k, C k = sgn x y.p y.m k := ⟨fun k => sgn x y.p y.m k, fun _ => rfl⟩
  have hC0 : C 0 = 0 := by rw [hC]; rfl
  have hCle : ∀ k, C k ≤ k := fun k => by rw [hC]; exact popAux_le k _
  simp only [← hC] at hsn ⊢
  obtain ⟨r, xp, xm⟩ := x
  obtain ⟨r2, p, m⟩ := y
  obtain ⟨hx1, hx2⟩ := hx
  obtain ⟨hp, hm⟩ := hy
  simp only [] at hsn hx1 hx2 hp hm ⊢
  have HSN := Lib.hid hsn
  have HC0 := Lib.hid hC0
  have HCL := Lib.hid hCle
  clear hsn hC hC0 hCle
  go_enter Try.func69, Try.ntmps69
  go_wp2_with fail
  go_loopw [5, 6] (fun n b wr => ∃ (k : Nat) (I : Int), n = .int .i64 (C k) ∧ b = .int .u32 I ∧ k ≤ 24 ∧ Hid (I = ((2 ^ k : Nat) : Int)) ∧ 1 ≤ I ∧ I ≤ 16777216 ∧ wr = (w.alloc (.cells #[.int .i32 r, .int .u32 xp, .int .u32 xm] 35)).alloc (.cells #[.int .i32 r2, .int .u32 p, .int .u32 m] 35)) (fun _ b _ => 16777216 - (intOf b).toNat)
  case atStart => exact ⟨0, 1, by rw [HC0.out] <;> rfl, rfl, by omega, rfl, by omega, by omega, rfl⟩
  case round =>
    obtain ⟨k, I, rfl, rfl, hk, HPI, hp1, hp2, rfl⟩ := hrel
    obtain ⟨P2, hP2⟩ : ∃ P2 : Nat, I = (P2 : Int) := ⟨I.toNat, by omega⟩
    have HPW := Lib.hid (show P2 = 2 ^ k from by have := HPI.out; omega)
    by_cases hkn : I < 16777216
    · have hk24 : k < 24 := by
        rcases Nat.lt_or_ge k 24 with h | h
        · exact h
        · obtain rfl : k = 24 := by omega
          have := HPW.out
          omega
      have hnext : P2 * 2 = 2 ^ (k + 1) := by rw [HPW.out, Nat.pow_succ]
      have hb2 : P2 * 2 ≤ 16777216 := by
        rw [hnext]
        exact Nat.pow_le_pow_right (by decide) (by omega : k + 1 ≤ 24)
      have hst := HSN.out k
      have hcl := HCL.out k
      have e1 := u32_and_nat xp P2 hx1 (by omega)
      have e2 := u32_and_nat p P2 hp (by omega)
      have e3 := u32_and_nat xm P2 hx2 (by omega)
      have e4 := u32_and_nat m P2 hm (by omega)
      obtain ⟨a1, h1⟩ : ∃ a, a = xp &&& P2 := ⟨_, rfl⟩
      obtain ⟨a2, h2⟩ : ∃ a, a = p &&& P2 := ⟨_, rfl⟩
      obtain ⟨a3, h3⟩ : ∃ a, a = xm &&& P2 := ⟨_, rfl⟩
      obtain ⟨a4, h4⟩ : ∃ a, a = m &&& P2 := ⟨_, rfl⟩
      have t1 : a1 = a2 ↔ xp / 2 ^ k % 2 = p / 2 ^ k % 2 := by rw [h1, h2, HPW.out]; exact bits_same xp p k
      have t2 : a3 = a4 ↔ xm / 2 ^ k % 2 = m / 2 ^ k % 2 := by rw [h3, h4, HPW.out]; exact bits_same xm m k
      rw [← h1] at e1
      rw [← h2] at e2
      rw [← h3] at e3
      rw [← h4] at e4
      have HP := Lib.hid hnext
      have hnI : I * 2 = ((2 ^ (k + 1) : Nat) : Int) := by rw [hP2, ← hnext]; push_cast; rfl
      have hI2 : I * 2 ≤ 16777216 := by omega
      rw [← hP2] at e1 e2 e3 e4
      have HNI := Lib.hid hnI
      clear h1 h2 h3 h4 hnext HPW hp2 HP hb2 hx1 hx2 hp hm hP2 HPI hnI
      by_cases g1 : a1 = a2
      · by_cases g2 : a3 = a4
        · have hst2 : C (k + 1) = C k := by rw [hst, if_pos ⟨t1.1 g1, t2.1 g2⟩, Nat.add_zero]
          subst g1 g2
          have HST := Lib.hid hst2
          have i1 : ((a1 : Int) == (a1 : Int)) = true := by simp
          have i2 : ((a3 : Int) == (a3 : Int)) = true := by simp
          clear hst hst2 t1 t2
          go_wp2_with fail
          go_roundw
          case rel => exact ⟨k + 1, I * 2, by rw [HST.out], by go_num, by omega, HNI, by omega, hI2, trivial⟩
          case measure => simp [intOf]; omega
        · have hst2 : C (k + 1) = C k + 1 := by rw [hst, if_neg (fun h => g2 (t2.2 h.2))]
          subst g1
          have HST := Lib.hid hst2
          have i1 : ((a1 : Int) == (a1 : Int)) = true := by simp
          have i2 : ((a3 : Int) == (a4 : Int)) = false := by simp; omega
          clear hst hst2 t1 t2 g2
          go_wp2_with fail
          go_roundw
          case rel => exact ⟨k + 1, I * 2, by rw [HST.out]; go_num, by go_num, by omega, HNI, by omega, hI2, trivial⟩
          case measure => simp [intOf]; omega
      · have hst2 : C (k + 1) = C k + 1 := by rw [hst, if_neg (fun h => g1 (t1.2 h.1))]
        have HST := Lib.hid hst2
        have i1 : ((a1 : Int) == (a2 : Int)) = false := by simp; omega
        clear hst hst2 t1 t2 g1
        go_wp2_with fail
        go_roundw
        case rel => exact ⟨k + 1, I * 2, by rw [HST.out]; go_num, by go_num, by omega, HNI, by omega, hI2, trivial⟩
        case measure => simp [intOf]; omega
    · have hk24 : k = 24 := by
        rcases Nat.lt_or_ge k 24 with h | h
        · have h2 : 2 ^ k ≤ 2 ^ 23 := Nat.pow_le_pow_right (by decide) (by omega)
          have := HPW.out
          omega
        · omega
      subst hk24
      clear HPW hP2 HPI hx1 hx2 hp hm
      go_wp2_with fail
      go_ret
      exact ⟨rfl, ((Below.refl _ _).alloc (Nat.le_refl _) _).alloc (by simp) _⟩
end Go.Proofs.Ytmbekgfbnapelaa
