/-
  WALKS: cognateref04.node (made by program: an arm a kind and a field).
-/
import Derived.Test.YtnlojgomildajaaNdQ
namespace Go.Proofs.Ytnlojgomildajaa
open Go.RowKit Go.Lib
set_option linter.unusedVariables false

set_option maxHeartbeats 4000000 in
set_option maxRecDepth 100000 in
theorem rnode_1 (r : Int) (p m : Nat) (pk : Option Addr) (c : Nat) (w : World) (HBB : Hid (Below w.heap.size w (w.alloc (.cells #[.int .u8 1, .int .i32 r, .int .u32 p, .int .u32 m, .slice pk 0 c] 42)))) (B : Bool) (hB : B = ((r == 0 || false) && ((p == 0 && m == 0) || false))) :
    Calls Try.prog 40 #[.agg #[.int .u8 1, .int .i32 r, .int .u32 p, .int .u32 m, .slice pk 0 c]] w fun e w' => e = .returned (.bool B) ∧ Below w.heap.size w w' := by
  by_cases hr : r = 0
  · subst hr
    by_cases hp : p = 0
    · subst hp
      by_cases hm : m = 0
      · subst hm
        obtain rfl : B = true := by rw [hB]; simp
        clear hB
        go_enter Try.func40, Try.ntmps40
        go_wp2_with fail
        go_ret
        exact ⟨rfl, HBB.out⟩
      · have hm2 : ¬ (m : Int) = 0 := by omega
        have hm3 : ((m : Int) == 0) = false := beq_eq_false_iff_ne.2 hm2
        obtain rfl : B = false := by rw [hB]; simp [hm]
        clear hB
        go_enter Try.func40, Try.ntmps40
        go_wp2_with fail
        go_ret
        exact ⟨rfl, HBB.out⟩
    · have hp2 : ¬ (p : Int) = 0 := by omega
      have hp3 : ((p : Int) == 0) = false := beq_eq_false_iff_ne.2 hp2
      obtain rfl : B = false := by rw [hB]; simp [hp]
      clear hB
      go_enter Try.func40, Try.ntmps40
      go_wp2_with fail
      go_ret
      exact ⟨rfl, HBB.out⟩
  · have hr3 : (r == 0) = false := beq_eq_false_iff_ne.2 hr
    obtain rfl : B = false := by rw [hB]; simp [hr]
    clear hB
    go_enter Try.func40, Try.ntmps40
    go_wp2_with fail
    go_ret
    exact ⟨rfl, HBB.out⟩
set_option maxHeartbeats 4000000 in
set_option maxRecDepth 100000 in
theorem rnode_2 (r : Int) (p m : Nat) (pk : Option Addr) (c : Nat) (w : World) (HBB : Hid (Below w.heap.size w (w.alloc (.cells #[.int .u8 2, .int .i32 r, .int .u32 p, .int .u32 m, .slice pk 0 c] 42)))) (B : Bool) (hB : B = ((r == 0 || true) && ((p == 0 && m == 0) || false))) :
    Calls Try.prog 40 #[.agg #[.int .u8 2, .int .i32 r, .int .u32 p, .int .u32 m, .slice pk 0 c]] w fun e w' => e = .returned (.bool B) ∧ Below w.heap.size w w' := by
  by_cases hr : r = 0
  · subst hr
    by_cases hp : p = 0
    · subst hp
      by_cases hm : m = 0
      · subst hm
        obtain rfl : B = true := by rw [hB]; simp
        clear hB
        go_enter Try.func40, Try.ntmps40
        go_wp2_with fail
        go_ret
        exact ⟨rfl, HBB.out⟩
      · have hm2 : ¬ (m : Int) = 0 := by omega
        have hm3 : ((m : Int) == 0) = false := beq_eq_false_iff_ne.2 hm2
        obtain rfl : B = false := by rw [hB]; simp [hm]
        clear hB
        go_enter Try.func40, Try.ntmps40
        go_wp2_with fail
        go_ret
        exact ⟨rfl, HBB.out⟩
    · have hp2 : ¬ (p : Int) = 0 := by omega
      have hp3 : ((p : Int) == 0) = false := beq_eq_false_iff_ne.2 hp2
      obtain rfl : B = false := by rw [hB]; simp [hp]
      clear hB
      go_enter Try.func40, Try.ntmps40
      go_wp2_with fail
      go_ret
      exact ⟨rfl, HBB.out⟩
  · have hr3 : (r == 0) = false := beq_eq_false_iff_ne.2 hr
    by_cases hp : p = 0
    · subst hp
      by_cases hm : m = 0
      · subst hm
        obtain rfl : B = true := by rw [hB]; simp
        clear hB
        go_enter Try.func40, Try.ntmps40
        go_wp2_with fail
        go_ret
        exact ⟨rfl, HBB.out⟩
      · have hm2 : ¬ (m : Int) = 0 := by omega
        have hm3 : ((m : Int) == 0) = false := beq_eq_false_iff_ne.2 hm2
        obtain rfl : B = false := by rw [hB]; simp [hm]
        clear hB
        go_enter Try.func40, Try.ntmps40
        go_wp2_with fail
        go_ret
        exact ⟨rfl, HBB.out⟩
    · have hp2 : ¬ (p : Int) = 0 := by omega
      have hp3 : ((p : Int) == 0) = false := beq_eq_false_iff_ne.2 hp2
      obtain rfl : B = false := by rw [hB]; simp [hp]
      clear hB
      go_enter Try.func40, Try.ntmps40
      go_wp2_with fail
      go_ret
      exact ⟨rfl, HBB.out⟩
set_option maxHeartbeats 4000000 in
set_option maxRecDepth 100000 in
theorem rnode_3 (r : Int) (p m : Nat) (pk : Option Addr) (c : Nat) (w : World) (HBB : Hid (Below w.heap.size w (w.alloc (.cells #[.int .u8 3, .int .i32 r, .int .u32 p, .int .u32 m, .slice pk 0 c] 42)))) (B : Bool) (hB : B = ((r == 0 || false) && ((p == 0 && m == 0) || true))) :
    Calls Try.prog 40 #[.agg #[.int .u8 3, .int .i32 r, .int .u32 p, .int .u32 m, .slice pk 0 c]] w fun e w' => e = .returned (.bool B) ∧ Below w.heap.size w w' := by
  by_cases hr : r = 0
  · subst hr
    by_cases hp : p = 0
    · subst hp
      by_cases hm : m = 0
      · subst hm
        obtain rfl : B = true := by rw [hB]; simp
        clear hB
        go_enter Try.func40, Try.ntmps40
        go_wp2_with fail
        go_ret
        exact ⟨rfl, HBB.out⟩
      · have hm2 : ¬ (m : Int) = 0 := by omega
        have hm3 : ((m : Int) == 0) = false := beq_eq_false_iff_ne.2 hm2
        obtain rfl : B = true := by rw [hB]; simp
        clear hB
        go_enter Try.func40, Try.ntmps40
        go_wp2_with fail
        go_ret
        exact ⟨rfl, HBB.out⟩
    · have hp2 : ¬ (p : Int) = 0 := by omega
      have hp3 : ((p : Int) == 0) = false := beq_eq_false_iff_ne.2 hp2
      obtain rfl : B = true := by rw [hB]; simp
      clear hB
      go_enter Try.func40, Try.ntmps40
      go_wp2_with fail
      go_ret
      exact ⟨rfl, HBB.out⟩
  · have hr3 : (r == 0) = false := beq_eq_false_iff_ne.2 hr
    obtain rfl : B = false := by rw [hB]; simp [hr]
    clear hB
    go_enter Try.func40, Try.ntmps40
    go_wp2_with fail
    go_ret
    exact ⟨rfl, HBB.out⟩
set_option maxHeartbeats 4000000 in
set_option maxRecDepth 100000 in
theorem rnode_4 (r : Int) (p m : Nat) (pk : Option Addr) (c : Nat) (w : World) (HBB : Hid (Below w.heap.size w (w.alloc (.cells #[.int .u8 4, .int .i32 r, .int .u32 p, .int .u32 m, .slice pk 0 c] 42)))) (B : Bool) (hB : B = ((r == 0 || false) && ((p == 0 && m == 0) || false))) :
    Calls Try.prog 40 #[.agg #[.int .u8 4, .int .i32 r, .int .u32 p, .int .u32 m, .slice pk 0 c]] w fun e w' => e = .returned (.bool B) ∧ Below w.heap.size w w' := by
  by_cases hr : r = 0
  · subst hr
    by_cases hp : p = 0
    · subst hp
      by_cases hm : m = 0
      · subst hm
        obtain rfl : B = true := by rw [hB]; simp
        clear hB
        go_enter Try.func40, Try.ntmps40
        go_wp2_with fail
        go_ret
        exact ⟨rfl, HBB.out⟩
      · have hm2 : ¬ (m : Int) = 0 := by omega
        have hm3 : ((m : Int) == 0) = false := beq_eq_false_iff_ne.2 hm2
        obtain rfl : B = false := by rw [hB]; simp [hm]
        clear hB
        go_enter Try.func40, Try.ntmps40
        go_wp2_with fail
        go_ret
        exact ⟨rfl, HBB.out⟩
    · have hp2 : ¬ (p : Int) = 0 := by omega
      have hp3 : ((p : Int) == 0) = false := beq_eq_false_iff_ne.2 hp2
      obtain rfl : B = false := by rw [hB]; simp [hp]
      clear hB
      go_enter Try.func40, Try.ntmps40
      go_wp2_with fail
      go_ret
      exact ⟨rfl, HBB.out⟩
  · have hr3 : (r == 0) = false := beq_eq_false_iff_ne.2 hr
    obtain rfl : B = false := by rw [hB]; simp [hr]
    clear hB
    go_enter Try.func40, Try.ntmps40
    go_wp2_with fail
    go_ret
    exact ⟨rfl, HBB.out⟩
set_option maxHeartbeats 4000000 in
set_option maxRecDepth 100000 in
theorem rnode_5 (r : Int) (p m : Nat) (pk : Option Addr) (c : Nat) (w : World) (HBB : Hid (Below w.heap.size w (w.alloc (.cells #[.int .u8 5, .int .i32 r, .int .u32 p, .int .u32 m, .slice pk 0 c] 42)))) (B : Bool) (hB : B = ((r == 0 || false) && ((p == 0 && m == 0) || false))) :
    Calls Try.prog 40 #[.agg #[.int .u8 5, .int .i32 r, .int .u32 p, .int .u32 m, .slice pk 0 c]] w fun e w' => e = .returned (.bool B) ∧ Below w.heap.size w w' := by
  by_cases hr : r = 0
  · subst hr
    by_cases hp : p = 0
    · subst hp
      by_cases hm : m = 0
      · subst hm
        obtain rfl : B = true := by rw [hB]; simp
        clear hB
        go_enter Try.func40, Try.ntmps40
        go_wp2_with fail
        go_ret
        exact ⟨rfl, HBB.out⟩
      · have hm2 : ¬ (m : Int) = 0 := by omega
        have hm3 : ((m : Int) == 0) = false := beq_eq_false_iff_ne.2 hm2
        obtain rfl : B = false := by rw [hB]; simp [hm]
        clear hB
        go_enter Try.func40, Try.ntmps40
        go_wp2_with fail
        go_ret
        exact ⟨rfl, HBB.out⟩
    · have hp2 : ¬ (p : Int) = 0 := by omega
      have hp3 : ((p : Int) == 0) = false := beq_eq_false_iff_ne.2 hp2
      obtain rfl : B = false := by rw [hB]; simp [hp]
      clear hB
      go_enter Try.func40, Try.ntmps40
      go_wp2_with fail
      go_ret
      exact ⟨rfl, HBB.out⟩
  · have hr3 : (r == 0) = false := beq_eq_false_iff_ne.2 hr
    obtain rfl : B = false := by rw [hB]; simp [hr]
    clear hB
    go_enter Try.func40, Try.ntmps40
    go_wp2_with fail
    go_ret
    exact ⟨rfl, HBB.out⟩
set_option maxHeartbeats 4000000 in
set_option maxRecDepth 100000 in
theorem rnode_6 (r : Int) (p m : Nat) (pk : Option Addr) (n : Nat) (c : Nat) (w : World) (HBB : Hid (Below w.heap.size w (w.alloc (.cells #[.int .u8 6, .int .i32 r, .int .u32 p, .int .u32 m, .slice pk n c] 42)))) (B : Bool) (hB : B = ((r == 0 || false) && ((p == 0 && m == 0) || false))) :
    Calls Try.prog 40 #[.agg #[.int .u8 6, .int .i32 r, .int .u32 p, .int .u32 m, .slice pk n c]] w fun e w' => e = .returned (.bool B) ∧ Below w.heap.size w w' := by
  by_cases hr : r = 0
  · subst hr
    by_cases hp : p = 0
    · subst hp
      by_cases hm : m = 0
      · subst hm
        obtain rfl : B = true := by rw [hB]; simp
        clear hB
        go_enter Try.func40, Try.ntmps40
        go_wp2_with fail
        go_ret
        exact ⟨rfl, HBB.out⟩
      · have hm2 : ¬ (m : Int) = 0 := by omega
        have hm3 : ((m : Int) == 0) = false := beq_eq_false_iff_ne.2 hm2
        obtain rfl : B = false := by rw [hB]; simp [hm]
        clear hB
        go_enter Try.func40, Try.ntmps40
        go_wp2_with fail
        go_ret
        exact ⟨rfl, HBB.out⟩
    · have hp2 : ¬ (p : Int) = 0 := by omega
      have hp3 : ((p : Int) == 0) = false := beq_eq_false_iff_ne.2 hp2
      obtain rfl : B = false := by rw [hB]; simp [hp]
      clear hB
      go_enter Try.func40, Try.ntmps40
      go_wp2_with fail
      go_ret
      exact ⟨rfl, HBB.out⟩
  · have hr3 : (r == 0) = false := beq_eq_false_iff_ne.2 hr
    obtain rfl : B = false := by rw [hB]; simp [hr]
    clear hB
    go_enter Try.func40, Try.ntmps40
    go_wp2_with fail
    go_ret
    exact ⟨rfl, HBB.out⟩
set_option maxHeartbeats 4000000 in
set_option maxRecDepth 100000 in
theorem rnode_7 (r : Int) (p m : Nat) (pk : Option Addr) (n : Nat) (c : Nat) (w : World) (HBB : Hid (Below w.heap.size w (w.alloc (.cells #[.int .u8 7, .int .i32 r, .int .u32 p, .int .u32 m, .slice pk n c] 42)))) (B : Bool) (hB : B = ((r == 0 || false) && ((p == 0 && m == 0) || false))) :
    Calls Try.prog 40 #[.agg #[.int .u8 7, .int .i32 r, .int .u32 p, .int .u32 m, .slice pk n c]] w fun e w' => e = .returned (.bool B) ∧ Below w.heap.size w w' := by
  by_cases hr : r = 0
  · subst hr
    by_cases hp : p = 0
    · subst hp
      by_cases hm : m = 0
      · subst hm
        obtain rfl : B = true := by rw [hB]; simp
        clear hB
        go_enter Try.func40, Try.ntmps40
        go_wp2_with fail
        go_ret
        exact ⟨rfl, HBB.out⟩
      · have hm2 : ¬ (m : Int) = 0 := by omega
        have hm3 : ((m : Int) == 0) = false := beq_eq_false_iff_ne.2 hm2
        obtain rfl : B = false := by rw [hB]; simp [hm]
        clear hB
        go_enter Try.func40, Try.ntmps40
        go_wp2_with fail
        go_ret
        exact ⟨rfl, HBB.out⟩
    · have hp2 : ¬ (p : Int) = 0 := by omega
      have hp3 : ((p : Int) == 0) = false := beq_eq_false_iff_ne.2 hp2
      obtain rfl : B = false := by rw [hB]; simp [hp]
      clear hB
      go_enter Try.func40, Try.ntmps40
      go_wp2_with fail
      go_ret
      exact ⟨rfl, HBB.out⟩
  · have hr3 : (r == 0) = false := beq_eq_false_iff_ne.2 hr
    obtain rfl : B = false := by rw [hB]; simp [hr]
    clear hB
    go_enter Try.func40, Try.ntmps40
    go_wp2_with fail
    go_ret
    exact ⟨rfl, HBB.out⟩
set_option maxHeartbeats 4000000 in
set_option maxRecDepth 100000 in
theorem rnode_8 (r : Int) (p m : Nat) (pk : Option Addr) (c : Nat) (w : World) (HBB : Hid (Below w.heap.size w (w.alloc (.cells #[.int .u8 8, .int .i32 r, .int .u32 p, .int .u32 m, .slice pk 1 c] 42)))) (B : Bool) (hB : B = ((r == 0 || false) && ((p == 0 && m == 0) || false))) :
    Calls Try.prog 40 #[.agg #[.int .u8 8, .int .i32 r, .int .u32 p, .int .u32 m, .slice pk 1 c]] w fun e w' => e = .returned (.bool B) ∧ Below w.heap.size w w' := by
  by_cases hr : r = 0
  · subst hr
    by_cases hp : p = 0
    · subst hp
      by_cases hm : m = 0
      · subst hm
        obtain rfl : B = true := by rw [hB]; simp
        clear hB
        go_enter Try.func40, Try.ntmps40
        go_wp2_with fail
        go_ret
        exact ⟨rfl, HBB.out⟩
      · have hm2 : ¬ (m : Int) = 0 := by omega
        have hm3 : ((m : Int) == 0) = false := beq_eq_false_iff_ne.2 hm2
        obtain rfl : B = false := by rw [hB]; simp [hm]
        clear hB
        go_enter Try.func40, Try.ntmps40
        go_wp2_with fail
        go_ret
        exact ⟨rfl, HBB.out⟩
    · have hp2 : ¬ (p : Int) = 0 := by omega
      have hp3 : ((p : Int) == 0) = false := beq_eq_false_iff_ne.2 hp2
      obtain rfl : B = false := by rw [hB]; simp [hp]
      clear hB
      go_enter Try.func40, Try.ntmps40
      go_wp2_with fail
      go_ret
      exact ⟨rfl, HBB.out⟩
  · have hr3 : (r == 0) = false := beq_eq_false_iff_ne.2 hr
    obtain rfl : B = false := by rw [hB]; simp [hr]
    clear hB
    go_enter Try.func40, Try.ntmps40
    go_wp2_with fail
    go_ret
    exact ⟨rfl, HBB.out⟩
set_option maxHeartbeats 4000000 in
set_option maxRecDepth 100000 in
theorem rnode_9 (r : Int) (p m : Nat) (pk : Option Addr) (c : Nat) (w : World) (HBB : Hid (Below w.heap.size w (w.alloc (.cells #[.int .u8 9, .int .i32 r, .int .u32 p, .int .u32 m, .slice pk 1 c] 42)))) (B : Bool) (hB : B = ((r == 0 || false) && ((p == 0 && m == 0) || false))) :
    Calls Try.prog 40 #[.agg #[.int .u8 9, .int .i32 r, .int .u32 p, .int .u32 m, .slice pk 1 c]] w fun e w' => e = .returned (.bool B) ∧ Below w.heap.size w w' := by
  by_cases hr : r = 0
  · subst hr
    by_cases hp : p = 0
    · subst hp
      by_cases hm : m = 0
      · subst hm
        obtain rfl : B = true := by rw [hB]; simp
        clear hB
        go_enter Try.func40, Try.ntmps40
        go_wp2_with fail
        go_ret
        exact ⟨rfl, HBB.out⟩
      · have hm2 : ¬ (m : Int) = 0 := by omega
        have hm3 : ((m : Int) == 0) = false := beq_eq_false_iff_ne.2 hm2
        obtain rfl : B = false := by rw [hB]; simp [hm]
        clear hB
        go_enter Try.func40, Try.ntmps40
        go_wp2_with fail
        go_ret
        exact ⟨rfl, HBB.out⟩
    · have hp2 : ¬ (p : Int) = 0 := by omega
      have hp3 : ((p : Int) == 0) = false := beq_eq_false_iff_ne.2 hp2
      obtain rfl : B = false := by rw [hB]; simp [hp]
      clear hB
      go_enter Try.func40, Try.ntmps40
      go_wp2_with fail
      go_ret
      exact ⟨rfl, HBB.out⟩
  · have hr3 : (r == 0) = false := beq_eq_false_iff_ne.2 hr
    obtain rfl : B = false := by rw [hB]; simp [hr]
    clear hB
    go_enter Try.func40, Try.ntmps40
    go_wp2_with fail
    go_ret
    exact ⟨rfl, HBB.out⟩

set_option maxHeartbeats 4000000 in
set_option maxRecDepth 100000 in
theorem rnode_any (k : Nat) (r : Int) (p m : Nat) (pk : Option Addr) (n c : Nat) (w : World) :
    Calls Try.prog 40 #[.agg #[.int .u8 k, .int .i32 r, .int .u32 p, .int .u32 m, .slice pk n c]] w fun e w' => e = .returned (.bool (ndB k r p m n)) ∧ Below w.heap.size w w' := by
  have HBB := Lib.hid (show Below w.heap.size w (w.alloc (.cells #[.int .u8 k, .int .i32 r, .int .u32 p, .int .u32 m, .slice pk n c] 42)) from (Below.refl _ _).alloc (Nat.le_refl _) _)
  by_cases hk : k = 1 ∨ k = 2 ∨ k = 3 ∨ k = 4 ∨ k = 5 ∨ k = 6 ∨ k = 7 ∨ k = 8 ∨ k = 9
  · by_cases hbad : ((k = 8 ∨ k = 9) ∧ ¬ n = 1) ∨ (k ≤ 5 ∧ ¬ n = 0)
    · have hb : ndB k r p m n = false := by
        unfold ndB
        rcases hbad with ⟨h1, h2⟩ | ⟨h1, h2⟩
        · rw [if_neg (by omega), if_pos h1, beq_eq_false_iff_ne.2 h2, Bool.and_false]
        · rw [if_neg (by omega), if_neg (by omega), if_pos (by omega), beq_eq_false_iff_ne.2 h2, Bool.and_false]
      rw [hb]
      clear hb
      have n0 : (k = 8 ∨ k = 9) → ¬ (n : Int) = 1 := by omega
      have n1 : k ≤ 5 → ¬ (n : Int) = 0 := by omega
      rcases hk with rfl | rfl | rfl | rfl | rfl | rfl | rfl | rfl | rfl
      all_goals first | (exfalso; omega) | skip
      all_goals first | have n2 := n0 (by omega) | have n2 := n1 (by omega)
      all_goals clear n0 n1 hbad
      all_goals
        go_enter Try.func40, Try.ntmps40
        go_wp2_with fail
        go_ret
        exact ⟨rfl, HBB.out⟩
    · have n0 : (k = 8 ∨ k = 9) → n = 1 := by omega
      have n1 : k ≤ 5 → n = 0 := by omega
      clear hbad
      rcases hk with rfl | rfl | rfl | rfl | rfl | rfl | rfl | rfl | rfl
      · obtain rfl := n1 (by omega)
        exact rnode_1 r p m pk c w HBB _ (by simp [ndB])
      · obtain rfl := n1 (by omega)
        exact rnode_2 r p m pk c w HBB _ (by simp [ndB])
      · obtain rfl := n1 (by omega)
        exact rnode_3 r p m pk c w HBB _ (by simp [ndB])
      · obtain rfl := n1 (by omega)
        exact rnode_4 r p m pk c w HBB _ (by simp [ndB])
      · obtain rfl := n1 (by omega)
        exact rnode_5 r p m pk c w HBB _ (by simp [ndB])
      · skip
        exact rnode_6 r p m pk n c w HBB _ (by simp [ndB])
      · skip
        exact rnode_7 r p m pk n c w HBB _ (by simp [ndB])
      · obtain rfl := n0 (by omega)
        exact rnode_8 r p m pk c w HBB _ (by simp [ndB])
      · obtain rfl := n0 (by omega)
        exact rnode_9 r p m pk c w HBB _ (by simp [ndB])
  · have hb : ndB k r p m n = false := by
      unfold ndB
      rw [if_neg (by omega), if_neg (by omega), if_neg (by omega), Bool.and_false]
    rw [hb]
    obtain ⟨a1, a2, a3, a4, a5, a6, a7, a8, a9⟩ : ¬ k = 1 ∧ ¬ k = 2 ∧ ¬ k = 3 ∧ ¬ k = 4 ∧ ¬ k = 5 ∧ ¬ k = 6 ∧ ¬ k = 7 ∧ ¬ k = 8 ∧ ¬ k = 9 := by omega
    clear hb hk
    go_enter Try.func40, Try.ntmps40
    go_wp2_with fail
    go_ret
    exact ⟨rfl, HBB.out⟩
theorem rnode_m (m : NdM) (w : World) : Calls Try.prog 40 #[m.v] w fun e w' => e = .returned (.bool (nodeB m.nd)) ∧ Below w.heap.size w w' := by
  rw [nodeB_eq]
  exact rnode_any _ _ _ _ _ _ _ w
end Go.Proofs.Ytnlojgomildajaa
