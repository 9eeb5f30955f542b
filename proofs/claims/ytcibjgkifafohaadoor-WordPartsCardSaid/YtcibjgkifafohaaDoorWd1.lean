/-
  WALKS AT ROWS OF RUNES: slices.Index, Contains, Reverse; runes.Text.
-/
import Derived.Test.YtcibjgkifafohaaDoorRsP
import Derived.Test.YtcibjgkifafohaaDoorTextT
namespace Go.Proofs.YtcibjgkifafohaaDoor
open Go.RowKit Go.Lib
set_option linter.unusedVariables false

set_option maxHeartbeats 1000000 in
theorem idx_any (pr : Option Addr) (br r0 cr : Nat) (l : List Int) (x : Int) (w : World) (hR : RsIn pr br r0 l w) :
    Calls Tryd.prog 85 #[.slice pr l.length cr, .int .i32 x] w fun e w' => e = .returned (.int .i64 (idxI l x 0)) ∧ w' = w := by
  have hbig := hR.big
  obtain ⟨n, hn⟩ : ∃ n, n = l.length := ⟨_, rfl⟩
  rw [← hn] at hbig ⊢
  have HR := Lib.hid hR; have HN := Lib.hid hn
  clear hR hn
  go_enter Tryd.func85, Tryd.ntmps85
  go_wp2_with fail
  go_loop [8] (fun iv => ∃ k : Nat, iv = .int .i64 k ∧ k ≤ n ∧ Hid (idxI l x 0 = idxI (l.drop k) x k)) (fun iv => n - (intOf iv).toNat)
  case atStart => exact ⟨0, rfl, Nat.zero_le _, rfl⟩
  case round =>
    obtain ⟨k, rfl, hk, HK⟩ := hrel
    by_cases hkn : k < n
    · have hkl : k < l.length := by rw [← HN.out]; exact hkn
      obtain rfl := HR.out.at_ (by omega)
      have a0 := HR.out.cells k hkl
      have hy := idxI_yes l x k hkl
      have hno := idxI_no l x k hkl
      obtain ⟨q, hq⟩ : ∃ q, q = l.getD k 0 := ⟨_, rfl⟩
      rw [← hq] at a0 hy hno
      by_cases hxq : x = q
      · have HY := Lib.hid (hy hxq)
        have e1 : (x == q) = true := by simp [hxq]
        clear hy hno hq hkl hxq
        go_wp2_with fail
        go_ret
        exact ⟨by rw [HK.out, HY.out] <;> rfl, rfl⟩
      · have HNo := Lib.hid (hno hxq)
        have e1 : (x == q) = false := by simp [hxq]
        clear hy hno hq hkl hxq
        go_wp2_with fail
        go_round
        case rel => exact ⟨k + 1, by go_num, by omega, by show _ = _; rw [HK.out, HNo.out]⟩
        case measure => simp [intOf]; omega
    · go_wp2_with fail
      go_ret
      exact ⟨by rw [HK.out, idxI_end l x k (by rw [← HN.out]; omega)] <;> rfl, rfl⟩

set_option maxHeartbeats 1000000 in
theorem has_rune (pr : Option Addr) (br r0 cr : Nat) (l : List Int) (x : Int) (w : World) (hR : RsIn pr br r0 l w) :
    Calls Tryd.prog 50 #[.slice pr l.length cr, .int .i32 x] w fun e w' => e = .returned (.bool (decide (x ∈ l))) ∧ w' = w := by
  have hi := fun w h => idx_any pr br r0 cr l x w h
  have hm := idxI_mem l x 0
  obtain ⟨n, hn⟩ : ∃ n, n = l.length := ⟨_, rfl⟩
  obtain ⟨I, hI⟩ : ∃ i, i = idxI l x 0 := ⟨_, rfl⟩
  rw [← hn, ← hI] at hi
  rw [← hI] at hm
  rw [← hn]
  have HI := Lib.hid hi; have HR := Lib.hid hR; have HM := Lib.hid hm
  clear hi hR hn hm hI
  go_enter Tryd.func50, Tryd.ntmps50
  go_wp2_with fail
  refine (HI.out _ HR.out).mono ?_
  rintro e w1 ⟨rfl, rfl⟩
  go_wp2_with fail
  go_ret
  have hb : decide (x ∈ l) = decide (0 ≤ I) := by rw [decide_eq_decide]; exact HM.out.symm
  exact ⟨by rw [hb] <;> rfl, rfl⟩
end Go.Proofs.YtcibjgkifafohaaDoor
