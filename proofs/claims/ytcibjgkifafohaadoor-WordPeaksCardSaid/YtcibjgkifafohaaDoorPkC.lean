/-
  WALKS OF THE DOCUMENT's: cognateref03.SameInts, SameSpans.
-/
import Derived.Test.YtcibjgkifafohaaDoorPkB
namespace Go.Proofs.YtcibjgkifafohaaDoor
open Go.RowKit Go.Lib
set_option linter.unusedVariables false

set_option maxHeartbeats 4000000 in
set_option maxRecDepth 100000 in
theorem samei_any {pr qr : Option Addr} {br cr ur cs n : Nat} {P : List Nat} (w : World) (hP : n = P.length) (h1 : NsIn pr br 0 P w) (h2 : NsIn qr ur 0 P w) (hn : n ≤ 260) :
    Calls Tryd.prog 32 #[.slice pr n cr, .slice qr n cs] w fun e w' => e = .returned (.bool true) ∧ Below w.heap.size w w' := by
  have H1 := Lib.hid h1; have H2 := Lib.hid h2
  have HP := Lib.hid hP
  clear h1 h2 hP
  go_enter Tryd.func32, Tryd.ntmps32
  go_wp2_with fail
  go_loopw [5] (fun iv wr => ∃ k : Nat, iv = .int .i64 k ∧ k ≤ n ∧ Hid (Below w.heap.size w wr)) (fun iv _ => n - (intOf iv).toNat)
  case atStart => exact ⟨0, rfl, Nat.zero_le _, Below.refl _ _⟩
  case round =>
    obtain ⟨k, rfl, hk, HBr⟩ := hrel
    by_cases hkn : k < n
    · have y1 : (k : Int) < (n : Int) := by omega
      obtain rfl := H1.out.at_ (by have := HP.out; omega)
      obtain rfl := H2.out.at_ (by have := HP.out; omega)
      have a0 := (H1.out.next HBr.out).cells k (by have := HP.out; omega)
      have b0 := (H2.out.next HBr.out).cells k (by have := HP.out; omega)
      rw [Nat.zero_add] at a0 b0
      obtain ⟨x, hx⟩ : ∃ x, x = P.getD k 0 := ⟨_, rfl⟩
      rw [← hx] at a0 b0
      clear hx
      go_wp2_with fail
      go_quiet (fail)
      have HB2 := Lib.hid (below_drewN HBr.out nq)
      go_wp2_with fail
      go_roundw
      case rel => exact ⟨k + 1, by go_num, by omega, HB2⟩
      case measure => simp [intOf]; omega
    · go_wp2_with fail
      go_ret
      exact ⟨rfl, HBr.out⟩

set_option maxHeartbeats 4000000 in
set_option maxRecDepth 100000 in
theorem samep_any {pr qr : Option Addr} {br cr ur cs n : Nat} {F T : Nat → Nat} (w : World) (h1 : SpIn pr br n F T w) (h2 : SpIn qr ur n F T w) (hn : n ≤ 260) :
    Calls Tryd.prog 33 #[.slice pr n cr, .slice qr n cs] w fun e w' => e = .returned (.bool true) ∧ Below w.heap.size w w' := by
  have H1 := Lib.hid h1; have H2 := Lib.hid h2
  clear h1 h2
  go_enter Tryd.func33, Tryd.ntmps33
  go_wp2_with fail
  go_loopw [5] (fun iv wr => ∃ k : Nat, iv = .int .i64 k ∧ k ≤ n ∧ Hid (Below w.heap.size w wr)) (fun iv _ => n - (intOf iv).toNat)
  case atStart => exact ⟨0, rfl, Nat.zero_le _, Below.refl _ _⟩
  case round =>
    obtain ⟨k, rfl, hk, HBr⟩ := hrel
    by_cases hkn : k < n
    · have y1 : (k : Int) < (n : Int) := by omega
      obtain rfl := H1.out.at_ (by omega)
      obtain rfl := H2.out.at_ (by omega)
      have a0 := (H1.out.next HBr.out).cf k hkn
      have a1 := (H1.out.next HBr.out).ct k hkn
      have b0 := (H2.out.next HBr.out).cf k hkn
      have b1 := (H2.out.next HBr.out).ct k hkn
      obtain ⟨x, hx⟩ : ∃ x, x = F k := ⟨_, rfl⟩
      obtain ⟨y, hy⟩ : ∃ x, x = T k := ⟨_, rfl⟩
      rw [← hx] at a0 b0
      rw [← hy] at a1 b1
      clear hx hy
      go_wp2_with fail
      go_quiet (fail)
      have HB2 := Lib.hid (below_drewN HBr.out nq)
      go_wp2_with fail
      go_roundw
      case rel => exact ⟨k + 1, by go_num, by omega, HB2⟩
      case measure => simp [intOf]; omega
    · go_wp2_with fail
      go_ret
      exact ⟨rfl, HBr.out⟩
end Go.Proofs.YtcibjgkifafohaaDoor
