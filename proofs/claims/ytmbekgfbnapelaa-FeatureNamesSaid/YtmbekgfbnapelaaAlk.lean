/-
  WALKS: cognateref02.Same of two rows that are one; cognatelaw02.alike of two alphabets that are one.
-/
import Derived.Test.YtmbekgfbnapelaaTwn
import Derived.Deep.QuietTactic
import Derived.BigQuiet
namespace Go.Proofs.Ytmbekgfbnapelaa
open Go.RowKit Go.Lib
set_option linter.unusedVariables false

theorem bdrewN (w : World) (n : Nat) : Below w.heap.size w (w.drewN n) := ⟨rfl, rfl, rfl, Nat.le_refl _, fun _ _ => rfl⟩
set_option maxHeartbeats 2000000 in
set_option maxRecDepth 100000 in
theorem rsame2_any (pr qr : Option Addr) (br r0 cr ur s0 cs : Nat) (l : List Int) (w : World) (hR : RsIn pr br r0 l w) (hS : RsIn qr ur s0 l w) :
    Calls Try.prog 22 #[.slice pr l.length cr, .slice qr l.length cs] w fun e w' => e = .returned (.bool true) ∧ Below w.heap.size w w' := by
  have h1 := fun W (hb : Below w.heap.size w W) => (hR.next hb).cells
  have h2 := fun W (hb : Below w.heap.size w W) => (hS.next hb).cells
  have e1 := hR.at_
  have e2 := hS.at_
  have hbig := hR.big
  obtain ⟨n, hn⟩ : ∃ n, n = l.length := ⟨_, rfl⟩
  rw [← hn] at h1 h2 e1 e2 hbig ⊢
  have H1 := Lib.hid h1; have H2 := Lib.hid h2; have E1 := Lib.hid e1; have E2 := Lib.hid e2
  clear h1 h2 e1 e2 hR hS hn
  go_enter Try.func22, Try.ntmps22
  go_wp2_with fail
  go_loopw [5] (fun iv wr => ∃ k : Nat, iv = .int .i64 (k : Nat) ∧ k ≤ n ∧ Hid (Below w.heap.size w wr)) (fun iv _ => n - (RowKit.intOf iv).toNat)
  case atStart => exact ⟨0, rfl, Nat.zero_le _, Below.refl _ _⟩
  case round =>
    obtain ⟨k, rfl, hk, HB⟩ := hrel
    by_cases hkn : k < n
    · obtain rfl := E1.out (by omega)
      obtain rfl := E2.out (by omega)
      have a0 := H1.out wr HB.out k hkn
      have a1 := H2.out wr HB.out k hkn
      go_wp2_with fail
      go_quiet (fail)
      go_wp2_with fail
      go_roundw
      case rel => exact ⟨k + 1, by go_num, by omega, HB.out.trans ((bdrewN _ _).mono HB.out.size)⟩
      case measure => simp [RowKit.intOf]; omega
    · go_wp2_with fail
      go_ret
      exact ⟨rfl, HB.out⟩

set_option maxHeartbeats 4000000 in
set_option maxRecDepth 100000 in
theorem alike_any (A A' : Al) (w : World) (hA : A.In w) (hA' : A'.In w) (hf : A'.fs = A.fs) (hl : A'.ls = A.ls) :
    Calls Try.prog 24 #[A.v, A'.v] w fun e w' => e = .returned (.bool true) ∧ Below w.heap.size w w' := by
  have f1 := fun W (hb : Below w.heap.size w W) => (hA.F.next hb).cells
  have f2 := fun W (hb : Below w.heap.size w W) => (hA'.F.next hb).cells
  have l1 := fun W (hb : Below w.heap.size w W) j hj => And.intro ((hA.L.next hb).cr j hj) (And.intro ((hA.L.next hb).cp j hj) ((hA.L.next hb).cm j hj))
  have l2 := fun W (hb : Below w.heap.size w W) j hj => And.intro ((hA'.L.next hb).cr j hj) (And.intro ((hA'.L.next hb).cp j hj) ((hA'.L.next hb).cm j hj))
  have a1 := hA.F.at_
  have a2 := hA'.F.at_
  have a3 := hA.L.at_
  have a4 := hA'.L.at_
  have g1 := hA.F.big
  have g2 := hA.L.big
  obtain ⟨pf', bf', f0', cf', fs', pl', bl', l0', cl', ls'⟩ := A'
  simp only [] at hf hl f2 l2 a2 a4
  subst hf
  subst hl
  obtain ⟨pf, bf, f0, cf, fs, pl, bl, l0, cl, ls⟩ := A
  simp only [] at f1 f2 l1 l2 a1 a2 a3 a4 g1 g2
  unfold Al.v
  simp only []
  obtain ⟨nf, hnf⟩ : ∃ n, n = fs.length := ⟨_, rfl⟩
  obtain ⟨nl, hnl⟩ : ∃ n, n = ls.length := ⟨_, rfl⟩
  rw [← hnf] at f1 f2 a1 a2 g1 ⊢
  rw [← hnl] at l1 l2 a3 a4 g2 ⊢
  have F1 := Lib.hid f1; have F2 := Lib.hid f2; have L1 := Lib.hid l1; have L2 := Lib.hid l2; have A1 := Lib.hid a1; have A2 := Lib.hid a2; have A3 := Lib.hid a3; have A4 := Lib.hid a4
  have HB0 := Lib.hid (show Below w.heap.size w ((w.alloc (.cells #[.slice pf nf cf, .slice pl nl cl] 26)).alloc (.cells #[.slice pf' nf cf', .slice pl' nl cl'] 26)) from ((Below.refl _ _).alloc (Nat.le_refl _) _).alloc (by simp) _)
  have HC0 := Lib.hid (show ((w.alloc (.cells #[.slice pf nf cf, .slice pl nl cl] 26)).alloc (.cells #[.slice pf' nf cf', .slice pl' nl cl'] 26)).cell? ⟨w.heap.size, 0, none⟩ = some (.slice pf nf cf) ∧ ((w.alloc (.cells #[.slice pf nf cf, .slice pl nl cl] 26)).alloc (.cells #[.slice pf' nf cf', .slice pl' nl cl'] 26)).cell? ⟨w.heap.size, 1, none⟩ = some (.slice pl nl cl) ∧
    ((w.alloc (.cells #[.slice pf nf cf, .slice pl nl cl] 26)).alloc (.cells #[.slice pf' nf cf', .slice pl' nl cl'] 26)).cell? ⟨w.heap.size + 1, 0, none⟩ = some (.slice pf' nf cf') ∧ ((w.alloc (.cells #[.slice pf nf cf, .slice pl nl cl] 26)).alloc (.cells #[.slice pf' nf cf', .slice pl' nl cl'] 26)).cell? ⟨w.heap.size + 1, 1, none⟩ = some (.slice pl' nl cl') from by simp)
  clear f1 f2 l1 l2 a1 a2 a3 a4 hA hA' hnf hnl
  go_enter Try.func24, Try.ntmps24
  go_wp2_with fail
  go_loopw [5] (fun iv wr => ∃ k : Nat, iv = .int .i64 (k : Nat) ∧ k ≤ nf ∧ Hid (Below w.heap.size w wr) ∧ Hid (wr.cell? ⟨w.heap.size, 0, none⟩ = some (.slice pf nf cf) ∧ wr.cell? ⟨w.heap.size, 1, none⟩ = some (.slice pl nl cl) ∧ wr.cell? ⟨w.heap.size + 1, 0, none⟩ = some (.slice pf' nf cf') ∧ wr.cell? ⟨w.heap.size + 1, 1, none⟩ = some (.slice pl' nl cl'))) (fun iv _ => nf - (RowKit.intOf iv).toNat)
  case atStart => exact ⟨0, rfl, Nat.zero_le _, HB0, HC0⟩
  case round =>
    clear HB0 HC0
    obtain ⟨k, rfl, hk, HB, HC⟩ := hrel
    obtain ⟨c0, c1, c2, c3⟩ := HC.out
    by_cases hkn : k < nf
    · obtain rfl := A1.out (by omega)
      obtain rfl := A2.out (by omega)
      have x0 := F1.out wr HB.out k hkn
      have x1 := F2.out wr HB.out k hkn
      go_wp2_with fail
      go_quiet (fail)
      go_wp2_with fail
      go_roundw
      case rel => exact ⟨k + 1, by go_num, by omega, HB.out.trans ((bdrewN _ _).mono HB.out.size), HC.out⟩
      case measure => simp [RowKit.intOf]; omega
    · go_wp2_with fail
      obtain ⟨wo, hwo⟩ : ∃ wo, wo = wr := ⟨_, rfl⟩
      rw [← hwo] at HB HC c0 c1 c2 c3 ⊢
      clear hwo
      go_loopw [6] (fun iv wr => ∃ k : Nat, iv = .int .i64 (k : Nat) ∧ k ≤ nl ∧ Hid (Below w.heap.size w wr) ∧ Hid (wr.cell? ⟨w.heap.size, 0, none⟩ = some (.slice pf nf cf) ∧ wr.cell? ⟨w.heap.size, 1, none⟩ = some (.slice pl nl cl) ∧ wr.cell? ⟨w.heap.size + 1, 0, none⟩ = some (.slice pf' nf cf') ∧ wr.cell? ⟨w.heap.size + 1, 1, none⟩ = some (.slice pl' nl cl'))) (fun iv _ => nl - (RowKit.intOf iv).toNat)
      case atStart => exact ⟨0, rfl, Nat.zero_le _, HB, HC⟩
      case round =>
        clear HB HC c0 c1 c2 c3
        obtain ⟨j, rfl, hj, HB, HC⟩ := hrel
        obtain ⟨c0, c1, c2, c3⟩ := HC.out
        by_cases hjn : j < nl
        · obtain rfl := A3.out (by omega)
          obtain rfl := A4.out (by omega)
          obtain ⟨x0, x1, x2⟩ := L1.out wr HB.out j hjn
          obtain ⟨y0, y1, y2⟩ := L2.out wr HB.out j hjn
          go_wp2_with fail
          go_quiet (fail)
          go_wp2_with fail
          go_roundw
          case rel => exact ⟨j + 1, by go_num, by omega, HB.out.trans ((bdrewN _ _).mono HB.out.size), HC.out⟩
          case measure => simp [RowKit.intOf]; omega
        · go_wp2_with fail
          go_ret
          exact ⟨rfl, HB.out⟩
end Go.Proofs.Ytmbekgfbnapelaa
