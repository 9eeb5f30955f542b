/-
  slices.Sort AT []rune, the first half of its functions: cmp.Less, reverseRangeOrdered, insertionSortOrdered. A contract here goes from a world in which the row holds d to one in which it holds what the library's plain function makes of d ('SW': the word of the library for such worlds).
  slices.Sort AT []rune: siftDownOrdered, heapSortOrdered. (Laid by program: the tail of siftDown's round stands once for each way that comes to it.)
  slices.Sort AT []rune: partitionEqualOrdered, partitionOrdered. (Laid by program: a scan's text stands once for each way that comes to it.)
-/
import Derived.Test.YtmechinlaladiaaDoorProg
import Derived.Sort.AssemblyPlain
import Derived.Sort.WalkC4
import Derived.Sort.WalkA6
import Derived.Sort.WalkB3
import Derived.Shelf.SlSortCmp.Kit1
import Derived.Deep.LoopGhost
import Derived.Lib.Hide
namespace Go.Proofs.YtmechinlaladiaaDoor
open Go.RowKit Go.Lib Go.Sort
set_option linter.unusedVariables false

/-- How a rune lies in a cell. -/
abbrev E32 (x : Int) : Value := Value.int .i32 x
theorem oneE32 : OneCell E32 := fun _ => rfl

/-- The row: its base world, its cells, that it is an old block. -/
abbrev RowR (w0 : World) (blk off : Nat) (d0 : Array Int) : Prop := Row1 E32 w0 blk off d0
/-- A world of the sort's in which the row holds d. -/
abbrev SR (w0 : World) (blk off : Nat) (d : Array Int) (W : World) : Prop := SW E32 w0 blk off d W

theorem SR.cells {w0 W : World} {blk off n : Nat} {d0 d : Array Int} (S : SR w0 blk off d W) (R : RowR w0 blk off d0) (hs : d.size = d0.size) (hn : d.size = n) {G : Nat → Int} (hG : ∀ t, G t = d[t]!) :
    ∀ t, t < n → W.cell? ⟨blk, off + t, none⟩ = some (.int .i32 (G t)) := fun t ht => by rw [hG]; exact SW.c1 S R hs t (by omega)
theorem SR.free {w0 W : World} {blk off n : Nat} {d0 d : Array Int} (S : SR w0 blk off d W) (R : RowR w0 blk off d0) (hs : d.size = d0.size) (hn : d.size = n) :
    ∀ t, t < n → W.frozen? ⟨blk, off + t, none⟩ = false := fun t ht => SW.f1 S R hs t (by omega)

/-! ### cmp.Less -/
set_option maxHeartbeats 400000 in
theorem isNaN_any (x : Int) (w : World) : Calls Tryd.prog 99 #[.int .i32 x] w fun e w' => e = .returned (.bool false) ∧ w' = w := by
  go_enter Tryd.func99, Tryd.ntmps99
  go_wp2
  go_ret
  exact ⟨by simp, rfl⟩
set_option maxHeartbeats 400000 in
theorem cmpless_any (x y : Int) (w : World) : Calls Tryd.prog 89 #[.int .i32 x, .int .i32 y] w fun e w' => e = .returned (.bool (ltInt x y)) ∧ w' = w := by
  go_enter Tryd.func89, Tryd.ntmps89
  go_wp2_with (go_at_call 99; refine (isNaN_any _ _).mono ?_; rintro e w' ⟨rfl, rfl⟩)
  go_ret
  exact ⟨rfl, rfl⟩

/-! ### reverseRangeOrdered -/
set_option maxHeartbeats 1600000 in
set_option maxRecDepth 100000 in
theorem rev_any (blk off cap a b n : Nat) (d0 d : Array Int) (w0 w : World) (R : RowR w0 blk off d0) (S : SR w0 blk off d w) (hd0 : d0.size = n) (hd : d.size = n) (hab : a ≤ b) (hb : b ≤ n) (hsz : n < 4611686018427387904) :
    Calls Tryd.prog 87 #[.slice (some ⟨blk, off, none⟩) n cap, .int .i64 a, .int .i64 b] w fun e w' => e = .returned (.tuple #[]) ∧ SR w0 blk off (reverseRange d a b) w' := by
  have S0 := Lib.hid S; have HD := Lib.hid hd; have HD0 := Lib.hid hd0
  clear S hd hd0
  go_enter Tryd.func87, Tryd.ntmps87
  go_wp2
  go_loopg [6, 7] (b - a) (fun k s6 s7 wr => ∃ (i jn : Nat) (jz : Int) (dk : Array Int), s6 = .int .i64 i ∧ s7 = .int .i64 jz ∧ ((i : Int) < jz → jz = jn ∧ jn < n) ∧ (¬ (i : Int) < jz → ¬ i < jn) ∧ jn - i ≤ k ∧
    Hid (dk.size = n) ∧ Hid (SR w0 blk off dk wr) ∧ Hid (reverseLoop i jn dk = reverseLoop a (b - 1) d))
  case atStart => exact ⟨a, b - 1, (b : Int) - 1, d, rfl, rfl, fun h => ⟨by omega, by omega⟩, fun h => by omega, by omega, HD, S0, rfl⟩
  case round =>
    obtain ⟨i, jn, jz, dk, rfl, rfl, h1, h2, hk, HS, S1, HE⟩ := hrel
    by_cases hlt : (i : Int) < jz
    · obtain ⟨rfl, hjn⟩ := h1 hlt
      have hij : i < jn := by omega
      clear h1 h2
      obtain ⟨G, hG⟩ : ∃ G : Nat → Int, ∀ t, G t = dk[t]! := ⟨fun t => dk[t]!, fun _ => rfl⟩
      have ci := SR.cells S1.out R (by rw [HS.out, HD0.out]) HS.out hG
      have fi := SR.free S1.out R (by rw [HS.out, HD0.out]) HS.out
      have HG := Lib.hid hG
      clear hG S0
      go_wp2_with fail
      go_region
      go_wp2
      go_roundg (jn - 1 - (i + 1))
      case measure => omega
      case rel =>
        have he := HE.out
        rw [reverseLoop, if_pos hij] at he
        exact ⟨i + 1, jn - 1, (jn : Int) - 1, swp dk i jn, by simp, rfl, fun h => ⟨by omega, by omega⟩, fun h => by omega, Nat.le_refl _, (show _ = _ from by rw [size_swp]; exact HS.out),
          (show SR _ _ _ _ _ from by rw [HG.out, HG.out]; exact SW.swapped S1.out R i jn (by rw [HS.out]; omega) (by rw [HS.out]; omega)), he⟩
    · have hnot := h2 hlt
      clear h1 h2
      go_wp2
      go_end0
      refine ⟨rfl, ?_⟩
      have he := HE.out
      rw [reverseLoop, if_neg hnot] at he
      rw [reverseRange, ← he]
      exact S1.out

/-! ### insertionSortOrdered -/
set_option maxHeartbeats 1600000 in
set_option maxRecDepth 100000 in
theorem ins_any (blk off cap a b n : Nat) (d0 d : Array Int) (w0 w : World) (R : RowR w0 blk off d0) (S : SR w0 blk off d w) (hd0 : d0.size = n) (hd : d.size = n) (hab : a ≤ b) (hb : b ≤ n) (hsz : n < 4611686018427387904) :
    Calls Tryd.prog 83 #[.slice (some ⟨blk, off, none⟩) n cap, .int .i64 a, .int .i64 b] w fun e w' => e = .returned (.tuple #[]) ∧ SR w0 blk off (insertionSort ltInt d a b) w' := by
  have S0 := Lib.hid S; have HD := Lib.hid hd; have HD0 := Lib.hid hd0
  clear S hd hd0
  go_enter Tryd.func83, Tryd.ntmps83
  go_wp2
  go_loopg [6] (b - a) (fun g1 vi wr => ∃ (i : Nat) (dk : Array Int), vi = .int .i64 i ∧ a < i ∧ i ≤ b + 1 ∧ b + 1 - i ≤ g1 + 1 ∧ Hid (dk.size = n) ∧ Hid (SR w0 blk off dk wr) ∧ Hid (insOuter ltInt a b i dk = insOuter ltInt a b (a + 1) d))
  case atStart => exact ⟨a + 1, d, by go_num, by omega, by omega, by omega, HD, S0, rfl⟩
  case round =>
    clear S0
    obtain ⟨i, dk, rfl, hai, hib, hg1, HS1, S1, HO⟩ := hrel
    by_cases hlt : i < b
    · have hltz : (i : Int) < (b : Int) := by omega
      go_wp2
      go_loopg [7] i (fun g2 vj wr2 => ∃ (j : Nat) (dj : Array Int), vj = .int .i64 j ∧ a ≤ j ∧ j ≤ i ∧ j ≤ g2 ∧ Hid (dj.size = n) ∧ Hid (SR w0 blk off dj wr2) ∧ Hid (insInner ltInt a j dj = insInner ltInt a i dk))
      case atStart => exact ⟨i, dk, rfl, by omega, Nat.le_refl _, Nat.le_refl _, HS1, S1, rfl⟩
      case round =>
        clear S1
        obtain ⟨j, dj, rfl, haj, hji, hg2, HS, SJ, HI⟩ := hrel
        have out : (j ≤ a ∨ ltInt dj[j]! dj[j - 1]! = false) → Hid (insOuter ltInt a b (i + 1) dj = insOuter ltInt a b (a + 1) d) := fun hs => by
          show _ = _
          rw [← HO.out, insOuter_go _ _ _ _ _ hlt, ← HI.out, insInner_stop _ _ _ _ hs]
        have OUT := Lib.hid out
        clear out
        obtain ⟨G, hG⟩ : ∃ G : Nat → Int, ∀ t, G t = dj[t]! := ⟨fun t => dj[t]!, fun _ => rfl⟩
        have cw := SR.cells SJ.out R (by rw [HS.out, HD0.out]) HS.out hG
        have fw := SR.free SJ.out R (by rw [HS.out, HD0.out]) HS.out
        have HG := Lib.hid hG
        clear hG
        by_cases hja : a < j
        · go_wp2_with fail
          go_big_quiet (first | (go_at_call 89; refine Calls.quiet_of_same (cmpless_any _ _ _)))
          go_wp2_with fail
          · have hl : ltInt (G j) (G (j - 1)) = true := by assumption
            go_region
            all_goals go_wp2
            go_roundg (j - 1)
            case measure => omega
            case rel =>
              refine ⟨j - 1, swp dj j (j - 1), by congr 1; omega, by omega, by omega, Nat.le_refl _, (show _ = _ from by rw [size_swp]; exact HS.out), (show SR _ _ _ _ _ from ?_), (show _ = _ from ?_)⟩
              · have h := SW.swapped (SW.drewN SJ.out nq) R j (j - 1) (by rw [HS.out]; omega) (by rw [HS.out]; omega)
                rw [← HG.out, ← HG.out] at h
                exact h
              · rw [← HI.out, insInner_go ltInt a j dj hja (by rw [← HG.out, ← HG.out]; exact hl)]
          · have hl : ltInt (G j) (G (j - 1)) = false := by assumption
            go_roundg (b - (i + 1))
            case measure => omega
            case rel => exact ⟨i + 1, dj, by go_num, by omega, by omega, by omega, HS, SW.drewN SJ.out nq, OUT.out (Or.inr (by rw [← HG.out, ← HG.out]; exact hl))⟩
        · have hjaz : decide ((j : Int) > (a : Int)) = false := decide_eq_false (by omega)
          go_wp2_with fail
          go_big_quiet (first | (go_at_call 89; refine Calls.quiet_of_same (cmpless_any _ _ _)))
          go_wp2
          go_roundg (b - (i + 1))
          case measure => omega
          case rel => exact ⟨i + 1, dj, by go_num, by omega, by omega, by omega, HS, SW.drewN SJ.out nq, OUT.out (Or.inl (by omega))⟩
    · have hltz : ¬ (i : Int) < (b : Int) := by omega
      go_wp2
      go_end0
      exact ⟨rfl, by unfold insertionSort; rw [← HO.out, insOuter_stop _ _ _ _ _ hlt]; exact S1.out⟩

end Go.Proofs.YtmechinlaladiaaDoor
namespace Go.Proofs.YtmechinlaladiaaDoor
open Go.RowKit Go.Lib Go.Sort
set_option linter.unusedVariables false

set_option maxHeartbeats 3200000 in
set_option maxRecDepth 100000 in
theorem sift_any (blk off cap lo hi first n : Nat) (d0 d : Array Int) (w0 w : World) (R : RowR w0 blk off d0) (S : SR w0 blk off d w) (hd0 : d0.size = n) (hd : d.size = n) (hlo : lo ≤ hi) (hb : first + hi ≤ n) (hsz : n < 4611686018427387904) :
    Calls Tryd.prog 94 #[.slice (some ⟨blk, off, none⟩) n cap, .int .i64 lo, .int .i64 hi, .int .i64 first] w fun e w' => e = .returned (.tuple #[]) ∧ SR w0 blk off (siftDown ltInt hi first lo d) w' := by
  have S0 := Lib.hid S; have HD := Lib.hid hd; have HD0 := Lib.hid hd0
  clear S hd hd0
  go_enter Tryd.func94, Tryd.ntmps94
  go_wp2
  go_loopg [8] (hi - lo) (fun k s8 wr => ∃ (root : Nat) (dk : Array Int), s8 = .int .i64 root ∧ root ≤ hi ∧ hi - root ≤ k ∧ Hid (dk.size = n) ∧ Hid (SR w0 blk off dk wr) ∧ Hid (siftDown ltInt hi first root dk = siftDown ltInt hi first lo d))
  case atStart => exact ⟨lo, d, rfl, hlo, Nat.le_refl _, HD, S0, rfl⟩
  case round =>
    clear S0
    obtain ⟨root, dk, rfl, hr, hk, HS, AS, HE⟩ := hrel
    by_cases h0 : hi ≤ 2 * root + 1
    · have h0z : (hi : Int) ≤ 2 * (root : Int) + 1 := by omega
      go_wp2
      go_end0
      refine ⟨rfl, ?_⟩
      rw [← HE.out, sd_end ltInt dk h0]
      exact AS.out
    · have h0z : ¬ ((hi : Int) ≤ 2 * (root : Int) + 1) := by omega
      obtain ⟨G, hG⟩ : ∃ G : Nat → Int, ∀ t, G t = dk[t]! := ⟨fun t => dk[t]!, fun _ => rfl⟩
      have HG := Lib.hid hG
      clear hG
      have cw := SR.cells AS.out R (by rw [HS.out, HD0.out]) HS.out HG.out
      have fw := SR.free AS.out R (by rw [HS.out, HD0.out]) HS.out
      by_cases h1 : 2 * root + 2 < hi
      · have h1z : 2 * (root : Int) + 1 + 1 < (hi : Int) := by omega
        go_wp2_with fail
        go_big_quiet (first | (go_at_call 89; refine Calls.quiet_of_same (cmpless_any _ _ _)))
        go_wp2_with fail
        · have hL : ltInt (G (first + 2 * root + 1)) (G (first + 2 * root + 2)) = true := by assumption
          have HL : Hid (ltInt dk[first + (2 * root + 1)]! dk[first + (2 * root + 2)]! = true) := (show _ = _ from by rw [← HG.out, ← HG.out]; simpa [Nat.add_assoc] using hL)
          have AS1 := Lib.hid (SW.drewN AS.out nq)
          clear hL cw fw AS
          generalize wr.drewN nq = W1 at AS1 ⊢
          clear nq
          have AS := AS1
          clear AS1
          have cw := SR.cells AS.out R (by rw [HS.out, HD0.out]) HS.out HG.out
          have fw := SR.free AS.out R (by rw [HS.out, HD0.out]) HS.out
          go_big_quiet (first | (go_at_call 89; refine Calls.quiet_of_same (cmpless_any _ _ _)))
          go_wp2_with fail
          · have hS : ltInt (G (first + root)) (G (first + 2 * root + 2)) = false := by
              have : (!ltInt (G (first + root)) (G (first + 2 * root + 2))) = true := by assumption
              simpa [Nat.add_assoc] using this
            rw [HG.out, HG.out] at hS
            (try simp only [Exit.inBlock, Exit.then]); refine bodyPost_ret (results_none rfl _ _ _) rfl ?_
            refine ⟨rfl, ?_⟩
            rw [← HE.out, sd_right_stop ltInt dk h1 HL.out hS]
            exact SW.drewN AS.out nq
          · have hL2 : ltInt (G (first + root)) (G (first + 2 * root + 2)) = true := by
              have : (!ltInt (G (first + root)) (G (first + 2 * root + 2))) = false := by assumption
              simpa [Nat.add_assoc] using this
            rw [HG.out, HG.out] at hL2
            have AS2 := Lib.hid (SW.drewN AS.out nq)
            have HL2 := Lib.hid hL2
            clear cw fw AS hL2
            generalize W1.drewN nq = W2 at AS2 ⊢
            have cw := SR.cells AS2.out R (by rw [HS.out, HD0.out]) HS.out HG.out
            have fw := SR.free AS2.out R (by rw [HS.out, HD0.out]) HS.out
            go_region
            go_wp2
            go_roundg (hi - (2 * root + 2))
            case measure => omega
            case rel =>
              refine ⟨2 * root + 2, swp dk (first + root) (first + (2 * root + 2)), by simp <;> omega, by omega, Nat.le_refl _, (show _ = _ from by rw [size_swp]; exact HS.out), (show SR _ _ _ _ _ from ?_), (show _ = _ from ?_)⟩
              · have h := SW.swapped AS2.out R (first + root) (first + (2 * root + 2)) (by rw [HS.out]; omega) (by rw [HS.out]; omega)
                rw [← HG.out, ← HG.out] at h
                first | exact h | (simpa [Nat.add_assoc] using h)
              · rw [← HE.out, sd_right_go ltInt dk h1 HL.out HL2.out]
        · have hL : ltInt (G (first + 2 * root + 1)) (G (first + 2 * root + 2)) = false := by assumption
          have HL : Hid (ltInt dk[first + (2 * root + 1)]! dk[first + (2 * root + 2)]! = false) := (show _ = _ from by rw [← HG.out, ← HG.out]; simpa [Nat.add_assoc] using hL)
          have AS1 := Lib.hid (SW.drewN AS.out nq)
          clear hL cw fw AS
          generalize wr.drewN nq = W1 at AS1 ⊢
          clear nq
          have AS := AS1
          clear AS1
          have cw := SR.cells AS.out R (by rw [HS.out, HD0.out]) HS.out HG.out
          have fw := SR.free AS.out R (by rw [HS.out, HD0.out]) HS.out
          go_big_quiet (first | (go_at_call 89; refine Calls.quiet_of_same (cmpless_any _ _ _)))
          go_wp2_with fail
          · have hS : ltInt (G (first + root)) (G (first + 2 * root + 1)) = false := by
              have : (!ltInt (G (first + root)) (G (first + 2 * root + 1))) = true := by assumption
              simpa [Nat.add_assoc] using this
            rw [HG.out, HG.out] at hS
            (try simp only [Exit.inBlock, Exit.then]); refine bodyPost_ret (results_none rfl _ _ _) rfl ?_
            refine ⟨rfl, ?_⟩
            rw [← HE.out, sd_left_stop ltInt dk (by omega) (fun _ => HL.out) hS]
            exact SW.drewN AS.out nq
          · have hL2 : ltInt (G (first + root)) (G (first + 2 * root + 1)) = true := by
              have : (!ltInt (G (first + root)) (G (first + 2 * root + 1))) = false := by assumption
              simpa [Nat.add_assoc] using this
            rw [HG.out, HG.out] at hL2
            have AS2 := Lib.hid (SW.drewN AS.out nq)
            have HL2 := Lib.hid hL2
            clear cw fw AS hL2
            generalize W1.drewN nq = W2 at AS2 ⊢
            have cw := SR.cells AS2.out R (by rw [HS.out, HD0.out]) HS.out HG.out
            have fw := SR.free AS2.out R (by rw [HS.out, HD0.out]) HS.out
            go_region
            go_wp2
            go_roundg (hi - (2 * root + 1))
            case measure => omega
            case rel =>
              refine ⟨2 * root + 1, swp dk (first + root) (first + (2 * root + 1)), by simp <;> omega, by omega, Nat.le_refl _, (show _ = _ from by rw [size_swp]; exact HS.out), (show SR _ _ _ _ _ from ?_), (show _ = _ from ?_)⟩
              · have h := SW.swapped AS2.out R (first + root) (first + (2 * root + 1)) (by rw [HS.out]; omega) (by rw [HS.out]; omega)
                rw [← HG.out, ← HG.out] at h
                first | exact h | (simpa [Nat.add_assoc] using h)
              · rw [← HE.out, sd_left_go ltInt dk (by omega) (fun _ => HL.out) HL2.out]
      · have h1z : decide (2 * (root : Int) + 1 + 1 < (hi : Int)) = false := decide_eq_false (by omega)
        go_wp2_with fail
        go_big_quiet (first | (go_at_call 89; refine Calls.quiet_of_same (cmpless_any _ _ _)))
        go_wp2_with fail
        have AS1 := Lib.hid (SW.drewN AS.out nq)
        clear cw fw AS
        generalize wr.drewN nq = W1 at AS1 ⊢
        clear nq
        have AS := AS1
        clear AS1
        have cw := SR.cells AS.out R (by rw [HS.out, HD0.out]) HS.out HG.out
        have fw := SR.free AS.out R (by rw [HS.out, HD0.out]) HS.out
        go_big_quiet (first | (go_at_call 89; refine Calls.quiet_of_same (cmpless_any _ _ _)))
        go_wp2_with fail
        · have hS : ltInt (G (first + root)) (G (first + 2 * root + 1)) = false := by
            have : (!ltInt (G (first + root)) (G (first + 2 * root + 1))) = true := by assumption
            simpa [Nat.add_assoc] using this
          rw [HG.out, HG.out] at hS
          (try simp only [Exit.inBlock, Exit.then]); refine bodyPost_ret (results_none rfl _ _ _) rfl ?_
          refine ⟨rfl, ?_⟩
          rw [← HE.out, sd_left_stop ltInt dk (by omega) (fun h => absurd h h1) hS]
          exact SW.drewN AS.out nq
        · have hL2 : ltInt (G (first + root)) (G (first + 2 * root + 1)) = true := by
            have : (!ltInt (G (first + root)) (G (first + 2 * root + 1))) = false := by assumption
            simpa [Nat.add_assoc] using this
          rw [HG.out, HG.out] at hL2
          have AS2 := Lib.hid (SW.drewN AS.out nq)
          have HL2 := Lib.hid hL2
          clear cw fw AS hL2
          generalize W1.drewN nq = W2 at AS2 ⊢
          have cw := SR.cells AS2.out R (by rw [HS.out, HD0.out]) HS.out HG.out
          have fw := SR.free AS2.out R (by rw [HS.out, HD0.out]) HS.out
          go_region
          go_wp2
          go_roundg (hi - (2 * root + 1))
          case measure => omega
          case rel =>
            refine ⟨2 * root + 1, swp dk (first + root) (first + (2 * root + 1)), by simp <;> omega, by omega, Nat.le_refl _, (show _ = _ from by rw [size_swp]; exact HS.out), (show SR _ _ _ _ _ from ?_), (show _ = _ from ?_)⟩
            · have h := SW.swapped AS2.out R (first + root) (first + (2 * root + 1)) (by rw [HS.out]; omega) (by rw [HS.out]; omega)
              rw [← HG.out, ← HG.out] at h
              first | exact h | (simpa [Nat.add_assoc] using h)
            · rw [← HE.out, sd_left_go ltInt dk (by omega) (fun h => absurd h h1) HL2.out]

/-! ### heapSortOrdered -/
theorem size_heapBuild (hi F : Nat) : ∀ (k : Nat) (d : Array Int), (heapBuild ltInt hi F k d).size = d.size
  | 0, _ => rfl
  | k + 1, d => by rw [heapBuild, size_heapBuild hi F k]; exact size_siftDown ltInt _ _ _ _ _ (Nat.le_refl _)

set_option maxHeartbeats 3200000 in
set_option maxRecDepth 100000 in
theorem heap_any (blk off cap a b n : Nat) (d0 d : Array Int) (w0 w : World) (R : RowR w0 blk off d0) (S : SR w0 blk off d w) (hd0 : d0.size = n) (hd : d.size = n) (hab : a ≤ b) (hb : b ≤ n) (hsz : n < 4611686018427387904) :
    Calls Tryd.prog 84 #[.slice (some ⟨blk, off, none⟩) n cap, .int .i64 a, .int .i64 b] w fun e w' => e = .returned (.tuple #[]) ∧ SR w0 blk off (heapSort ltInt d a b) w' := by
  have S0 := Lib.hid S; have HD := Lib.hid hd; have HD0 := Lib.hid hd0
  clear S hd hd0
  have ecast : ((b - a : Nat) : Int) = (b : Int) - (a : Int) := by omega
  have EC := Lib.hid ecast
  clear ecast
  go_enter Tryd.func84, Tryd.ntmps84
  go_wp2
  go_loopg [9] ((b - a - 1) / 2 + 1) (fun k s9 wr => s9 = .int .i64 ((k : Int) - 1) ∧ k ≤ (b - a - 1) / 2 + 1 ∧ ∃ (dk : Array Int), Hid (dk.size = n) ∧ Hid (SR w0 blk off dk wr) ∧ Hid (heapBuild ltInt (b - a) a k dk = heapBuild ltInt (b - a) a ((b - a - 1) / 2 + 1) d))
  case atStart => exact ⟨by rw [half_start hab], Nat.le_refl _, d, HD, S0, rfl⟩
  case round =>
    clear S0
    obtain ⟨rfl, hkk, dk, HS, AS, HE⟩ := hrel
    cases gk with
    | zero =>
      have HB : Hid (dk = heapBuild ltInt (b - a) a ((b - a - 1) / 2 + 1) d) := HE.out
      clear HE hkk
      go_wp2
      go_loopg [10] (b - a) (fun k s10 wr2 => s10 = .int .i64 ((k : Int) - 1) ∧ k ≤ b - a ∧ ∃ (dj : Array Int), Hid (dj.size = n) ∧ Hid (SR w0 blk off dj wr2) ∧ Hid (heapPop ltInt a k dj = heapPop ltInt a (b - a) dk))
      case atStart => exact ⟨by rw [EC.out], Nat.le_refl _, dk, HS, AS, rfl⟩
      case round =>
        clear AS
        obtain ⟨rfl, hkk, dj, HSj, AJ, HEj⟩ := hrel
        cases gk with
        | zero =>
          go_wp2
          go_end0
          refine ⟨rfl, ?_⟩
          have e : dj = heapSort ltInt d a b := by rw [heapSort, ← HB.out, ← HEj.out]; rfl
          rw [← e]
          exact AJ.out
        | succ k =>
          obtain ⟨G, hG⟩ : ∃ G : Nat → Int, ∀ t, G t = dj[t]! := ⟨fun t => dj[t]!, fun _ => rfl⟩
          have cw := SR.cells AJ.out R (by rw [HSj.out, HD0.out]) HSj.out hG
          have fw := SR.free AJ.out R (by rw [HSj.out, HD0.out]) HSj.out
          have HG := Lib.hid hG
          clear hG
          -- at the last round both places are one: the walk parts ahead of the region
          rcases Nat.eq_zero_or_pos k with hk0 | hkp
          · subst hk0
            go_wp2_with fail
            go_region
            go_wp2_with fail
            have SS : SR w0 blk off (swp dj a (a)) _ := SW.swapped AJ.out R a (a) (by rw [HSj.out]; omega) (by rw [HSj.out]; omega)
            rw [← HG.out] at SS
            refine (sift_any blk off cap 0 0 a n d0 (swp dj a (a)) w0 _ R SS HD0.out (by rw [size_swp]; exact HSj.out) (Nat.zero_le _) (by omega) hsz).mono ?_
            rintro e w1 ⟨rfl, S2⟩
            have AS2 := Lib.hid S2
            clear S2 SS cw fw AJ
            go_wp2
            go_roundg 0
            case measure => omega
            case rel => exact ⟨by simp, by omega, siftDown ltInt 0 a 0 (swp dj a (a)), (show _ = _ from by rw [size_siftDown ltInt _ _ _ _ _ (Nat.le_refl _), size_swp]; exact HSj.out), AS2, HEj⟩
          · skip
            go_wp2_with fail
            go_region
            go_wp2_with fail
            have SS : SR w0 blk off (swp dj a (a + k)) _ := SW.swapped AJ.out R a (a + k) (by rw [HSj.out]; omega) (by rw [HSj.out]; omega)
            rw [← HG.out, ← HG.out] at SS
            refine (sift_any blk off cap 0 k a n d0 (swp dj a (a + k)) w0 _ R SS HD0.out (by rw [size_swp]; exact HSj.out) (Nat.zero_le _) (by omega) hsz).mono ?_
            rintro e w1 ⟨rfl, S2⟩
            have AS2 := Lib.hid S2
            clear S2 SS cw fw AJ
            go_wp2
            go_roundg k
            case measure => omega
            case rel => exact ⟨by simp, by omega, siftDown ltInt k a 0 (swp dj a (a + k)), (show _ = _ from by rw [size_siftDown ltInt _ _ _ _ _ (Nat.le_refl _), size_swp]; exact HSj.out), AS2, HEj⟩
    | succ k =>
      have hcall := sift_any blk off cap k (b - a) a n d0 dk w0 wr R AS.out HD0.out HS.out (by omega) (by omega) hsz
      rw [EC.out] at hcall
      go_wp2_with (go_at_call 94; refine hcall.mono ?_; rintro e w1 ⟨rfl, S2⟩)
      have AS2 := Lib.hid S2
      clear S2 AS hcall
      go_roundg k
      case measure => omega
      case rel => exact ⟨by simp, by omega, siftDown ltInt (b - a) a k dk, (show _ = _ from by rw [size_siftDown ltInt _ _ _ _ _ (Nat.le_refl _)]; exact HS.out), AS2, HE⟩

end Go.Proofs.YtmechinlaladiaaDoor
namespace Go.Proofs.YtmechinlaladiaaDoor
open Go.RowKit Go.Lib Go.Sort
set_option linter.unusedVariables false

theorem int_pred {x : Nat} (h : 0 < x) : Value.int .i64 ((x : Int) - 1) = .int .i64 ((x - 1 : Nat) : Int) := by congr 1; omega

set_option maxHeartbeats 12800000 in
set_option maxRecDepth 100000 in
theorem peq_any (blk off cap a b pivot n : Nat) (d0 d : Array Int) (w0 w : World) (R : RowR w0 blk off d0) (S : SR w0 blk off d w) (hd0 : d0.size = n) (hd : d.size = n) (hap : a ≤ pivot) (hpb : pivot < b) (hb : b ≤ n) (hsz : n < 4611686018427387904) :
    Calls Tryd.prog 90 #[.slice (some ⟨blk, off, none⟩) n cap, .int .i64 a, .int .i64 b, .int .i64 pivot] w fun e w' => e = .returned (.int .i64 (partitionEqual ltInt d a b pivot).1) ∧ SR w0 blk off ((partitionEqual ltInt d a b pivot).2) w' := by
  have HD := Lib.hid hd; have HD0 := Lib.hid hd0
  obtain ⟨G0, hG0⟩ : ∃ G : Nat → Int, ∀ t, G t = d[t]! := ⟨fun t => d[t]!, fun _ => rfl⟩
  have cw := SR.cells S R (by rw [hd, hd0]) hd hG0
  have fw := SR.free S R (by rw [hd, hd0]) hd
  obtain ⟨u0, cu0⟩ := SW.c2 S R (by rw [hd, hd0]) a pivot (by omega) (by omega) (.int .i32 (G0 pivot))
  have SX : SR w0 blk off (swp d a pivot) _ := SW.swapped S R a pivot (by omega) (by omega)
  rw [← hG0 pivot, ← hG0 a] at SX
  have AS := Lib.hid SX
  have hs : (swp d a pivot).size = n := by rw [size_swp]; exact hd
  have HS := Lib.hid hs
  clear SX hG0 S hd hd0 hs
  go_enter Tryd.func90, Tryd.ntmps90
  go_wp2
  go_region
  go_wp2
  clear cw fw cu0
  go_loopw [9, 10] (fun vi vj wr => ∃ (i j : Nat) (dk : Array Int), vi = .int .i64 i ∧ vj = .int .i64 j ∧ a < i ∧ i ≤ j + 1 ∧ j < b ∧ Hid (dk.size = n) ∧ Hid (SR w0 blk off dk wr) ∧ Hid (partEqLoop ltInt a i j dk = partEqLoop ltInt a (a + 1) (b - 1) (swp d a pivot)))
    (fun vi vj _ => (intOf vj).toNat + 1 - (intOf vi).toNat)
  case atStart => exact ⟨a + 1, b - 1, swp d a pivot, by go_num, by go_num, by omega, by omega, by omega, HS, AS, rfl⟩
  case round =>
    clear AS HS
    obtain ⟨i, j, dk, rfl, rfl, hai, hij, hjb, HS, AS, AE⟩ := hrel
    obtain ⟨G, hG⟩ : ∃ G : Nat → Int, ∀ t, G t = dk[t]! := ⟨fun t => dk[t]!, fun _ => rfl⟩
    have HG := Lib.hid hG
    clear hG
    go_wp2
    go_loopw [9] (fun vi w1 => ∃ (i' : Nat), vi = .int .i64 i' ∧ i ≤ i' ∧ i' ≤ j + 1 ∧ Hid (SR w0 blk off dk w1) ∧ Hid (scanUp (fun x => !ltInt dk[a]! x) dk j i' = scanUp (fun x => !ltInt dk[a]! x) dk j i)) (fun vi _ => j + 1 - (intOf vi).toNat)
    case atStart => exact ⟨i, rfl, Nat.le_refl _, hij, AS, rfl⟩
    case round =>
      clear AS
      obtain ⟨i', rfl, hii, hij', AS, hsc⟩ := hrel
      have cw := SR.cells AS.out R (by rw [HS.out, HD0.out]) HS.out HG.out
      have fw := SR.free AS.out R (by rw [HS.out, HD0.out]) HS.out
      by_cases hle : i' ≤ j
      · go_wp2_with fail
        go_big_quiet (first | (go_at_call 89; refine Calls.quiet_of_same (cmpless_any _ _ _)))
        go_wp2
        · have ht : (!ltInt (G a) (G i')) = true := by assumption
          go_roundw
          case rel => exact ⟨i' + 1, by go_num, by omega, by omega, SW.drewN AS.out nq, (show _ = _ from (scanUp_go (fun x => !ltInt dk[a]! x) dk j i' hle (by rw [← HG.out a, ← HG.out i']; exact ht)).symm.trans hsc.out)⟩
          case measure => simp [intOf]; omega
        · have ht : (!ltInt (G a) (G i')) = false := by assumption
          have hi2 : Hid (i' = scanUp (fun x => !ltInt dk[a]! x) dk j i) := (scanUp_end (fun x => !ltInt dk[a]! x) dk j i' (Or.inr (by rw [← HG.out a, ← HG.out i']; exact ht))).symm.trans hsc.out
          clear ht
          have AS2 := Lib.hid (SW.drewN AS.out nq)
          clear cw fw AS hsc
          have AS := AS2
          clear AS2
          go_loopw [10] (fun vj w2 => ∃ (j' : Nat), vj = .int .i64 j' ∧ j' ≤ j ∧ i' ≤ j' + 1 ∧ Hid (SR w0 blk off dk w2) ∧ Hid (scanDown (fun x => ltInt dk[a]! x) dk i' j' = scanDown (fun x => ltInt dk[a]! x) dk i' j)) (fun vj _ => (intOf vj).toNat)
          case atStart => exact ⟨j, rfl, Nat.le_refl _, hij', AS, rfl⟩
          case round =>
            clear AS
            obtain ⟨j', rfl, hjj, hij2, AS, hsd⟩ := hrel
            have cw := SR.cells AS.out R (by rw [HS.out, HD0.out]) HS.out HG.out
            have fw := SR.free AS.out R (by rw [HS.out, HD0.out]) HS.out
            by_cases hle2 : i' ≤ j'
            · go_wp2_with fail
              go_big_quiet (first | (go_at_call 89; refine Calls.quiet_of_same (cmpless_any _ _ _)))
              go_wp2
              · have ht : ltInt (G a) (G j') = true := by assumption
                go_roundw
                case rel => exact ⟨j' - 1, by go_num, by omega, by omega, SW.drewN AS.out nq, (show _ = _ from (scanDown_go (fun x => ltInt dk[a]! x) dk i' j' hle2 (by omega) (by rw [← HG.out a, ← HG.out j']; exact ht)).symm.trans hsd.out)⟩
                case measure => simp [intOf]; omega
              · have ht : ltInt (G a) (G j') = false := by assumption
                have hj2 : Hid (j' = scanDown (fun x => ltInt dk[a]! x) dk i' j) := (scanDown_end (fun x => ltInt dk[a]! x) dk i' j' (Or.inr (by rw [← HG.out a, ← HG.out j']; exact ht))).symm.trans hsd.out
                have AS3 := Lib.hid (SW.drewN AS.out nq)
                clear cw fw hsd ht AS
                have AS := AS3
                clear AS3
                generalize wr.drewN nq = W3 at AS ⊢
                have cw := SR.cells AS.out R (by rw [HS.out, HD0.out]) HS.out HG.out
                have fw := SR.free AS.out R (by rw [HS.out, HD0.out]) HS.out
                have hlt3 := scans_lt ltInt a i j dk (by omega) hi2.out hj2.out hle2
                obtain ⟨u3, cu3⟩ := SW.c2 AS.out R (by rw [HS.out, HD0.out]) i' j' (by rw [HS.out]; omega) (by rw [HS.out]; omega) (.int .i32 (G j'))
                go_wp2
                go_region
                all_goals go_wp2
                have SX : SR w0 blk off (swp dk i' j') _ := SW.swapped AS.out R i' j' (by rw [HS.out]; omega) (by rw [HS.out]; omega)
                rw [← HG.out, ← HG.out] at SX
                have AX := Lib.hid SX
                clear SX
                go_roundw
                case rel => exact ⟨i' + 1, j' - 1, swp dk i' j', by go_num, by go_num, by omega, by omega, by omega, (show _ = _ from by rw [size_swp]; exact HS.out), AX, (show _ = _ from by rw [← AE.out]; exact (partEq_go ltInt a i j dk hi2.out hj2.out (by omega)).symm)⟩
                case measure => simp [intOf]; omega
            · go_wp2_with fail
              go_big_quiet (first | (go_at_call 89; refine Calls.quiet_of_same (cmpless_any _ _ _)))
              have hj2 : Hid (j' = scanDown (fun x => ltInt dk[a]! x) dk i' j) := (scanDown_end (fun x => ltInt dk[a]! x) dk i' j' (Or.inl hle2)).symm.trans hsd.out
              have AS3 := Lib.hid (SW.drewN AS.out nq)
              clear cw fw hsd AS
              have AS := AS3
              clear AS3
              generalize wr.drewN nq = W3 at AS ⊢
              have cw := SR.cells AS.out R (by rw [HS.out, HD0.out]) HS.out HG.out
              have fw := SR.free AS.out R (by rw [HS.out, HD0.out]) HS.out
              go_wp2
              go_ret
              have e := partEq_break ltInt a i j dk hi2.out hj2.out (by omega)
              refine ⟨?_, ?_⟩
              · unfold partitionEqual; rw [← AE.out, e]; rfl
              · unfold partitionEqual; rw [← AE.out, e]; exact AS.out
      · go_wp2_with fail
        go_big_quiet (first | (go_at_call 89; refine Calls.quiet_of_same (cmpless_any _ _ _)))
        go_wp2
        have hi2 : Hid (i' = scanUp (fun x => !ltInt dk[a]! x) dk j i) := (scanUp_end (fun x => !ltInt dk[a]! x) dk j i' (Or.inl hle)).symm.trans hsc.out
        have AS2 := Lib.hid (SW.drewN AS.out nq)
        clear cw fw AS hsc
        have AS := AS2
        clear AS2
        go_loopw [10] (fun vj w2 => ∃ (j' : Nat), vj = .int .i64 j' ∧ j' ≤ j ∧ i' ≤ j' + 1 ∧ Hid (SR w0 blk off dk w2) ∧ Hid (scanDown (fun x => ltInt dk[a]! x) dk i' j' = scanDown (fun x => ltInt dk[a]! x) dk i' j)) (fun vj _ => (intOf vj).toNat)
        case atStart => exact ⟨j, rfl, Nat.le_refl _, hij', AS, rfl⟩
        case round =>
          clear AS
          obtain ⟨j', rfl, hjj, hij2, AS, hsd⟩ := hrel
          have cw := SR.cells AS.out R (by rw [HS.out, HD0.out]) HS.out HG.out
          have fw := SR.free AS.out R (by rw [HS.out, HD0.out]) HS.out
          by_cases hle2 : i' ≤ j'
          · exfalso; omega
          · go_wp2_with fail
            go_big_quiet (first | (go_at_call 89; refine Calls.quiet_of_same (cmpless_any _ _ _)))
            have hj2 : Hid (j' = scanDown (fun x => ltInt dk[a]! x) dk i' j) := (scanDown_end (fun x => ltInt dk[a]! x) dk i' j' (Or.inl hle2)).symm.trans hsd.out
            have AS3 := Lib.hid (SW.drewN AS.out nq)
            clear cw fw hsd AS
            have AS := AS3
            clear AS3
            generalize wr.drewN nq = W3 at AS ⊢
            have cw := SR.cells AS.out R (by rw [HS.out, HD0.out]) HS.out HG.out
            have fw := SR.free AS.out R (by rw [HS.out, HD0.out]) HS.out
            go_wp2
            go_ret
            have e := partEq_break ltInt a i j dk hi2.out hj2.out (by omega)
            refine ⟨?_, ?_⟩
            · unfold partitionEqual; rw [← AE.out, e]; rfl
            · unfold partitionEqual; rw [← AE.out, e]; exact AS.out

end Go.Proofs.YtmechinlaladiaaDoor
