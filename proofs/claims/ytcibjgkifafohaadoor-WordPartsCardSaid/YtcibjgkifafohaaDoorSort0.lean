/-
  slices.Sort AT []rune, the first half of its functions: cmp.Less, reverseRangeOrdered, insertionSortOrdered. A contract here goes from a world in which the row holds d to one in which it holds what the library's plain function makes of d ('SW': the word of the library for such worlds).
-/
import Derived.Test.YtcibjgkifafohaaDoorProg
import Derived.Sort.AssemblyPlain
import Derived.Sort.WalkC4
import Derived.Sort.WalkA6
import Derived.Sort.WalkB3
import Derived.Shelf.SlSortCmp.Kit1
import Derived.Deep.LoopGhost
import Derived.Lib.Hide
namespace Go.Proofs.YtcibjgkifafohaaDoor
open Go.RowKit Go.Lib Go.Sort
set_option linter.unusedVariables false

/-- How a rune lies in a cell. -/
abbrev E32 (x : Int) : Value := Value.int .i32 x
theorem oneE32 : OneCell E32 := fun _ => rfl

/-- The row: its base world, its cells, that it is an old block. -/
abbrev RowR (w0 : World) (blk off : Nat) (d0 : Array Int) : Prop := Row1 E32 w0 blk off d0
/-- A world of the sort's in which the row holds d. -/
abbrev SR (w0 : World) (blk off : Nat) (d : Array Int) (W : World) : Prop := SW E32 w0 blk off d W

theorem SR.cells {w0 W : World} {blk off n : Nat} {d0 d : Array Int} (S : SR w0 blk off d W) (R : RowR w0 blk off d0) (hs : d.size = d0.size) (hn : d.size = n) {G : Nat → Int} (hG : ∀ t, G t = d[t]!) :
    ∀ t, t < n → W.cell? ⟨blk, off + t, none⟩ = some (.int .i32 (G t)) := fun t ht => by rw [hG]; exact SW.c1 S R hs t (by omega)
theorem SR.free {w0 W : World} {blk off n : Nat} {d0 d : Array Int} (S : SR w0 blk off d W) (R : RowR w0 blk off d0) (hs : d.size = d0.size) (hn : d.size = n) :
    ∀ t, t < n → W.frozen? ⟨blk, off + t, none⟩ = false := fun t ht => SW.f1 S R hs t (by omega)

/-! ### cmp.Less -/
set_option maxHeartbeats 400000 in
theorem isNaN_any (x : Int) (w : World) : Calls Tryd.prog 164 #[.int .i32 x] w fun e w' => e = .returned (.bool false) ∧ w' = w := by
  go_enter Tryd.func164, Tryd.ntmps164
  go_wp2
  go_ret
  exact ⟨by simp, rfl⟩
set_option maxHeartbeats 400000 in
theorem cmpless_any (x y : Int) (w : World) : Calls Tryd.prog 156 #[.int .i32 x, .int .i32 y] w fun e w' => e = .returned (.bool (ltInt x y)) ∧ w' = w := by
  go_enter Tryd.func156, Tryd.ntmps156
  go_wp2_with (go_at_call 164; refine (isNaN_any _ _).mono ?_; rintro e w' ⟨rfl, rfl⟩)
  go_ret
  exact ⟨rfl, rfl⟩

/-! ### reverseRangeOrdered -/
set_option maxHeartbeats 1600000 in
set_option maxRecDepth 100000 in
theorem rev_any (blk off cap a b n : Nat) (d0 d : Array Int) (w0 w : World) (R : RowR w0 blk off d0) (S : SR w0 blk off d w) (hd0 : d0.size = n) (hd : d.size = n) (hab : a ≤ b) (hb : b ≤ n) (hsz : n < 4611686018427387904) :
    Calls Tryd.prog 154 #[.slice (some ⟨blk, off, none⟩) n cap, .int .i64 a, .int .i64 b] w fun e w' => e = .returned (.tuple #[]) ∧ SR w0 blk off (reverseRange d a b) w' := by
  have S0 := Lib.hid S; have HD := Lib.hid hd; have HD0 := Lib.hid hd0
  clear S hd hd0
  go_enter Tryd.func154, Tryd.ntmps154
  go_wp2
  go_loopg [6, 7] (b - a) (fun k s6 s7 wr => ∃ (i jn : Nat) (jz : Int) (dk : Array Int), s6 = .int .i64 i ∧ s7 = .int .i64 jz ∧ ((i : Int) < jz → jz = jn ∧ jn < n) ∧ (¬ (i : Int) < jz → ¬ i < jn) ∧ jn - i ≤ k ∧
    Hid (dk.size = n) ∧ Hid (SR w0 blk off dk wr) ∧ Hid (reverseLoop i jn dk = reverseLoop a (b - 1) d))
  case atStart => exact ⟨a, b - 1, (b : Int) - 1, d, rfl, rfl, fun h => ⟨by omega, by omega⟩, fun h => by omega, by omega, HD, S0, rfl⟩
  case round =>
    obtain ⟨i, jn, jz, dk, rfl, rfl, h1, h2, hk, HS, S1, HE⟩ := hrel
    by_cases hlt : (i : Int) < jz
    · obtain ⟨rfl, hjn⟩ := h1 hlt
      have hij : i < jn := by omega
      clear h1 h2
      obtain ⟨G, hG⟩ : ∃ G : Nat → Int, ∀ t, G t = dk[t]! := ⟨fun t => dk[t]!, fun _ => rfl⟩
      have ci := SR.cells S1.out R (by rw [HS.out, HD0.out]) HS.out hG
      have fi := SR.free S1.out R (by rw [HS.out, HD0.out]) HS.out
      have HG := Lib.hid hG
      clear hG S0
      go_wp2_with fail
      go_region
      go_wp2
      go_roundg (jn - 1 - (i + 1))
      case measure => omega
      case rel =>
        have he := HE.out
        rw [reverseLoop, if_pos hij] at he
        exact ⟨i + 1, jn - 1, (jn : Int) - 1, swp dk i jn, by simp, rfl, fun h => ⟨by omega, by omega⟩, fun h => by omega, Nat.le_refl _, (show _ = _ from by rw [size_swp]; exact HS.out),
          (show SR _ _ _ _ _ from by rw [HG.out, HG.out]; exact SW.swapped S1.out R i jn (by rw [HS.out]; omega) (by rw [HS.out]; omega)), he⟩
    · have hnot := h2 hlt
      clear h1 h2
      go_wp2
      go_end0
      refine ⟨rfl, ?_⟩
      have he := HE.out
      rw [reverseLoop, if_neg hnot] at he
      rw [reverseRange, ← he]
      exact S1.out

/-! ### insertionSortOrdered -/
set_option maxHeartbeats 1600000 in
set_option maxRecDepth 100000 in
theorem ins_any (blk off cap a b n : Nat) (d0 d : Array Int) (w0 w : World) (R : RowR w0 blk off d0) (S : SR w0 blk off d w) (hd0 : d0.size = n) (hd : d.size = n) (hab : a ≤ b) (hb : b ≤ n) (hsz : n < 4611686018427387904) :
    Calls Tryd.prog 150 #[.slice (some ⟨blk, off, none⟩) n cap, .int .i64 a, .int .i64 b] w fun e w' => e = .returned (.tuple #[]) ∧ SR w0 blk off (insertionSort ltInt d a b) w' := by
  have S0 := Lib.hid S; have HD := Lib.hid hd; have HD0 := Lib.hid hd0
  clear S hd hd0
  go_enter Tryd.func150, Tryd.ntmps150
  go_wp2
  go_loopg [6] (b - a) (fun g1 vi wr => ∃ (i : Nat) (dk : Array Int), vi = .int .i64 i ∧ a < i ∧ i ≤ b + 1 ∧ b + 1 - i ≤ g1 + 1 ∧ Hid (dk.size = n) ∧ Hid (SR w0 blk off dk wr) ∧ Hid (insOuter ltInt a b i dk = insOuter ltInt a b (a + 1) d))
  case atStart => exact ⟨a + 1, d, by go_num, by omega, by omega, by omega, HD, S0, rfl⟩
  case round =>
    clear S0
    obtain ⟨i, dk, rfl, hai, hib, hg1, HS1, S1, HO⟩ := hrel
    by_cases hlt : i < b
    · have hltz : (i : Int) < (b : Int) := by omega
      go_wp2
      go_loopg [7] i (fun g2 vj wr2 => ∃ (j : Nat) (dj : Array Int), vj = .int .i64 j ∧ a ≤ j ∧ j ≤ i ∧ j ≤ g2 ∧ Hid (dj.size = n) ∧ Hid (SR w0 blk off dj wr2) ∧ Hid (insInner ltInt a j dj = insInner ltInt a i dk))
      case atStart => exact ⟨i, dk, rfl, by omega, Nat.le_refl _, Nat.le_refl _, HS1, S1, rfl⟩
      case round =>
        clear S1
        obtain ⟨j, dj, rfl, haj, hji, hg2, HS, SJ, HI⟩ := hrel
        have out : (j ≤ a ∨ ltInt dj[j]! dj[j - 1]! = false) → Hid (insOuter ltInt a b (i + 1) dj = insOuter ltInt a b (a + 1) d) := fun hs => by
          show _ = _
          rw [← HO.out, insOuter_go _ _ _ _ _ hlt, ← HI.out, insInner_stop _ _ _ _ hs]
        have OUT := Lib.hid out
        clear out
        obtain ⟨G, hG⟩ : ∃ G : Nat → Int, ∀ t, G t = dj[t]! := ⟨fun t => dj[t]!, fun _ => rfl⟩
        have cw := SR.cells SJ.out R (by rw [HS.out, HD0.out]) HS.out hG
        have fw := SR.free SJ.out R (by rw [HS.out, HD0.out]) HS.out
        have HG := Lib.hid hG
        clear hG
        by_cases hja : a < j
        · go_wp2_with fail
          go_big_quiet (first | (go_at_call 156; refine Calls.quiet_of_same (cmpless_any _ _ _)))
          go_wp2_with fail
          · have hl : ltInt (G j) (G (j - 1)) = true := by assumption
            go_region
            all_goals go_wp2
            go_roundg (j - 1)
            case measure => omega
            case rel =>
              refine ⟨j - 1, swp dj j (j - 1), by congr 1; omega, by omega, by omega, Nat.le_refl _, (show _ = _ from by rw [size_swp]; exact HS.out), (show SR _ _ _ _ _ from ?_), (show _ = _ from ?_)⟩
              · have h := SW.swapped (SW.drewN SJ.out nq) R j (j - 1) (by rw [HS.out]; omega) (by rw [HS.out]; omega)
                rw [← HG.out, ← HG.out] at h
                exact h
              · rw [← HI.out, insInner_go ltInt a j dj hja (by rw [← HG.out, ← HG.out]; exact hl)]
          · have hl : ltInt (G j) (G (j - 1)) = false := by assumption
            go_roundg (b - (i + 1))
            case measure => omega
            case rel => exact ⟨i + 1, dj, by go_num, by omega, by omega, by omega, HS, SW.drewN SJ.out nq, OUT.out (Or.inr (by rw [← HG.out, ← HG.out]; exact hl))⟩
        · have hjaz : decide ((j : Int) > (a : Int)) = false := decide_eq_false (by omega)
          go_wp2_with fail
          go_big_quiet (first | (go_at_call 156; refine Calls.quiet_of_same (cmpless_any _ _ _)))
          go_wp2
          go_roundg (b - (i + 1))
          case measure => omega
          case rel => exact ⟨i + 1, dj, by go_num, by omega, by omega, by omega, HS, SW.drewN SJ.out nq, OUT.out (Or.inl (by omega))⟩
    · have hltz : ¬ (i : Int) < (b : Int) := by omega
      go_wp2
      go_end0
      exact ⟨rfl, by unfold insertionSort; rw [← HO.out, insOuter_stop _ _ _ _ _ hlt]; exact S1.out⟩

end Go.Proofs.YtcibjgkifafohaaDoor
