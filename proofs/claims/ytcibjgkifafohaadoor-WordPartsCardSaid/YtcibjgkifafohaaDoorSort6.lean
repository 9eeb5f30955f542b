/-
  slices.Sort AT []rune: breakPatternsOrdered: a permutation of the part.
-/
import Derived.Test.YtcibjgkifafohaaDoorSort5
namespace Go.Proofs.YtcibjgkifafohaaDoor
open Go.RowKit Go.Lib Go.Sort
set_option linter.unusedVariables false

/-- A world of the sort's with the generator's cell. -/
def Rnd (w0 : World) (blk off : Nat) (d : Array Int) (rb X : Nat) (W : World) : Prop :=
  SR w0 blk off d W ∧ W.cell? ⟨rb, 0, none⟩ = some (.int .u64 X) ∧ W.frozen? ⟨rb, 0, none⟩ = false ∧ w0.heap.size ≤ rb
theorem Rnd.swapped {w0 W : World} {blk off rb X : Nat} {d0 d : Array Int} (h : Rnd w0 blk off d rb X W) (R : RowR w0 blk off d0) (i j : Nat) (hi : i < d.size) (hj : j < d.size) :
    Rnd w0 blk off (swp d i j) rb X ((W.setCell ⟨blk, off + i, none⟩ (E32 d[j]!)).setCell ⟨blk, off + j, none⟩ (E32 d[i]!)).drew :=
  have hne : rb ≠ blk := by have := R.hblk; have := h.2.2.2; omega
  have hk := box_kept_swap1 hne h.2.1 h.2.2.1 (off + i) (off + j) (E32 d[j]!) (E32 d[i]!)
  ⟨SW.swapped h.1 R i j hi hj, hk.1, hk.2, h.2.2.2⟩
theorem Rnd.next {w0 W : World} {blk off rb X : Nat} {d : Array Int} (h : Rnd w0 blk off d rb X W) (Y q : Nat) : Rnd w0 blk off d rb Y ((W.setCell ⟨rb, 0, none⟩ (.int .u64 Y)).drewN q) :=
  ⟨SW.drewN (SW.setCell_new h.1 rb 0 _ h.2.2.2) q, (show (W.setCell ⟨rb, 0, none⟩ (.int .u64 Y)).cell? _ = _ from World.cell?_setCell_same' _ _ _ (by rw [h.2.1]; rfl)), (show (W.setCell ⟨rb, 0, none⟩ (.int .u64 Y)).frozen? _ = _ from by rw [World.frozen?_setCell]; exact h.2.2.1), h.2.2.2⟩

set_option maxHeartbeats 2000000 in
set_option maxRecDepth 100000 in
theorem brk_any (blk off cap a b n : Nat) (d0 d : Array Int) (w0 w : World) (R : RowR w0 blk off d0) (S : SR w0 blk off d w) (hd0 : d0.size = n) (hd : d.size = n) (hab : a + 12 < b) (hb : b ≤ n) (hsz : n < 4611686018427387904) :
    Calls Tryd.prog 152 #[.slice (some ⟨blk, off, none⟩) n cap, .int .i64 a, .int .i64 b] w (BrkPost w0 blk off n a b d) := by
  have HD := Lib.hid hd; have HD0 := Lib.hid hd0
  obtain ⟨L, hL⟩ : ∃ L, L = b - a := ⟨_, rfl⟩
  have hR0 : Rnd w0 blk off d w.heap.size L (w.alloc (.cells #[.int .u64 (L : Int)] 152)) := ⟨SW.alloc S _, by simp, by simp, S.le⟩
  have HR0 := Lib.hid hR0
  clear hR0 S hd hd0
  obtain ⟨M, hM⟩ : ∃ M : Nat, M = 1 <<< bitsLen L := ⟨_, rfl⟩
  have hM1 : 1 ≤ M := by rw [hM, Nat.one_shiftLeft]; exact Nat.two_pow_pos _
  have hM2 : M ≤ 2 * L := by rw [hM, Nat.one_shiftLeft]; exact two_pow_bitsLen_le (by omega)
  have hNP : ∀ w, Calls Tryd.prog 126 #[.int .i64 (L : Int)] w fun e w' => e = .returned (.int .u64 (M : Int)) ∧ w' = w := by rw [hM]; exact fun w => Tryd.nextPowerOfTwo L (by omega) w
  have HNP := Lib.hid hNP
  clear hM hNP
  obtain ⟨J, hJ⟩ : ∃ J, J = a + L / 4 * 2 := ⟨_, rfl⟩
  have bJ : a + 6 ≤ J ∧ J + 2 < b := by omega
  have eL : ((b : Int) - (a : Int)) = (L : Int) := by omega
  have eJ : ((a : Int) + (L : Int) / 4 * 2) = (J : Int) := by omega
  have h8 : (8 : Int) ≤ (L : Int) := by omega
  have hLb : a + L = b := by omega
  have HLb := Lib.hid hLb
  have hLn : L < 4611686018427387904 := by omega
  clear hL hJ hLb
  go_enter Tryd.func152, Tryd.ntmps152
  go_wp2_with fail
  refine (HNP.out _).mono ?_
  rintro e w1 ⟨rfl, rfl⟩
  go_wp2_with fail
  go_loopw [9] (fun vi wr => ∃ (x X : Nat) (dk : Array Int), vi = .int .i64 x ∧ J ≤ x + 1 ∧ x ≤ J + 2 ∧ X < 18446744073709551616 ∧ Hid (dk.size = n) ∧ Hid (PermIn a b d dk) ∧ Hid (Rnd w0 blk off dk w.heap.size X wr)) (fun vi _ => J + 2 - (intOf vi).toNat)
  case atStart => exact ⟨J - 1, L, d, by congr 1; omega, by omega, by omega, by omega, HD, permIn_refl _ _ _, HR0⟩
  case round =>
    clear HR0
    obtain ⟨x, X, dk, rfl, hx1, hx2, hX, HS, HP, HR⟩ := hrel
    obtain ⟨Y, hY⟩ : ∃ Y : Nat, Y = xorNextN X := ⟨_, rfl⟩
    have lY : Y < 18446744073709551616 := by rw [hY]; exact xorNextN_lt X hX
    obtain ⟨O, hO⟩ : ∃ O : Nat, O = Y &&& (M - 1) := ⟨_, rfl⟩
    have lO : O ≤ M - 1 := by rw [hO]; exact Nat.and_le_right
    have eAnd : bits .and .u64 (Y : Int) ((M : Int) - 1) = (O : Int) := by
      rw [show ((M : Int) - 1) = ((M - 1 : Nat) : Int) by omega, bits_and_u64_nat _ _ lY (by omega), hO]
    have hNext : Calls Tryd.prog 127 #[.pointer (some ⟨w.heap.size, 0, none⟩)] wr fun e w' => e = .returned (.int .u64 (Y : Int)) ∧ w' = (wr.setCell ⟨w.heap.size, 0, none⟩ (.int .u64 (Y : Int))).drewN 3 := by
      rw [hY]; exact Tryd.xorshift_Next _ _ X hX wr HR.out.2.1 HR.out.2.2.1
    have HN := Lib.hid hNext
    obtain ⟨o2, ho2⟩ : ∃ o2 : Nat, o2 = if L ≤ O then O - L else O := ⟨_, rfl⟩
    have lo2 : o2 < L := by rw [ho2]; split <;> omega
    obtain ⟨W2, hW2⟩ : ∃ W2, W2 = (wr.setCell ⟨w.heap.size, 0, none⟩ (.int .u64 (Y : Int))).drewN 3 := ⟨_, rfl⟩
    have R2 : Rnd w0 blk off dk w.heap.size Y W2 := by rw [hW2]; exact HR.out.next Y 3
    obtain ⟨G, hG⟩ : ∃ G : Nat → Int, ∀ t, G t = dk[t]! := ⟨fun t => dk[t]!, fun _ => rfl⟩
    have cw := SR.cells R2.1 R (by rw [HS.out, HD0.out]) HS.out hG
    have fw := SR.free R2.1 R (by rw [HS.out, HD0.out]) HS.out
    have HR2 := Lib.hid R2; have HG := Lib.hid hG; have HLb2 := HLb.out
    have HW2 := Lib.hid hW2
    have HRS := Lib.hid HR.out.1
    clear hNext hY hO R2 hG hW2 HR
    by_cases hx : x ≤ J + 1
    · have hxz : (x : Int) ≤ (J : Int) + 1 := by omega
      obtain ⟨u3, cu3⟩ := SW.c2 HR2.out.1 R (by rw [HS.out, HD0.out]) x (a + o2) (by rw [HS.out]; omega) (by rw [HS.out]; omega) (.int .i32 (G (a + o2)))
      have fin : Hid (∃ x' X' : Nat, ∃ dk' : Array Int, Value.int .i64 ((x : Int) + 1) = .int .i64 (x' : Nat) ∧ J ≤ x' + 1 ∧ x' ≤ J + 2 ∧ X' < 18446744073709551616 ∧ Hid (dk'.size = n) ∧ Hid (PermIn a b d dk') ∧
          Hid (Rnd w0 blk off dk' w.heap.size X' ((W2.setCell ⟨blk, off + x, none⟩ (.int .i32 (G (a + o2)))).setCell ⟨blk, off + (a + o2), none⟩ (.int .i32 (G x))).drew)) :=
        (show _ from ⟨x + 1, Y, swp dk x (a + o2), by go_num, by omega, by omega, lY, (show _ = _ from by rw [size_swp]; exact HS.out),
          (show PermIn _ _ _ _ from permIn_trans _ _ _ _ _ HP.out (swp_permIn dk a b x (a + o2) (by omega) (by omega) (by omega) (by omega) (by rw [HS.out]; exact hb))),
          (show Rnd _ _ _ _ _ _ _ from by rw [HG.out, HG.out]; exact HR2.out.swapped R x (a + o2) (by rw [HS.out]; omega) (by rw [HS.out]; omega))⟩)
      clear HLb2
      by_cases hLO : L ≤ O
      · have hLOz : (L : Int) ≤ (O : Int) := by omega
        rw [if_pos hLO] at ho2
        have eo : ((O : Int) - (L : Int)) = (o2 : Int) := by omega
        clear ho2 hLO
        go_wp2_with fail
        refine HN.out.mono ?_
        rintro e w3 ⟨rfl, rfl⟩
        rw [← HW2.out]
        go_wp2_with fail
        go_region
        all_goals go_wp2
        go_roundw
        case rel => exact fin.out
        case measure => simp [intOf]; omega
      · have hLOz : ¬ (L : Int) ≤ (O : Int) := by omega
        rw [if_neg hLO] at ho2
        obtain rfl : o2 = O := ho2
        clear hLO
        go_wp2_with fail
        refine HN.out.mono ?_
        rintro e w3 ⟨rfl, rfl⟩
        rw [← HW2.out]
        go_wp2_with fail
        go_region
        all_goals go_wp2
        go_roundw
        case rel => exact fin.out
        case measure => simp [intOf]; omega
    · have hxz : ¬ (x : Int) ≤ (J : Int) + 1 := by omega
      go_wp2
      go_end0
      exact ⟨dk, rfl, HS.out, HP.out, HRS.out⟩

end Go.Proofs.YtcibjgkifafohaaDoor
