/-
  slices.Sort AT []rune: order2Ordered, medianOrdered, medianAdjacentOrdered, choosePivotOrdered, breakPatternsOrdered: of the pivot only that it lies in the part, of the broken patterns only that they are a permutation.
  slices.Sort AT []rune: breakPatternsOrdered: a permutation of the part.
  slices.Sort AT []rune: pdqsortOrdered: it returns, the part is sorted, a permutation of what it was; all else is as it was but for new blocks.
  slices.Sort AND slices.Compact AT []rune: behind both the length tells whether no rune stood twice; nothing below the row's own block has turned.
-/
import Derived.Sort.LotD5
import Derived.Laws.Bits64
import Derived.Laws.Bits64b
import Derived.Deep.Cut
import Derived.Test.YtmechinlaladiaaDoorZAB
import Derived.Test.YtmechinlaladiaaDoorZAC
namespace Go.Proofs.YtmechinlaladiaaDoor
open Go.RowKit Go.Lib Go.Sort
set_option linter.unusedVariables false

abbrev CR (w0 : World) (blk off : Nat) (d : Array Int) (c s : Nat) (W : World) : Prop := Cnt1 E32 w0 blk off d c s W
def PairPost (w0 : World) (blk off : Nat) (d : Array Int) (c s lo hi : Nat) (e : Ending) (w' : World) : Prop :=
  ∃ x y s' : Nat, e = .returned (.tuple #[.int .i64 x, .int .i64 y]) ∧ lo ≤ x ∧ x < hi ∧ lo ≤ y ∧ y < hi ∧ s' ≤ s + 1 ∧ CR w0 blk off d c s' w'
def MedPost (w0 : World) (blk off : Nat) (d : Array Int) (c s lo hi : Nat) (e : Ending) (w' : World) : Prop :=
  ∃ x s' : Nat, e = .returned (.int .i64 x) ∧ lo ≤ x ∧ x < hi ∧ s' ≤ s + 3 ∧ CR w0 blk off d c s' w'
def PivPost (w0 : World) (blk off : Nat) (d : Array Int) (lo hi : Nat) (e : Ending) (w' : World) : Prop :=
  ∃ (p : Nat) (h : Int), e = .returned (.tuple #[.int .i64 p, .int .i64 h]) ∧ lo ≤ p ∧ p < hi ∧ SR w0 blk off d w'
def BrkPost (w0 : World) (blk off n a b : Nat) (d : Array Int) (e : Ending) (w' : World) : Prop :=
  ∃ d' : Array Int, e = .returned (.tuple #[]) ∧ d'.size = n ∧ PermIn a b d d' ∧ SR w0 blk off d' w'

set_option maxHeartbeats 1000000 in
set_option maxRecDepth 100000 in
theorem o2_any (blk off cap a b c s lo hi n : Nat) (d0 d : Array Int) (w0 w : World) (R : RowR w0 blk off d0) (C : CR w0 blk off d c s w) (hd0 : d0.size = n) (hd : d.size = n) (ha : lo ≤ a) (ha2 : a < hi) (hb : lo ≤ b) (hb2 : b < hi) (hn : hi ≤ n) (hs : s < 1000) :
    Calls Tryd.prog 100 #[.slice (some ⟨blk, off, none⟩) n cap, .int .i64 a, .int .i64 b, .pointer (some ⟨c, 0, none⟩)] w (PairPost w0 blk off d c s lo hi) := by
  obtain ⟨G, hG⟩ : ∃ G : Nat → Int, ∀ t, G t = d[t]! := ⟨fun t => d[t]!, fun _ => rfl⟩
  have cw := SR.cells C.1 R (by rw [hd, hd0]) hd hG
  have fw := SR.free C.1 R (by rw [hd, hd0]) hd
  have cs := C.2.1
  have fs := C.2.2.1
  have HC := Lib.hid C
  clear C hG hd hd0
  go_enter Tryd.func100, Tryd.ntmps100
  go_wp2_with fail
  go_big_quiet (first | (go_at_call 89; refine Calls.quiet_of_same (cmpless_any _ _ _)))
  go_wp2_with fail
  · go_ret2
    have h := Cnt1.bump (Cnt1.grown HC.out nq #[]) (s + 1)
    rw [grow_empty, show ((s + 1 : Nat) : Int) = (s : Int) + 1 by omega] at h
    exact ⟨b, a, s + 1, rfl, hb, hb2, ha, ha2, Nat.le_refl _, h⟩
  · go_ret2
    have h := Cnt1.grown HC.out nq #[]
    rw [grow_empty] at h
    exact ⟨a, b, s, rfl, ha, ha2, hb, hb2, by omega, h⟩

set_option maxHeartbeats 1000000 in
set_option maxRecDepth 100000 in
theorem med_any (blk off cap a b k c s lo hi n : Nat) (d0 d : Array Int) (w0 w : World) (R : RowR w0 blk off d0) (C : CR w0 blk off d c s w) (hd0 : d0.size = n) (hd : d.size = n) (ha : lo ≤ a) (ha2 : a < hi) (hb : lo ≤ b) (hb2 : b < hi) (hk : lo ≤ k) (hk2 : k < hi) (hn : hi ≤ n) (hs : s < 900) :
    Calls Tryd.prog 98 #[.slice (some ⟨blk, off, none⟩) n cap, .int .i64 a, .int .i64 b, .int .i64 k, .pointer (some ⟨c, 0, none⟩)] w (MedPost w0 blk off d c s lo hi) := by
  have HD := Lib.hid hd; have HD0 := Lib.hid hd0; have HC := Lib.hid C
  clear hd hd0 C
  go_enter Tryd.func98, Tryd.ntmps98
  go_wp2_with fail
  refine (o2_any blk off cap a b c s lo hi n d0 d w0 _ R HC.out HD0.out HD.out ha ha2 hb hb2 hn (by omega)).mono ?_
  rintro e w1 ⟨x1, y1, s1, rfl, x1l, x1h, y1l, y1h, hs1, C1⟩
  have HC1 := Lib.hid C1
  clear C1 HC
  go_wp2_with fail
  refine (o2_any blk off cap y1 k c s1 lo hi n d0 d w0 _ R HC1.out HD0.out HD.out y1l y1h hk hk2 hn (by omega)).mono ?_
  rintro e w2 ⟨x2, y2, s2, rfl, x2l, x2h, y2l, y2h, hs2, C2⟩
  have HC2 := Lib.hid C2
  clear C2 HC1
  go_wp2_with fail
  refine (o2_any blk off cap x1 x2 c s2 lo hi n d0 d w0 _ R HC2.out HD0.out HD.out x1l x1h x2l x2h hn (by omega)).mono ?_
  rintro e w3 ⟨x3, y3, s3, rfl, x3l, x3h, y3l, y3h, hs3, C3⟩
  have HC3 := Lib.hid C3
  clear C3 HC2
  go_wp2_with fail
  go_ret
  exact ⟨y3, s3, rfl, y3l, y3h, by omega, HC3.out⟩

set_option maxHeartbeats 1000000 in
set_option maxRecDepth 100000 in
theorem adj_any (blk off cap a c s lo hi n : Nat) (d0 d : Array Int) (w0 w : World) (R : RowR w0 blk off d0) (C : CR w0 blk off d c s w) (hd0 : d0.size = n) (hd : d.size = n) (ha : lo + 1 ≤ a) (ha2 : a + 1 < hi) (hn : hi ≤ n) (hsz : n < 4611686018427387904) (hs : s < 900) :
    Calls Tryd.prog 97 #[.slice (some ⟨blk, off, none⟩) n cap, .int .i64 a, .pointer (some ⟨c, 0, none⟩)] w (MedPost w0 blk off d c s lo hi) := by
  have HD := Lib.hid hd; have HD0 := Lib.hid hd0; have HC := Lib.hid C
  clear hd hd0 C
  go_enter Tryd.func97, Tryd.ntmps97
  go_wp2_with fail
  rw [show ((a : Int) - 1) = ((a - 1 : Nat) : Int) by omega, show ((a : Int) + 1) = ((a + 1 : Nat) : Int) by omega]
  refine (med_any blk off cap (a - 1) a (a + 1) c s lo hi n d0 d w0 _ R HC.out HD0.out HD.out (by omega) (by omega) (by omega) (by omega) (by omega) (by omega) hn hs).mono ?_
  rintro e w1 ⟨x1, s1, rfl, x1l, x1h, hs1, C1⟩
  have HC1 := Lib.hid C1
  clear C1 HC
  go_wp2_with fail
  go_ret
  exact ⟨x1, s1, rfl, x1l, x1h, hs1, HC1.out⟩

set_option maxHeartbeats 2000000 in
set_option maxRecDepth 100000 in
theorem piv_any (blk off cap a b n : Nat) (d0 d : Array Int) (w0 w : World) (R : RowR w0 blk off d0) (S : SR w0 blk off d w) (hd0 : d0.size = n) (hd : d.size = n) (hab : a + 12 < b) (hb : b ≤ n) (hsz : n < 4611686018427387904) :
    Calls Tryd.prog 86 #[.slice (some ⟨blk, off, none⟩) n cap, .int .i64 a, .int .i64 b] w (PivPost w0 blk off d a b) := by
  have HD := Lib.hid hd; have HD0 := Lib.hid hd0
  have HC := Lib.hid (Cnt1.start (enc := E32) S 3)
  clear hd hd0 S
  obtain ⟨I, hI⟩ : ∃ I : Nat, I = a + (b - a) / 4 * 1 := ⟨_, rfl⟩
  obtain ⟨J, hJ⟩ : ∃ J : Nat, J = a + (b - a) / 4 * 2 := ⟨_, rfl⟩
  obtain ⟨K, hK⟩ : ∃ K : Nat, K = a + (b - a) / 4 * 3 := ⟨_, rfl⟩
  have eI : ((a : Int) + ((b : Int) - (a : Int)) / 4) = (I : Int) := by omega
  have eJ : ((a : Int) + ((b : Int) - (a : Int)) / 4 * 2) = (J : Int) := by omega
  have eK : ((a : Int) + ((b : Int) - (a : Int)) / 4 * 3) = (K : Int) := by omega
  have bI : a + 3 ≤ I ∧ I < b := by omega
  have bJ : a + 6 ≤ J ∧ J < b := by omega
  have bK : a + 9 ≤ K ∧ K < b := by omega
  have h8z : (8 : Int) ≤ (b : Int) - (a : Int) := by omega
  by_cases h50 : 50 ≤ b - a
  · have h50z : (50 : Int) ≤ (b : Int) - (a : Int) := by omega
    have bI : a + 12 ≤ I ∧ I + 1 < b := by omega
    have bJ : a + 24 ≤ J ∧ J + 1 < b := by omega
    have bK : a + 36 ≤ K ∧ K + 1 < b := by omega
    clear hI hJ hK
    go_enter Tryd.func86, Tryd.ntmps86
    go_wp2_with fail
    refine (adj_any blk off cap I w.heap.size 0 a b n d0 d w0 _ R HC.out HD0.out HD.out (by omega) (by omega) hb hsz (by omega)).mono ?_
    rintro e w1 ⟨x1, s1, rfl, x1l, x1h, hs1, C1⟩
    have HC1 := Lib.hid C1
    clear C1 HC
    go_wp2_with fail
    refine (adj_any blk off cap J w.heap.size s1 a b n d0 d w0 _ R HC1.out HD0.out HD.out (by omega) (by omega) hb hsz (by omega)).mono ?_
    rintro e w2 ⟨x2, s2, rfl, x2l, x2h, hs2, C2⟩
    have HC2 := Lib.hid C2
    clear C2 HC1
    go_wp2_with fail
    refine (adj_any blk off cap K w.heap.size s2 a b n d0 d w0 _ R HC2.out HD0.out HD.out (by omega) (by omega) hb hsz (by omega)).mono ?_
    rintro e w3 ⟨x3, s3, rfl, x3l, x3h, hs3, C3⟩
    have HC3 := Lib.hid C3
    clear C3 HC2
    go_wp2_with fail
    refine (med_any blk off cap x1 x2 x3 w.heap.size s3 a b n d0 d w0 _ R HC3.out HD0.out HD.out x1l x1h x2l x2h x3l x3h hb (by omega)).mono ?_
    rintro e w4 ⟨x4, s4, rfl, x4l, x4h, hs4, C4⟩
    have HC4 := Lib.hid C4
    have cs := C4.2.1
    have fs := C4.2.2.1
    clear C4 HC3
    go_wp2_with fail
    all_goals
      go_ret2
      exact ⟨x4, _, rfl, x4l, x4h, HC4.out.1⟩
  · have h50z : ¬ (50 : Int) ≤ (b : Int) - (a : Int) := by omega
    have h50d : decide ((50 : Int) ≤ (b : Int) - (a : Int)) = false := decide_eq_false h50z
    clear hI hJ hK
    go_enter Tryd.func86, Tryd.ntmps86
    go_wp2_with fail
    refine (med_any blk off cap I J K w.heap.size 0 a b n d0 d w0 _ R HC.out HD0.out HD.out (by omega) (by omega) (by omega) (by omega) (by omega) (by omega) hb (by omega)).mono ?_
    rintro e w4 ⟨x4, s4, rfl, x4l, x4h, hs4, C4⟩
    have HC4 := Lib.hid C4
    have cs := C4.2.1
    have fs := C4.2.2.1
    clear C4 HC
    go_wp2_with fail
    all_goals
      go_ret2
      exact ⟨x4, _, rfl, x4l, x4h, HC4.out.1⟩

end Go.Proofs.YtmechinlaladiaaDoor
namespace Go.Proofs.YtmechinlaladiaaDoor
open Go.RowKit Go.Lib Go.Sort
set_option linter.unusedVariables false

/-- A world of the sort's with the generator's cell. -/
def Rnd (w0 : World) (blk off : Nat) (d : Array Int) (rb X : Nat) (W : World) : Prop :=
  SR w0 blk off d W ∧ W.cell? ⟨rb, 0, none⟩ = some (.int .u64 X) ∧ W.frozen? ⟨rb, 0, none⟩ = false ∧ w0.heap.size ≤ rb
theorem Rnd.swapped {w0 W : World} {blk off rb X : Nat} {d0 d : Array Int} (h : Rnd w0 blk off d rb X W) (R : RowR w0 blk off d0) (i j : Nat) (hi : i < d.size) (hj : j < d.size) :
    Rnd w0 blk off (swp d i j) rb X ((W.setCell ⟨blk, off + i, none⟩ (E32 d[j]!)).setCell ⟨blk, off + j, none⟩ (E32 d[i]!)).drew :=
  have hne : rb ≠ blk := by have := R.hblk; have := h.2.2.2; omega
  have hk := box_kept_swap1 hne h.2.1 h.2.2.1 (off + i) (off + j) (E32 d[j]!) (E32 d[i]!)
  ⟨SW.swapped h.1 R i j hi hj, hk.1, hk.2, h.2.2.2⟩
theorem Rnd.next {w0 W : World} {blk off rb X : Nat} {d : Array Int} (h : Rnd w0 blk off d rb X W) (Y q : Nat) : Rnd w0 blk off d rb Y ((W.setCell ⟨rb, 0, none⟩ (.int .u64 Y)).drewN q) :=
  ⟨SW.drewN (SW.setCell_new h.1 rb 0 _ h.2.2.2) q, (show (W.setCell ⟨rb, 0, none⟩ (.int .u64 Y)).cell? _ = _ from World.cell?_setCell_same' _ _ _ (by rw [h.2.1]; rfl)), (show (W.setCell ⟨rb, 0, none⟩ (.int .u64 Y)).frozen? _ = _ from by rw [World.frozen?_setCell]; exact h.2.2.1), h.2.2.2⟩

set_option maxHeartbeats 2000000 in
set_option maxRecDepth 100000 in
theorem brk_any (blk off cap a b n : Nat) (d0 d : Array Int) (w0 w : World) (R : RowR w0 blk off d0) (S : SR w0 blk off d w) (hd0 : d0.size = n) (hd : d.size = n) (hab : a + 12 < b) (hb : b ≤ n) (hsz : n < 4611686018427387904) :
    Calls Tryd.prog 85 #[.slice (some ⟨blk, off, none⟩) n cap, .int .i64 a, .int .i64 b] w (BrkPost w0 blk off n a b d) := by
  have HD := Lib.hid hd; have HD0 := Lib.hid hd0
  obtain ⟨L, hL⟩ : ∃ L, L = b - a := ⟨_, rfl⟩
  have hR0 : Rnd w0 blk off d w.heap.size L (w.alloc (.cells #[.int .u64 (L : Int)] 157)) := ⟨SW.alloc S _, by simp, by simp, S.le⟩
  have HR0 := Lib.hid hR0
  clear hR0 S hd hd0
  obtain ⟨M, hM⟩ : ∃ M : Nat, M = 1 <<< bitsLen L := ⟨_, rfl⟩
  have hM1 : 1 ≤ M := by rw [hM, Nat.one_shiftLeft]; exact Nat.two_pow_pos _
  have hM2 : M ≤ 2 * L := by rw [hM, Nat.one_shiftLeft]; exact two_pow_bitsLen_le (by omega)
  have hNP : ∀ w, Calls Tryd.prog 95 #[.int .i64 (L : Int)] w fun e w' => e = .returned (.int .u64 (M : Int)) ∧ w' = w := by rw [hM]; exact fun w => Tryd.nextPowerOfTwo L (by omega) w
  have HNP := Lib.hid hNP
  clear hM hNP
  obtain ⟨J, hJ⟩ : ∃ J, J = a + L / 4 * 2 := ⟨_, rfl⟩
  have bJ : a + 6 ≤ J ∧ J + 2 < b := by omega
  have eL : ((b : Int) - (a : Int)) = (L : Int) := by omega
  have eJ : ((a : Int) + (L : Int) / 4 * 2) = (J : Int) := by omega
  have h8 : (8 : Int) ≤ (L : Int) := by omega
  have hLb : a + L = b := by omega
  have HLb := Lib.hid hLb
  have hLn : L < 4611686018427387904 := by omega
  clear hL hJ hLb
  go_enter Tryd.func85, Tryd.ntmps85
  go_wp2_with fail
  refine (HNP.out _).mono ?_
  rintro e w1 ⟨rfl, rfl⟩
  go_wp2_with fail
  go_loopw [9] (fun vi wr => ∃ (x X : Nat) (dk : Array Int), vi = .int .i64 x ∧ J ≤ x + 1 ∧ x ≤ J + 2 ∧ X < 18446744073709551616 ∧ Hid (dk.size = n) ∧ Hid (PermIn a b d dk) ∧ Hid (Rnd w0 blk off dk w.heap.size X wr)) (fun vi _ => J + 2 - (intOf vi).toNat)
  case atStart => exact ⟨J - 1, L, d, by congr 1; omega, by omega, by omega, by omega, HD, permIn_refl _ _ _, HR0⟩
  case round =>
    clear HR0
    obtain ⟨x, X, dk, rfl, hx1, hx2, hX, HS, HP, HR⟩ := hrel
    obtain ⟨Y, hY⟩ : ∃ Y : Nat, Y = xorNextN X := ⟨_, rfl⟩
    have lY : Y < 18446744073709551616 := by rw [hY]; exact xorNextN_lt X hX
    obtain ⟨O, hO⟩ : ∃ O : Nat, O = Y &&& (M - 1) := ⟨_, rfl⟩
    have lO : O ≤ M - 1 := by rw [hO]; exact Nat.and_le_right
    have eAnd : bits .and .u64 (Y : Int) ((M : Int) - 1) = (O : Int) := by
      rw [show ((M : Int) - 1) = ((M - 1 : Nat) : Int) by omega, bits_and_u64_nat _ _ lY (by omega), hO]
    have hNext : Calls Tryd.prog 96 #[.pointer (some ⟨w.heap.size, 0, none⟩)] wr fun e w' => e = .returned (.int .u64 (Y : Int)) ∧ w' = (wr.setCell ⟨w.heap.size, 0, none⟩ (.int .u64 (Y : Int))).drewN 3 := by
      rw [hY]; exact Tryd.xorshift_Next _ _ X hX wr HR.out.2.1 HR.out.2.2.1
    have HN := Lib.hid hNext
    obtain ⟨o2, ho2⟩ : ∃ o2 : Nat, o2 = if L ≤ O then O - L else O := ⟨_, rfl⟩
    have lo2 : o2 < L := by rw [ho2]; split <;> omega
    obtain ⟨W2, hW2⟩ : ∃ W2, W2 = (wr.setCell ⟨w.heap.size, 0, none⟩ (.int .u64 (Y : Int))).drewN 3 := ⟨_, rfl⟩
    have R2 : Rnd w0 blk off dk w.heap.size Y W2 := by rw [hW2]; exact HR.out.next Y 3
    obtain ⟨G, hG⟩ : ∃ G : Nat → Int, ∀ t, G t = dk[t]! := ⟨fun t => dk[t]!, fun _ => rfl⟩
    have cw := SR.cells R2.1 R (by rw [HS.out, HD0.out]) HS.out hG
    have fw := SR.free R2.1 R (by rw [HS.out, HD0.out]) HS.out
    have HR2 := Lib.hid R2; have HG := Lib.hid hG; have HLb2 := HLb.out
    have HW2 := Lib.hid hW2
    have HRS := Lib.hid HR.out.1
    clear hNext hY hO R2 hG hW2 HR
    by_cases hx : x ≤ J + 1
    · have hxz : (x : Int) ≤ (J : Int) + 1 := by omega
      obtain ⟨u3, cu3⟩ := SW.c2 HR2.out.1 R (by rw [HS.out, HD0.out]) x (a + o2) (by rw [HS.out]; omega) (by rw [HS.out]; omega) (.int .i32 (G (a + o2)))
      have fin : Hid (∃ x' X' : Nat, ∃ dk' : Array Int, Value.int .i64 ((x : Int) + 1) = .int .i64 (x' : Nat) ∧ J ≤ x' + 1 ∧ x' ≤ J + 2 ∧ X' < 18446744073709551616 ∧ Hid (dk'.size = n) ∧ Hid (PermIn a b d dk') ∧
          Hid (Rnd w0 blk off dk' w.heap.size X' ((W2.setCell ⟨blk, off + x, none⟩ (.int .i32 (G (a + o2)))).setCell ⟨blk, off + (a + o2), none⟩ (.int .i32 (G x))).drew)) :=
        (show _ from ⟨x + 1, Y, swp dk x (a + o2), by go_num, by omega, by omega, lY, (show _ = _ from by rw [size_swp]; exact HS.out),
          (show PermIn _ _ _ _ from permIn_trans _ _ _ _ _ HP.out (swp_permIn dk a b x (a + o2) (by omega) (by omega) (by omega) (by omega) (by rw [HS.out]; exact hb))),
          (show Rnd _ _ _ _ _ _ _ from by rw [HG.out, HG.out]; exact HR2.out.swapped R x (a + o2) (by rw [HS.out]; omega) (by rw [HS.out]; omega))⟩)
      clear HLb2
      by_cases hLO : L ≤ O
      · have hLOz : (L : Int) ≤ (O : Int) := by omega
        rw [if_pos hLO] at ho2
        have eo : ((O : Int) - (L : Int)) = (o2 : Int) := by omega
        clear ho2 hLO
        go_wp2_with fail
        refine HN.out.mono ?_
        rintro e w3 ⟨rfl, rfl⟩
        rw [← HW2.out]
        go_wp2_with fail
        go_region
        all_goals go_wp2
        go_roundw
        case rel => exact fin.out
        case measure => simp [intOf]; omega
      · have hLOz : ¬ (L : Int) ≤ (O : Int) := by omega
        rw [if_neg hLO] at ho2
        obtain rfl : o2 = O := ho2
        clear hLO
        go_wp2_with fail
        refine HN.out.mono ?_
        rintro e w3 ⟨rfl, rfl⟩
        rw [← HW2.out]
        go_wp2_with fail
        go_region
        all_goals go_wp2
        go_roundw
        case rel => exact fin.out
        case measure => simp [intOf]; omega
    · have hxz : ¬ (x : Int) ≤ (J : Int) + 1 := by omega
      go_wp2
      go_end0
      exact ⟨dk, rfl, HS.out, HP.out, HRS.out⟩

end Go.Proofs.YtmechinlaladiaaDoor
namespace Go.Proofs.YtmechinlaladiaaDoor
open Go.RowKit Go.Lib Go.Sort
set_option linter.unusedVariables false

def PdqPost (w0 : World) (blk off n a b : Nat) (d : Array Int) (e : Ending) (w' : World) : Prop :=
  ∃ d' : Array Int, e = .returned (.tuple #[]) ∧ d'.size = n ∧ PermIn a b d d' ∧ SortedIn ltInt a b d' ∧ SR w0 blk off d' w'

set_option maxHeartbeats 6400000 in
set_option maxRecDepth 1000000 in
theorem pdq_any : ∀ (N blk off cap a b limit n : Nat) (d0 d : Array Int) (w0 w : World), b - a < N → RowR w0 blk off d0 → SR w0 blk off d w → d0.size = n → d.size = n → a ≤ b → b ≤ n → n < 4611686018427387904 → limit < 4611686018427387904 → Ahead a b d →
    Calls Tryd.prog 81 #[.slice (some ⟨blk, off, none⟩) n cap, .int .i64 a, .int .i64 b, .int .i64 limit] w (PdqPost w0 blk off n a b d) := by
  intro N
  induction N with
  | zero => intro _ _ _ _ _ _ _ _ _ _ _ h; exact absurd h (Nat.not_lt_zero _)
  | succ N ih =>
    intro blk off cap a b limit n d0 d w0 w hN R S hd0 hd hab hb hsz hlimit hA
    have HD := Lib.hid hd; have HD0 := Lib.hid hd0; have S0 := Lib.hid S; have HA0 := Lib.hid hA
    have F0 : Hid (Fin' a b d a b d) := (show Fin' _ _ _ _ _ _ from fun d' h1 h2 => ⟨h1, h2⟩)
    have IH := Lib.hid ih
    clear hd hd0 S hA ih
    go_enter Tryd.func81, Tryd.ntmps81
    go_wp2
    go_loopg [1, 2, 3, 8, 9] (b - a) (fun k s1 s2 s3 s8 s9 wr => ∃ (a' b' lim : Nat) (wb wp : Bool) (dk : Array Int), s1 = .int .i64 a' ∧ s2 = .int .i64 b' ∧ s3 = .int .i64 lim ∧ s8 = .bool wb ∧ s9 = .bool wp ∧
      a' ≤ b' ∧ b' ≤ n ∧ b' - a' ≤ k ∧ k ≤ b - a ∧ lim ≤ limit ∧ Hid (dk.size = n) ∧ Hid (Ahead a' b' dk) ∧ Hid (SR w0 blk off dk wr) ∧ Hid (Fin' a b d a' b' dk))
    case atStart => exact ⟨a, b, limit, true, true, d, rfl, rfl, rfl, rfl, rfl, hab, hb, Nat.le_refl _, Nat.le_refl _, Nat.le_refl _, HD, HA0, S0, F0⟩
    case round =>
      clear S0 HA0 F0
      obtain ⟨a', b', lim, wb, wp, dk, rfl, rfl, rfl, rfl, rfl, hab', hb', hk, hkN, hlim, HS, HA, AS, HF⟩ := hrel
      by_cases h12 : b' - a' ≤ 12
      · have h12z : (b' : Int) - (a' : Int) ≤ 12 := by omega
        go_wp2_with fail
        refine (ins_any blk off cap a' b' n d0 dk w0 _ R AS.out HD0.out HS.out hab' hb' hsz).mono ?_
        rintro e w1 ⟨rfl, S1⟩
        have AS1 := Lib.hid S1
        clear S1
        go_wp2_with fail
        (try simp only [Exit.inBlock, Exit.then]); refine bodyPost_ret (results_none rfl _ _ _) rfl ?_
        obtain ⟨p1, p2⟩ := insertionSort_holds swo_ltInt dk a' b' hab' (by rw [HS.out]; exact hb')
        obtain ⟨q1, q2⟩ := HF.out _ p1 p2
        exact ⟨_, rfl, by rw [p1.1]; exact HS.out, q1, q2, AS1.out⟩
      · have h12z : ¬ ((b' : Int) - (a' : Int) ≤ 12) := by omega
        by_cases hl0 : lim = 0
        · subst hl0
          go_wp2_with fail
          refine (heap_any blk off cap a' b' n d0 dk w0 _ R AS.out HD0.out HS.out hab' hb' hsz).mono ?_
          rintro e w1 ⟨rfl, S1⟩
          have AS1 := Lib.hid S1
          clear S1
          go_wp2_with fail
          (try simp only [Exit.inBlock, Exit.then]); refine bodyPost_ret (results_none rfl _ _ _) rfl ?_
          obtain ⟨p1, p2⟩ := heapSort_holds swo_ltInt dk a' b' hab' (by rw [HS.out]; exact hb')
          obtain ⟨q1, q2⟩ := HF.out _ p1 p2
          exact ⟨_, rfl, by rw [p1.1]; exact HS.out, q1, q2, AS1.out⟩
        · have hl0z : ¬ ((lim : Int) = 0) := by omega
          -- 'if !wasBalanced { breakPatterns; limit-- }'
          go_upto_if 35 with fail
          go_cut [3] from 19 (fun s3 wc => ∃ (lim2 : Nat) (d1 : Array Int), s3 = .int .i64 lim2 ∧ lim2 ≤ lim ∧ Hid (d1.size = n) ∧ Hid (PermIn a' b' dk d1) ∧ Hid (SR w0 blk off d1 wc))
          case first =>
            cases wb
            · go_wp2_with fail
              refine (brk_any blk off cap a' b' n d0 dk w0 _ R AS.out HD0.out HS.out (by omega) hb' hsz).mono ?_
              rintro e w1 ⟨d1, rfl, hs1, hp1, S1⟩
              have AS1 := Lib.hid S1; have HS1 := Lib.hid hs1; have HP1 := Lib.hid hp1
              clear S1 hs1 hp1 AS
              go_wp2_with fail
              go_meet
              case rel => exact ⟨lim - 1, d1, by congr 1; omega, by omega, HS1, HP1, AS1⟩
            · go_wp2_with fail
              go_meet
              case rel => exact ⟨lim, dk, rfl, Nat.le_refl _, HS, permIn_refl _ _ _, AS⟩
          case rest =>
            clear AS
            obtain ⟨lim2, d1, rfl, hlim2, HS1, HP1, AS1⟩ := hcut
            go_upto_if 50 with (go_at_call 86; refine (piv_any blk off cap a' b' n d0 d1 w0 _ R AS1.out HD0.out HS1.out (by omega) hb' hsz).mono ?_; rintro e w2 ⟨p, hh, rfl, hpl, hph, S2⟩)
            have AS2 := Lib.hid S2
            clear S2 AS1
            -- 'if hint == decreasingHint { reverseRange; .. }'
            go_cut [11, 12] from 19 (fun s11 s12 wc => ∃ (pv : Nat) (h2 : Int) (d2 : Array Int), s11 = .int .i64 pv ∧ s12 = .int .i64 h2 ∧ a' ≤ pv ∧ pv < b' ∧ Hid (d2.size = n) ∧ Hid (PermIn a' b' dk d2) ∧ Hid (SR w0 blk off d2 wc))
            case first =>
              by_cases hh2 : hh = 2
              · subst hh2
                go_wp2_with fail
                refine (rev_any blk off cap a' b' n d0 d1 w0 _ R AS2.out HD0.out HS1.out hab' hb' hsz).mono ?_
                rintro e w3 ⟨rfl, S3⟩
                have AS3 := Lib.hid S3
                have hp3 := reverseRange_holds d1 a' b' hab' (by rw [HS1.out]; exact hb')
                have HS3 : Hid ((reverseRange d1 a' b').size = n) := (show _ = _ from by rw [hp3.1]; exact HS1.out)
                have HP3 : Hid (PermIn a' b' dk (reverseRange d1 a' b')) := (show PermIn _ _ _ _ from permIn_trans _ _ _ _ _ HP1.out hp3)
                clear S3 hp3 AS2
                go_wp2_with fail
                go_meet
                case rel => exact ⟨(b' - 1) - (p - a'), _, _, by congr 1; omega, rfl, by omega, by omega, HS3, HP3, AS3⟩
              · go_wp2_with fail
                go_meet
                case rel => exact ⟨p, hh, d1, rfl, rfl, hpl, hph, HS1, HP1, AS2⟩
            case rest =>
              clear AS2
              obtain ⟨pv, h2, d2, rfl, rfl, hpv1, hpv2, HS2, HP2, AS2⟩ := hcut
              -- the test of the three flags
              go_upto_region 15 with fail
              go_cut [12, 68] from 19 (fun s12 s68 wx => ∃ bb : Bool, s12 = .int .i64 h2 ∧ s68 = .bool bb ∧ Hid (SR w0 blk off d2 wx))
              case first =>
                by_cases hh1 : h2 = 1
                · subst hh1
                  cases wb <;> cases wp <;> (go_wp2_with fail; go_meet; exact ⟨_, rfl, rfl, AS2⟩)
                · cases wb <;> cases wp <;> (go_wp2_with fail; go_meet; exact ⟨_, rfl, rfl, AS2⟩)
              case rest =>
                clear AS2
                obtain ⟨bb, rfl, rfl, AS2⟩ := hcut
                go_upto_if 68 with fail
                go_cut [] from 19 (fun wx => ∃ d3 : Array Int, Hid (d3.size = n) ∧ Hid (PermIn a' b' dk d3) ∧ Hid (SR w0 blk off d3 wx))
                case first =>
                  cases bb
                  · go_wp2_with fail
                    go_meet
                    case rel => exact ⟨d2, HS2, HP2, AS2⟩
                  · obtain ⟨p1, p2⟩ := partialInsertionSort_holds swo_ltInt d2 a' b' (by omega) (by rw [HS2.out]; exact hb') (HA.out.perm (by rw [HS.out]; exact hb') HP2.out)
                    have P1 := Lib.hid p1; have P2 := Lib.hid p2
                    clear p1 p2
                    go_wp2_with fail
                    refine (pins_any blk off cap a' b' n d0 d2 w0 _ R AS2.out HD0.out HS2.out (by omega) hb' hsz).mono ?_
                    rintro e w4 ⟨rfl, S4⟩
                    have AS4 := Lib.hid S4
                    clear S4 AS2
                    cases hr : (partialInsertionSort ltInt d2 a' b').2 with
                    | true =>
                      have HR := Lib.hid hr
                      clear hr
                      go_wp2_with fail
                      (try simp only [Exit.inBlock, Exit.then]); refine bodyPost_ret (results_none rfl _ _ _) rfl ?_
                      obtain ⟨q1, q2⟩ := HF.out _ (permIn_trans _ _ _ _ _ HP2.out P1.out) (P2.out HR.out)
                      exact ⟨_, rfl, by rw [P1.out.1]; exact HS2.out, q1, q2, AS4.out⟩
                    | false =>
                      clear hr
                      go_wp2_with fail
                      go_meet
                      case rel => exact ⟨_, (show _ = _ from by rw [P1.out.1]; exact HS2.out), (show PermIn _ _ _ _ from permIn_trans _ _ _ _ _ HP2.out P1.out), AS4⟩
                case rest =>
                  clear AS2
                  obtain ⟨d3, HS3, HP3, AS3⟩ := hcut
                  obtain ⟨G, hG⟩ : ∃ G : Nat → Int, ∀ t, G t = d3[t]! := ⟨fun t => d3[t]!, fun _ => rfl⟩
                  have HG := Lib.hid hG
                  have cw := SR.cells AS3.out R (by rw [HS3.out, HD0.out]) HS3.out hG
                  have fw := SR.free AS3.out R (by rw [HS3.out, HD0.out]) HS3.out
                  clear hG
                  -- 'a > 0 && !cmp.Less(data[a-1], data[pivot])'
                  go_upto_region 17 with fail
                  go_cut [87] from 19 (fun s87 wx => ∃ q : Bool, s87 = .bool q ∧ Hid (q = true → 0 < a' ∧ ltInt d3[a' - 1]! d3[pv]! = false) ∧ Hid (SR w0 blk off d3 wx))
                  case first =>
                    rcases Nat.eq_zero_or_pos a' with ha0 | ha0
                    · have ha0z : decide ((a' : Int) > 0) = false := decide_eq_false (by omega)
                      go_big_quiet (first | (go_at_call 89; refine Calls.quiet_of_same (cmpless_any _ _ _)))
                      go_wp2_with fail
                      go_meet
                      case rel => exact ⟨false, rfl, (show false = true → _ from fun h => by cases h), SW.drewN AS3.out nq⟩
                    · have ha0z : (a' : Int) > 0 := by omega
                      go_big_quiet (first | (go_at_call 89; refine Calls.quiet_of_same (cmpless_any _ _ _)))
                      go_wp2_with fail
                      go_meet
                      case rel => exact ⟨_, rfl, (show _ → _ from fun h => ⟨ha0, by rw [← HG.out, ← HG.out]; simpa using h⟩), SW.drewN AS3.out nq⟩
                  case rest =>
                    clear cw fw AS3
                    obtain ⟨q, rfl, HQ, AS3⟩ := hcut
                    have HA3 : Hid (Ahead a' b' d3) := (show Ahead _ _ _ from HA.out.perm (by rw [HS.out]; exact hb') HP3.out)
                    have HF3 : Hid (Fin' a b d a' b' d3) := (show Fin' _ _ _ _ _ _ from HF.out.perm HP3.out)
                    clear HA HF HP3 HP2 HP1 HG
                    cases q with
                    | false =>
                      obtain ⟨mid, ap, d4, hx⟩ : ∃ mid ap d4, partition ltInt d3 a' b' pv = (mid, ap, d4) := ⟨(partition ltInt d3 a' b' pv).1, (partition ltInt d3 a' b' pv).2.1, (partition ltInt d3 a' b' pv).2.2, rfl⟩
                      obtain ⟨r1, r2, r3, rL, rR, f1, f2⟩ := part_round hpv1 hpv2 (by rw [HS3.out]; exact hb') HA3.out HF3.out hx
                      have hc := prt_any blk off cap a' b' pv n d0 d3 w0 _ R AS3.out HD0.out HS3.out hpv1 hpv2 hb' hsz
                      rw [hx] at hc
                      simp only [] at hc
                      have HC := Lib.hid hc; have HRL := Lib.hid rL; have HRR := Lib.hid rR; have HF1 := Lib.hid f1; have HF2 := Lib.hid f2
                      have HS4 : Hid (d4.size = n) := (show _ = _ from by rw [r3]; exact HS3.out)
                      clear hc hx rL rR f1 f2 r3
                      go_upto_if 113 with (go_at_call 91; refine HC.out.mono ?_; rintro e w7 ⟨rfl, S7⟩)
                      have AS7 := Lib.hid S7
                      clear S7 AS3 HC
                      by_cases h4 : mid - a' < b' - mid
                      · have h4z : (mid : Int) - (a' : Int) < (b' : Int) - (mid : Int) := by omega
                        go_wp2_with fail
                        refine (IH.out blk off cap a' mid lim2 n d0 d4 w0 _ (by omega) R AS7.out HD0.out HS4.out r1 (by omega) hsz (by omega) HRL.out).mono ?_
                        rintro e w8 ⟨d5, rfl, hs5, hp5, hso5, S8⟩
                        obtain ⟨g1, g2⟩ := HF1.out d5 hp5 hso5
                        have AS8 := Lib.hid S8; have HS5 := Lib.hid hs5; have G1 := Lib.hid g1; have G2 := Lib.hid g2
                        clear S8 hs5 g1 g2 hp5 hso5 AS7
                        go_wp2_with fail
                        go_roundg (b' - (mid + 1))
                        case measure => omega
                        case rel => exact ⟨mid + 1, b', lim2, _, ap, d5, by go_num, rfl, rfl, rfl, rfl, by omega, hb', Nat.le_refl _, by omega, by omega, HS5, G1, AS8, G2⟩
                      · have h4z : ¬ ((mid : Int) - (a' : Int) < (b' : Int) - (mid : Int)) := by omega
                        have hih := IH.out blk off cap (mid + 1) b' lim2 n d0 d4 w0 w7 (by omega) R AS7.out HD0.out HS4.out (by omega) hb' hsz (by omega) HRR.out
                        rw [show ((mid + 1 : Nat) : Int) = (mid : Int) + 1 by omega] at hih
                        have HIH := Lib.hid hih
                        clear hih
                        go_wp2_with fail
                        refine HIH.out.mono ?_
                        rintro e w8 ⟨d5, rfl, hs5, hp5, hso5, S8⟩
                        obtain ⟨g1, g2⟩ := HF2.out d5 hp5 hso5
                        have AS8 := Lib.hid S8; have HS5 := Lib.hid hs5; have G1 := Lib.hid g1; have G2 := Lib.hid g2
                        clear S8 hs5 g1 g2 hp5 hso5 AS7 HIH
                        go_wp2_with fail
                        go_roundg (mid - a')
                        case measure => omega
                        case rel => exact ⟨a', mid, lim2, _, ap, d5, rfl, rfl, rfl, rfl, rfl, r1, by omega, Nat.le_refl _, by omega, by omega, HS5, G1, AS8, G2⟩
                    | true =>
                      obtain ⟨q1, q2⟩ := HQ.out rfl
                      obtain ⟨mid, d4, hx⟩ : ∃ mid d4, partitionEqual ltInt d3 a' b' pv = (mid, d4) := ⟨(partitionEqual ltInt d3 a' b' pv).1, (partitionEqual ltInt d3 a' b' pv).2, rfl⟩
                      obtain ⟨r1, r2, r3, rA, rF⟩ := eq_round q1 hpv1 hpv2 (by rw [HS3.out]; exact hb') HA3.out HF3.out q2 hx
                      have hc := peq_any blk off cap a' b' pv n d0 d3 w0 _ R AS3.out HD0.out HS3.out hpv1 hpv2 hb' hsz
                      rw [hx] at hc
                      simp only [] at hc
                      have HC := Lib.hid hc; have HRA := Lib.hid rA; have HRF := Lib.hid rF
                      have HS4 : Hid (d4.size = n) := (show _ = _ from by rw [r3]; exact HS3.out)
                      clear hc hx rA rF r3 q2
                      go_wp2_with fail
                      refine HC.out.mono ?_
                      rintro e w7 ⟨rfl, S7⟩
                      have AS7 := Lib.hid S7
                      clear S7 AS3 HC
                      go_wp2_with fail
                      go_roundg (b' - mid)
                      case measure => omega
                      case rel => exact ⟨mid, b', lim2, wb, wp, d4, rfl, rfl, rfl, rfl, rfl, r2, hb', Nat.le_refl _, by omega, by omega, HS4, HRA, AS7, HRF⟩

end Go.Proofs.YtmechinlaladiaaDoor
namespace Go.Proofs.YtmechinlaladiaaDoor
open Go.RowKit Go.Lib Go.Sort
set_option linter.unusedVariables false

set_option maxHeartbeats 400000 in
theorem sort_any (blk off cap n : Nat) (d0 d : Array Int) (w0 w : World) (R : RowR w0 blk off d0) (S : SR w0 blk off d w) (hd0 : d0.size = n) (hd : d.size = n) (hsz : n < 4611686018427387904) :
    Calls Tryd.prog 77 #[.slice (some ⟨blk, off, none⟩) n cap] w (PdqPost w0 blk off n 0 n d) := by
  have hk : (Lib.bitLen n : Int) ≤ 100 ∧ 0 ≤ (Lib.bitLen n : Int) := by
    have h2 := (bitsLen_le_iff n 62).2 (by omega)
    rw [bitLen_eq n (by omega)]
    omega
  have HD := Lib.hid hd; have HD0 := Lib.hid hd0; have S0 := Lib.hid S
  obtain ⟨L, hL⟩ : ∃ L : Nat, L = Lib.bitLen n := ⟨_, rfl⟩
  have hLen : ∀ w, Calls Tryd.prog 82 #[.int .u64 (n : Int)] w fun e w' => e = .returned (.int .i64 (L : Int)) ∧ w' = w := fun w => by
    have h := Tryd.bits_Len (n : Int) w (by omega) (by omega)
    rw [Int.toNat_natCast, ← hL] at h
    exact h
  rw [← hL] at hk
  have HLen := Lib.hid hLen
  clear hd hd0 S hL hLen
  go_enter Tryd.func77, Tryd.ntmps77
  go_wp2_with fail
  refine (HLen.out _).mono ?_
  rintro e w1 ⟨rfl, rfl⟩
  go_wp2_with fail
  refine (pdq_any (n - 0 + 1) blk off cap 0 n L n d0 d w0 _ (by omega) R S0.out HD0.out HD.out (Nat.zero_le _) (Nat.le_refl _) hsz (by omega) (Or.inl rfl)).mono ?_
  rintro e w2 ⟨d', rfl, hs', hp', hso', S'⟩
  have AS := Lib.hid S'
  clear S'
  go_wp2_with fail
  go_end0
  exact ⟨d', rfl, hs', hp', hso', AS.out⟩

theorem comp_len (d : Array Int) (n : Nat) (hd : d.size = n) (hs : SortedIn ltInt 0 n d) : (compactUpTo d n).length = n ↔ d.toList.Nodup := by
  have e : (compactUpTo d n).length = ((List.range n).filter (keeps d)).length := by simp [compactUpTo]
  have h1 : ((List.range n).filter (keeps d)).length = n ↔ ∀ j, j < n → keeps d j = true := by
    have h := List.length_filter_eq_length_iff (p := keeps d) (l := List.range n)
    rw [List.length_range] at h
    rw [h]
    simp [List.mem_range]
  rw [e, h1]
  unfold List.Nodup
  rw [List.pairwise_iff_getElem]
  have eg : ∀ i (h : i < d.toList.length), d.toList[i] = d[i]! := fun i h => by
    rw [Array.getElem_toList, getElem!_pos d i (by simpa using h)]
  constructor
  · intro h i j hi hj hij
    rw [eg i hi, eg j hj]
    have hj' : j < n := by rw [← hd]; simpa using hj
    have k := h j hj'
    unfold keeps at k
    have k2 : d[j]! ≠ d[j - 1]! := by
      rcases (of_decide_eq_true k) with h0 | h0
      · omega
      · exact h0
    have s1 := lt_f.1 (hs (j - 1) j (by omega) (by omega) hj')
    by_cases hij' : i = j - 1
    · subst hij'; exact fun he => k2 he.symm
    · have s2 := lt_f.1 (hs i (j - 1) (by omega) (by omega) (by omega))
      omega
  · intro h j hj
    unfold keeps
    apply decide_eq_true
    by_cases h0 : j = 0
    · exact Or.inl h0
    · refine Or.inr ?_
      have := h (j - 1) j (by simp; omega) (by simp; omega) (by omega)
      rw [eg, eg] at this
      exact fun he => this he.symm

theorem sw_below {w0 W : World} {blk off : Nat} {d : Array Int} (hblk : blk < w0.heap.size) (S : SR w0 blk off d W) : RowKit.Below blk w0 W := by
  obtain ⟨n, os, rfl⟩ := S
  refine ⟨rfl, rfl, rfl, ?_, fun k hk => ?_⟩
  · unfold sortWorld
    rw [size_grow]
    simp [putRow, mapBlock]
  · unfold sortWorld
    rw [heap_grow_old _ _ (by simp [putRow, mapBlock]; omega)]
    show ((Sort.ahead w0 n).heap.modify blk _)[k]? = _
    rw [Array.getElem?_modify, if_neg (by omega)]
    rfl
theorem putRow_below (w : World) (q blk off : Nat) (d : Array Int) : RowKit.Below blk w (putRow E32 (Sort.ahead w q) blk off d) := by
  refine ⟨rfl, rfl, rfl, by simp [putRow, mapBlock], fun k hk => ?_⟩
  show ((Sort.ahead w q).heap.modify blk _)[k]? = _
  rw [Array.getElem?_modify, if_neg (by omega)]
  rfl

def CompPost (blk off n cap : Nat) (d : Array Int) (w : World) (e : Ending) (w' : World) : Prop :=
  ∃ k : Nat, e = .returned (.slice (some ⟨blk, off, none⟩) k cap) ∧ (k = n ↔ d.toList.Nodup) ∧ k ≤ n ∧ RowKit.Below blk w w'

theorem compact_any (blk off cap n : Nat) (d0 d : Array Int) (w0 w : World) (R : RowR w0 blk off d0) (S : SR w0 blk off d w) (hd0 : d0.size = n) (hd : d.size = n) (hsz : n < 4611686018427387904) (hcap : n ≤ cap) (hs : SortedIn ltInt 0 n d) :
    Calls Tryd.prog 78 #[.slice (some ⟨blk, off, none⟩) n cap] w (CompPost blk off n cap d w) := by
  have hH := SW.holds S R.hblk R.hH (by rw [hd, hd0])
  have h := AnyE.slices_Compact Tryd.compactR_l E32 oneE32 (EqlAt.intD _ _ .i32) (NeqAt.intD _ _ .i32) 0 Tryd.zeroValue21 blk off cap d w hH (by omega) (by omega)
  change Calls Tryd.prog 78 _ _ _ at h
  rw [hd] at h
  refine h.mono ?_
  rintro e w' ⟨rfl, q, rfl⟩
  refine ⟨_, rfl, comp_len d n hd hs, ?_, putRow_below _ _ _ _ _⟩
  simp only [compactUpTo, List.length_map]
  have := List.length_filter_le (keeps d) (List.range n)
  simpa using this

/-- BOTH, ONE BEHIND THE OTHER: whether no rune stood twice. -/
theorem nodup_perm {n : Nat} {d d' : Array Int} (hd : d.size = n) (h : PermIn 0 n d d') : d'.toList.Nodup ↔ d.toList.Nodup := by
  have h2 := h.2.2
  have e1 : d'.extract 0 n = d' := by rw [← hd, ← h.1]; exact Array.extract_size
  have e2 : d.extract 0 n = d := by rw [← hd]; exact Array.extract_size
  rw [e1, e2] at h2
  exact h2.nodup_iff

end Go.Proofs.YtmechinlaladiaaDoor
