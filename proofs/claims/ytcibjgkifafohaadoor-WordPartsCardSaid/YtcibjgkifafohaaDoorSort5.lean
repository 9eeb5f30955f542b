/-
  slices.Sort AT []rune: order2Ordered, medianOrdered, medianAdjacentOrdered, choosePivotOrdered, breakPatternsOrdered: of the pivot only that it lies in the part, of the broken patterns only that they are a permutation.
-/
import Derived.Test.YtcibjgkifafohaaDoorSort4
import Derived.Test.YtcibjgkifafohaaDoorShelfX
import Derived.Sort.LotD5
import Derived.Laws.Bits64
import Derived.Laws.Bits64b
namespace Go.Proofs.YtcibjgkifafohaaDoor
open Go.RowKit Go.Lib Go.Sort
set_option linter.unusedVariables false

abbrev CR (w0 : World) (blk off : Nat) (d : Array Int) (c s : Nat) (W : World) : Prop := Cnt1 E32 w0 blk off d c s W
def PairPost (w0 : World) (blk off : Nat) (d : Array Int) (c s lo hi : Nat) (e : Ending) (w' : World) : Prop :=
  ∃ x y s' : Nat, e = .returned (.tuple #[.int .i64 x, .int .i64 y]) ∧ lo ≤ x ∧ x < hi ∧ lo ≤ y ∧ y < hi ∧ s' ≤ s + 1 ∧ CR w0 blk off d c s' w'
def MedPost (w0 : World) (blk off : Nat) (d : Array Int) (c s lo hi : Nat) (e : Ending) (w' : World) : Prop :=
  ∃ x s' : Nat, e = .returned (.int .i64 x) ∧ lo ≤ x ∧ x < hi ∧ s' ≤ s + 3 ∧ CR w0 blk off d c s' w'
def PivPost (w0 : World) (blk off : Nat) (d : Array Int) (lo hi : Nat) (e : Ending) (w' : World) : Prop :=
  ∃ (p : Nat) (h : Int), e = .returned (.tuple #[.int .i64 p, .int .i64 h]) ∧ lo ≤ p ∧ p < hi ∧ SR w0 blk off d w'
def BrkPost (w0 : World) (blk off n a b : Nat) (d : Array Int) (e : Ending) (w' : World) : Prop :=
  ∃ d' : Array Int, e = .returned (.tuple #[]) ∧ d'.size = n ∧ PermIn a b d d' ∧ SR w0 blk off d' w'

set_option maxHeartbeats 1000000 in
set_option maxRecDepth 100000 in
theorem o2_any (blk off cap a b c s lo hi n : Nat) (d0 d : Array Int) (w0 w : World) (R : RowR w0 blk off d0) (C : CR w0 blk off d c s w) (hd0 : d0.size = n) (hd : d.size = n) (ha : lo ≤ a) (ha2 : a < hi) (hb : lo ≤ b) (hb2 : b < hi) (hn : hi ≤ n) (hs : s < 1000) :
    Calls Tryd.prog 165 #[.slice (some ⟨blk, off, none⟩) n cap, .int .i64 a, .int .i64 b, .pointer (some ⟨c, 0, none⟩)] w (PairPost w0 blk off d c s lo hi) := by
  obtain ⟨G, hG⟩ : ∃ G : Nat → Int, ∀ t, G t = d[t]! := ⟨fun t => d[t]!, fun _ => rfl⟩
  have cw := SR.cells C.1 R (by rw [hd, hd0]) hd hG
  have fw := SR.free C.1 R (by rw [hd, hd0]) hd
  have cs := C.2.1
  have fs := C.2.2.1
  have HC := Lib.hid C
  clear C hG hd hd0
  go_enter Tryd.func165, Tryd.ntmps165
  go_wp2_with fail
  go_big_quiet (first | (go_at_call 156; refine Calls.quiet_of_same (cmpless_any _ _ _)))
  go_wp2_with fail
  · go_ret2
    have h := Cnt1.bump (Cnt1.grown HC.out nq #[]) (s + 1)
    rw [grow_empty, show ((s + 1 : Nat) : Int) = (s : Int) + 1 by omega] at h
    exact ⟨b, a, s + 1, rfl, hb, hb2, ha, ha2, Nat.le_refl _, h⟩
  · go_ret2
    have h := Cnt1.grown HC.out nq #[]
    rw [grow_empty] at h
    exact ⟨a, b, s, rfl, ha, ha2, hb, hb2, by omega, h⟩

set_option maxHeartbeats 1000000 in
set_option maxRecDepth 100000 in
theorem med_any (blk off cap a b k c s lo hi n : Nat) (d0 d : Array Int) (w0 w : World) (R : RowR w0 blk off d0) (C : CR w0 blk off d c s w) (hd0 : d0.size = n) (hd : d.size = n) (ha : lo ≤ a) (ha2 : a < hi) (hb : lo ≤ b) (hb2 : b < hi) (hk : lo ≤ k) (hk2 : k < hi) (hn : hi ≤ n) (hs : s < 900) :
    Calls Tryd.prog 163 #[.slice (some ⟨blk, off, none⟩) n cap, .int .i64 a, .int .i64 b, .int .i64 k, .pointer (some ⟨c, 0, none⟩)] w (MedPost w0 blk off d c s lo hi) := by
  have HD := Lib.hid hd; have HD0 := Lib.hid hd0; have HC := Lib.hid C
  clear hd hd0 C
  go_enter Tryd.func163, Tryd.ntmps163
  go_wp2_with fail
  refine (o2_any blk off cap a b c s lo hi n d0 d w0 _ R HC.out HD0.out HD.out ha ha2 hb hb2 hn (by omega)).mono ?_
  rintro e w1 ⟨x1, y1, s1, rfl, x1l, x1h, y1l, y1h, hs1, C1⟩
  have HC1 := Lib.hid C1
  clear C1 HC
  go_wp2_with fail
  refine (o2_any blk off cap y1 k c s1 lo hi n d0 d w0 _ R HC1.out HD0.out HD.out y1l y1h hk hk2 hn (by omega)).mono ?_
  rintro e w2 ⟨x2, y2, s2, rfl, x2l, x2h, y2l, y2h, hs2, C2⟩
  have HC2 := Lib.hid C2
  clear C2 HC1
  go_wp2_with fail
  refine (o2_any blk off cap x1 x2 c s2 lo hi n d0 d w0 _ R HC2.out HD0.out HD.out x1l x1h x2l x2h hn (by omega)).mono ?_
  rintro e w3 ⟨x3, y3, s3, rfl, x3l, x3h, y3l, y3h, hs3, C3⟩
  have HC3 := Lib.hid C3
  clear C3 HC2
  go_wp2_with fail
  go_ret
  exact ⟨y3, s3, rfl, y3l, y3h, by omega, HC3.out⟩

set_option maxHeartbeats 1000000 in
set_option maxRecDepth 100000 in
theorem adj_any (blk off cap a c s lo hi n : Nat) (d0 d : Array Int) (w0 w : World) (R : RowR w0 blk off d0) (C : CR w0 blk off d c s w) (hd0 : d0.size = n) (hd : d.size = n) (ha : lo + 1 ≤ a) (ha2 : a + 1 < hi) (hn : hi ≤ n) (hsz : n < 4611686018427387904) (hs : s < 900) :
    Calls Tryd.prog 162 #[.slice (some ⟨blk, off, none⟩) n cap, .int .i64 a, .pointer (some ⟨c, 0, none⟩)] w (MedPost w0 blk off d c s lo hi) := by
  have HD := Lib.hid hd; have HD0 := Lib.hid hd0; have HC := Lib.hid C
  clear hd hd0 C
  go_enter Tryd.func162, Tryd.ntmps162
  go_wp2_with fail
  rw [show ((a : Int) - 1) = ((a - 1 : Nat) : Int) by omega, show ((a : Int) + 1) = ((a + 1 : Nat) : Int) by omega]
  refine (med_any blk off cap (a - 1) a (a + 1) c s lo hi n d0 d w0 _ R HC.out HD0.out HD.out (by omega) (by omega) (by omega) (by omega) (by omega) (by omega) hn hs).mono ?_
  rintro e w1 ⟨x1, s1, rfl, x1l, x1h, hs1, C1⟩
  have HC1 := Lib.hid C1
  clear C1 HC
  go_wp2_with fail
  go_ret
  exact ⟨x1, s1, rfl, x1l, x1h, hs1, HC1.out⟩

set_option maxHeartbeats 2000000 in
set_option maxRecDepth 100000 in
theorem piv_any (blk off cap a b n : Nat) (d0 d : Array Int) (w0 w : World) (R : RowR w0 blk off d0) (S : SR w0 blk off d w) (hd0 : d0.size = n) (hd : d.size = n) (hab : a + 12 < b) (hb : b ≤ n) (hsz : n < 4611686018427387904) :
    Calls Tryd.prog 153 #[.slice (some ⟨blk, off, none⟩) n cap, .int .i64 a, .int .i64 b] w (PivPost w0 blk off d a b) := by
  have HD := Lib.hid hd; have HD0 := Lib.hid hd0
  have HC := Lib.hid (Cnt1.start (enc := E32) S 3)
  clear hd hd0 S
  obtain ⟨I, hI⟩ : ∃ I : Nat, I = a + (b - a) / 4 * 1 := ⟨_, rfl⟩
  obtain ⟨J, hJ⟩ : ∃ J : Nat, J = a + (b - a) / 4 * 2 := ⟨_, rfl⟩
  obtain ⟨K, hK⟩ : ∃ K : Nat, K = a + (b - a) / 4 * 3 := ⟨_, rfl⟩
  have eI : ((a : Int) + ((b : Int) - (a : Int)) / 4) = (I : Int) := by omega
  have eJ : ((a : Int) + ((b : Int) - (a : Int)) / 4 * 2) = (J : Int) := by omega
  have eK : ((a : Int) + ((b : Int) - (a : Int)) / 4 * 3) = (K : Int) := by omega
  have bI : a + 3 ≤ I ∧ I < b := by omega
  have bJ : a + 6 ≤ J ∧ J < b := by omega
  have bK : a + 9 ≤ K ∧ K < b := by omega
  have h8z : (8 : Int) ≤ (b : Int) - (a : Int) := by omega
  by_cases h50 : 50 ≤ b - a
  · have h50z : (50 : Int) ≤ (b : Int) - (a : Int) := by omega
    have bI : a + 12 ≤ I ∧ I + 1 < b := by omega
    have bJ : a + 24 ≤ J ∧ J + 1 < b := by omega
    have bK : a + 36 ≤ K ∧ K + 1 < b := by omega
    clear hI hJ hK
    go_enter Tryd.func153, Tryd.ntmps153
    go_wp2_with fail
    refine (adj_any blk off cap I w.heap.size 0 a b n d0 d w0 _ R HC.out HD0.out HD.out (by omega) (by omega) hb hsz (by omega)).mono ?_
    rintro e w1 ⟨x1, s1, rfl, x1l, x1h, hs1, C1⟩
    have HC1 := Lib.hid C1
    clear C1 HC
    go_wp2_with fail
    refine (adj_any blk off cap J w.heap.size s1 a b n d0 d w0 _ R HC1.out HD0.out HD.out (by omega) (by omega) hb hsz (by omega)).mono ?_
    rintro e w2 ⟨x2, s2, rfl, x2l, x2h, hs2, C2⟩
    have HC2 := Lib.hid C2
    clear C2 HC1
    go_wp2_with fail
    refine (adj_any blk off cap K w.heap.size s2 a b n d0 d w0 _ R HC2.out HD0.out HD.out (by omega) (by omega) hb hsz (by omega)).mono ?_
    rintro e w3 ⟨x3, s3, rfl, x3l, x3h, hs3, C3⟩
    have HC3 := Lib.hid C3
    clear C3 HC2
    go_wp2_with fail
    refine (med_any blk off cap x1 x2 x3 w.heap.size s3 a b n d0 d w0 _ R HC3.out HD0.out HD.out x1l x1h x2l x2h x3l x3h hb (by omega)).mono ?_
    rintro e w4 ⟨x4, s4, rfl, x4l, x4h, hs4, C4⟩
    have HC4 := Lib.hid C4
    have cs := C4.2.1
    have fs := C4.2.2.1
    clear C4 HC3
    go_wp2_with fail
    all_goals
      go_ret2
      exact ⟨x4, _, rfl, x4l, x4h, HC4.out.1⟩
  · have h50z : ¬ (50 : Int) ≤ (b : Int) - (a : Int) := by omega
    have h50d : decide ((50 : Int) ≤ (b : Int) - (a : Int)) = false := decide_eq_false h50z
    clear hI hJ hK
    go_enter Tryd.func153, Tryd.ntmps153
    go_wp2_with fail
    refine (med_any blk off cap I J K w.heap.size 0 a b n d0 d w0 _ R HC.out HD0.out HD.out (by omega) (by omega) (by omega) (by omega) (by omega) (by omega) hb (by omega)).mono ?_
    rintro e w4 ⟨x4, s4, rfl, x4l, x4h, hs4, C4⟩
    have HC4 := Lib.hid C4
    have cs := C4.2.1
    have fs := C4.2.2.1
    clear C4 HC
    go_wp2_with fail
    all_goals
      go_ret2
      exact ⟨x4, _, rfl, x4l, x4h, HC4.out.1⟩

end Go.Proofs.YtcibjgkifafohaaDoor
