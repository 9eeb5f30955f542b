/-
  THE WITNESS's WORLD (every listed variable as its initialiser lays it), and what a row's list gives the walks.
  THE WITNESS's WORLD where unicode/utf8's two tables alone are listed.
  PatternNames: the closed sentence holds whatever the world. No condition on any input (it has none); the two tables of unicode/utf8 lie as the row lists them.
-/
import Derived.Test.YtmechinlaladiaaDoorCards
import Derived.Test.YtmechinlaladiaaDoorTie
import Derived.WalkKit
import Derived.ProofKit
import Derived.OpenShut
import Derived.Deep.DeepHandedRow
import Derived.Lib.LaidTab
import Derived.Lib.LaidU8
import Derived.PinnedBridge
import Derived.Test.YtmechinlaladiaaDoorZAP
import Derived.Test.YtmechinlaladiaaDoorZBB
namespace Go.Proofs.YtmechinlaladiaaDoor
open Go.ChangeShapes Go.WideShapes Go.ChangeAt Go.RowKit

theorem own : ownKnob Tryd.prog.godebug = none := by kernel_rfl

def firstCells : Array Value := (Go.Pinned.utf8FirstZ.map fun n => Value.int .u8 (n : Nat)).toArray
def acceptCells : Array Value := ([128, 191, 160, 191, 128, 159, 144, 191, 128, 143, 0, 0, 0, 0, 0, 0, 0, 0, 0, 0, 0, 0, 0, 0, 0, 0, 0, 0, 0, 0, 0, 0].map fun n => Value.int .u8 n).toArray
def powCells : Array Value := ([1, 10, 100, 1000, 10000, 100000, 1000000, 10000000, 100000000, 1000000000, 10000000000, 100000000000, 1000000000000, 10000000000000, 100000000000000, 1000000000000000, 10000000000000000, 100000000000000000, 1000000000000000000, 10000000000000000000].map fun n => Value.int .u64 n).toArray
def numsOf (d : DataW Unit) : Array Value := match d with
  | .agg l => (l.map fun x => match x with | .lit (.int k n) => Value.int k n | _ => .int .u8 0).toArray
  | _ => #[]

theorem u8extra : U8Extra Tryd.prog Tryd.lays260_ren where
  n3 := by kernel_rfl
  n4 := by kernel_rfl
  y3 := by kernel_rfl
  y4 := by kernel_rfl
  c5 := by kernel_rfl
  c119 := by kernel_rfl
  c138 := by kernel_rfl

/-- What the list gives: the two tables of unicode/utf8. -/
theorem tabs_of {l : List (String × DataW Unit)} {W : World} (h : laidMet Tryd.prog l W) (h1 : ("unicode/utf8.first", Rows.laid_unicode_utf8_first) ∈ l) (h2 : ("unicode/utf8.acceptRanges", Rows.laid_unicode_utf8_acceptRanges) ∈ l) : Tabs W := by
  have r1 := Lib.laidMet.reads h h1
  have r2 := Lib.laidMet.reads h h2
  have e1 : Rows.laid_unicode_utf8_first = Lib.firstData := Go.Pinned.utf8First_eq
  have e2 : (Rows.laid_unicode_utf8_acceptRanges : DataW Unit) = Lib.acceptData := by kernel_rfl
  rw [e1] at r1
  rw [e2] at r2
  exact Tabs.mk' (utf8Tabs_of_reads Tryd.lays260 u8extra r1 r2)
end Go.Proofs.YtmechinlaladiaaDoor
namespace Go.Proofs.YtmechinlaladiaaDoor
open Go.ChangeShapes Go.WideShapes Go.ChangeAt Go.RowKit
noncomputable def laidWorld (os : Os) : World :=
  { World.holding Tryd.prog os ⟨#[], #[], []⟩ with heap := (((World.holding Tryd.prog os ⟨#[], #[], []⟩).heap.modify 0 fun
      | .cells _ t frozen => .cells firstCells t frozen
      | o => o).modify 1 fun
      | .cells _ t frozen => .cells acceptCells t frozen
      | o => o) }
end Go.Proofs.YtmechinlaladiaaDoor
namespace Go.Proofs.YtmechinlaladiaaDoor
open Go.RowKit Go.Lib
set_option linter.unusedVariables false

set_option maxHeartbeats 16000000 in
set_option maxRecDepth 100000 in
theorem walk0 (w : World) (hT : Tabs w) : Calls Tryd.prog 3 #[] w fun e w' => e = .returned (.bool true) ∧ Below w.heap.size w w' := by
  have HT := Lib.hid hT
  have HB0 := Lib.hid (Below.refl w.heap.size w)
  clear hT
  go_enter Tryd.func3, Tryd.ntmps3
  go_wp2_with fail
  (with_reducible refine (letters_any _).mono ?_)
  rintro e W1 ⟨x1, y1, rfl, hA, hb⟩
  rw [smp_v]
  have hx1 : Below w.heap.size w W1 := hb
  have HB1 := Lib.hid (HB0.out.trans (hx1.mono HB0.out.size))
  have HA1 := Lib.hid hA
  clear hA hb hx1
  go_wp2_with fail
  (with_reducible refine (u_par _ nsP 7 rfl (by decide) rdP x1 y1 _ HA1.out (HT.out.next HB1.out)).mono ?_)
  rintro e W2 ⟨q2, rfl, hq, hm, hb⟩
  have hx2 : Below W1.heap.size W1 W2 := hb
  have HB2 := Lib.hid (HB1.out.trans (hx2.mono HB1.out.size))
  have HM2 := Lib.hid hm; have HN2 := Lib.hid hq
  clear hq hm hb hx2 HB1 HA1
  obtain ⟨z0, v0, _⟩ := mine_k HM2.out HN2.out 0 _ rfl
  obtain ⟨_, _, pk, kb, k0, kc, z1, zk, zc⟩ := mine_k HM2.out HN2.out 1 _ rfl
  obtain ⟨z3, _, _⟩ := mine_k HM2.out HN2.out 3 _ rfl
  obtain ⟨z6, _, _⟩ := mine_k HM2.out HN2.out 6 _ rfl
  obtain ⟨rfl, v1⟩ := zk (by decide)
  have z2 := zc 2 (by decide)
  have t0 : W2.cell? ⟨q2.bn, 0, none⟩ = some (.int .u8 9) := z0
  have t1 : W2.cell? ⟨q2.bn, 9, none⟩ = some (.slice (some ⟨kb, k0, none⟩) 3 kc) := z1
  have t2 : W2.cell? ⟨kb, k0 + 2, none⟩ = some (.int .i64 6) := z2
  have t3 : W2.cell? ⟨q2.bn, 15, none⟩ = some (.int .u8 6) := z3
  have t4 : W2.cell? ⟨q2.bn, 30, none⟩ = some (.int .u8 1) := z6
  clear z0 z1 z2 z3 z6 zk zc
  go_wp2_with fail
  (with_reducible refine (letters_any _).mono ?_)
  rintro e W3 ⟨x3, y3, rfl, hA, hb⟩
  rw [smp_v]
  have hx3 : Below W2.heap.size W2 W3 := ((Below.refl W2.heap.size W2).alloc (Nat.le_refl _) _).trans (hb.mono (by simp))
  have HB3 := Lib.hid (HB2.out.trans (hx3.mono HB2.out.size))
  have HA3 := Lib.hid hA
  clear hA hb hx3 HB2
  clear t0 t1 t2 t3 t4 v0 v1 HM2 HN2
  go_wp2_with fail
  (with_reducible refine (u_par _ [⟨6, 0, 0, 0, []⟩] 1 rfl (by decide) rdQ x3 y3 _ HA3.out (HT.out.next HB3.out)).mono ?_)
  rintro e W4 ⟨q4, rfl, hq, hm, hb⟩
  have hx4 : Below W3.heap.size W3 W4 := hb
  have HB4 := Lib.hid (HB3.out.trans (hx4.mono HB3.out.size))
  have HM4 := Lib.hid hm; have HN4 := Lib.hid hq
  clear hq hm hb hx4 HB3 HA3
  go_wp2_with fail
  (with_reducible refine (letters_any _).mono ?_)
  rintro e W5 ⟨x5, y5, rfl, hA, hb⟩
  rw [smp_v]
  have hx5 : Below W4.heap.size W4 W5 := ((Below.refl W4.heap.size W4).alloc (Nat.le_refl _) _).trans (hb.mono (by simp))
  have HB5 := Lib.hid (HB4.out.trans (hx5.mono HB4.out.size))
  have HA5 := Lib.hid hA
  have L4_5 := Lib.hid ((Lv.new (k := 1) HM4.out HN4.out).next hb)
  clear hA hb hx5 HB4
  go_wp2_with fail
  (with_reducible refine (u_par _ [⟨7, 0, 0, 0, []⟩] 1 rfl (by decide) rdRr x5 y5 _ HA5.out (HT.out.next HB5.out)).mono ?_)
  rintro e W6 ⟨q6, rfl, hq, hm, hb⟩
  have hx6 : Below W5.heap.size W5 W6 := hb
  have HB6 := Lib.hid (HB5.out.trans (hx6.mono HB5.out.size))
  have L4_6 := Lib.hid (L4_5.out.next hx6)
  have HM6 := Lib.hid hm; have HN6 := Lib.hid hq
  clear hq hm hb hx6 HB5 HA5 L4_5
  go_wp2_with fail
  (with_reducible refine (letters_any _).mono ?_)
  rintro e W7 ⟨x7, y7, rfl, hA, hb⟩
  rw [smp_v]
  have hx7 : Below W6.heap.size W6 W7 := ((Below.refl W6.heap.size W6).alloc (Nat.le_refl _) _).trans (hb.mono (by simp))
  have HB7 := Lib.hid (HB6.out.trans (hx7.mono HB6.out.size))
  have HA7 := Lib.hid hA
  have L4_7 := Lib.hid (L4_6.out.next hx7)
  have L6_7 := Lib.hid ((Lv.new (k := 1) HM6.out HN6.out).next hb)
  clear hA hb hx7 HB6
  clear L4_6
  go_wp2_with fail
  (with_reducible refine (u_par _ nsS 3 rfl (by decide) rdS x7 y7 _ HA7.out (HT.out.next HB7.out)).mono ?_)
  rintro e W8 ⟨q8, rfl, hq, hm, hb⟩
  have hx8 : Below W7.heap.size W7 W8 := hb
  have HB8 := Lib.hid (HB7.out.trans (hx8.mono HB7.out.size))
  have L4_8 := Lib.hid (L4_7.out.next hx8)
  have L6_8 := Lib.hid (L6_7.out.next hx8)
  have HM8 := Lib.hid hm; have HN8 := Lib.hid hq
  clear hq hm hb hx8 HB7 HA7 L4_7 L6_7
  go_wp2_with fail
  (with_reducible refine (letters_any _).mono ?_)
  rintro e W9 ⟨x9, y9, rfl, hA, hb⟩
  rw [smp_v]
  have hx9 : Below W8.heap.size W8 W9 := ((Below.refl W8.heap.size W8).alloc (Nat.le_refl _) _).trans (hb.mono (by simp))
  have HB9 := Lib.hid (HB8.out.trans (hx9.mono HB8.out.size))
  have HA9 := Lib.hid hA
  have L4_9 := Lib.hid (L4_8.out.next hx9)
  have L6_9 := Lib.hid (L6_8.out.next hx9)
  have L8_9 := Lib.hid ((Lv.new (k := 3) HM8.out HN8.out).next hb)
  clear hA hb hx9 HB8
  clear L4_8
  clear L6_8
  go_wp2_with fail
  (with_reducible refine (u_par _ [⟨3, 0, 0, 0, []⟩] 1 rfl (by decide) rdT x9 y9 _ HA9.out (HT.out.next HB9.out)).mono ?_)
  rintro e W10 ⟨q10, rfl, hq, hm, hb⟩
  have hx10 : Below W9.heap.size W9 W10 := hb
  have HB10 := Lib.hid (HB9.out.trans (hx10.mono HB9.out.size))
  have L4_10 := Lib.hid (L4_9.out.next hx10)
  have L6_10 := Lib.hid (L6_9.out.next hx10)
  have L8_10 := Lib.hid (L8_9.out.next hx10)
  have HM10 := Lib.hid hm; have HN10 := Lib.hid hq
  clear hq hm hb hx10 HB9 HA9 L4_9 L6_9 L8_9
  obtain ⟨a1, a2⟩ := L4_10.out.kd 0 _ rfl
  obtain ⟨b1, b2⟩ := L6_10.out.kd 0 _ rfl
  obtain ⟨c1, c2⟩ := L8_10.out.kd 0 _ rfl
  obtain ⟨d1, _⟩ := L8_10.out.kd 1 _ rfl
  obtain ⟨e1, e2, _⟩ := mine_k HM10.out HN10.out 0 _ rfl
  have a0 := L4_10.out.c; have b0 := L6_10.out.c; have c0 := L8_10.out.c
  have la := blk_of_cell a0; have lb := blk_of_cell b0; have lc := blk_of_cell c0
  have f1 : W10.cell? ⟨q4.bn, 0, none⟩ = some (.int .u8 6) := a1
  have f2 : W10.cell? ⟨q6.bn, 0, none⟩ = some (.int .u8 7) := b1
  have f3 : W10.cell? ⟨q8.bn, 0, none⟩ = some (.int .u8 9) := c1
  have f4 : W10.cell? ⟨q8.bn, 5, none⟩ = some (.int .u8 8) := d1
  have f5 : W10.cell? ⟨q10.bn, 0, none⟩ = some (.int .u8 3) := e1
  clear a1 b1 c1 d1 e1 L4_10 L6_10 L8_10 HM10 HN10
  go_wp2_with fail
  (with_reducible refine (wrong_any _ 0 0 rfl rw1 _ (HT.out.next (HB10.out.alloc HB10.out.size _))).mono ?_)
  rintro e W11 ⟨rfl, hb⟩
  have hx11 : Below W10.heap.size W10 W11 := ((Below.refl W10.heap.size W10).alloc (Nat.le_refl _) _).trans (hb.mono (by simp))
  have HB11 := Lib.hid (HB10.out.trans (hx11.mono HB10.out.size))
  clear hb hx11 HB10 a0 b0 c0 la lb lc a2 b2 c2 e2 f1 f2 f3 f4 f5
  go_wp2_with fail
  (with_reducible refine (wrong_any _ 0 0 rfl rw2 _ (HT.out.next HB11.out)).mono ?_)
  rintro e W12 ⟨rfl, hb⟩
  have hx12 : Below W11.heap.size W11 W12 := hb
  have HB12 := Lib.hid (HB11.out.trans (hx12.mono HB11.out.size))
  clear hb hx12 HB11
  go_wp2_with fail
  (with_reducible refine (wrong_any _ 2 2 rfl rw3 _ (HT.out.next HB12.out)).mono ?_)
  rintro e W13 ⟨rfl, hb⟩
  have hx13 : Below W12.heap.size W12 W13 := hb
  have HB13 := Lib.hid (HB12.out.trans (hx13.mono HB12.out.size))
  clear hb hx13 HB12
  go_wp2_with fail
  (with_reducible refine (wrong_any _ 1 1 rfl rw4 _ (HT.out.next HB13.out)).mono ?_)
  rintro e W14 ⟨rfl, hb⟩
  have hx14 : Below W13.heap.size W13 W14 := hb
  have HB14 := Lib.hid (HB13.out.trans (hx14.mono HB13.out.size))
  clear hb hx14 HB13
  go_wp2_with fail
  (with_reducible refine (wrong_any _ 2 2 rfl rw5 _ (HT.out.next HB14.out)).mono ?_)
  rintro e W15 ⟨rfl, hb⟩
  have hx15 : Below W14.heap.size W14 W15 := hb
  have HB15 := Lib.hid (HB14.out.trans (hx15.mono HB14.out.size))
  clear hb hx15 HB14
  go_wp2_with fail
  (with_reducible refine (wrong_any _ 1 1 rfl rw6 _ (HT.out.next HB15.out)).mono ?_)
  rintro e W16 ⟨rfl, hb⟩
  have hx16 : Below W15.heap.size W15 W16 := hb
  have HB16 := Lib.hid (HB15.out.trans (hx16.mono HB15.out.size))
  clear hb hx16 HB15
  go_wp2_with fail
  (with_reducible refine (wrong_any _ 0 0 rfl rw7 _ (HT.out.next HB16.out)).mono ?_)
  rintro e W17 ⟨rfl, hb⟩
  have hx17 : Below W16.heap.size W16 W17 := hb
  have HB17 := Lib.hid (HB16.out.trans (hx17.mono HB16.out.size))
  clear hb hx17 HB16
  have hl := lit_cells W17 2 1 #[.int .u8 6, .int .i32 0, .int .u32 0, .int .u32 0, .slice (some ⟨W17.heap.size, 0, none⟩) 2 2, .int .u8 2, .int .i32 98, .int .u32 0, .int .u32 0, .slice none 0 0, .int .u8 2, .int .i32 97, .int .u32 0, .int .u32 0, .slice none 0 0] rfl
  have hpr := lit3 (k0 := 6) (k1 := 2) (k2 := 2) (r1 := 98) (r2 := 97) (x := 2) (y := 1) (c := 0) (by decide) (by decide) (by decide) (by decide) (by decide) (by decide) (by decide) hl.1 hl.2
  have HPR := Lib.hid hpr
  clear hl hpr
  go_wp2_with fail
  (with_reducible refine (u_rune 97 (by decide) _).mono ?_)
  rintro e W18 ⟨qa, rfl, hna, hma, hb⟩
  have hV : Below W17.heap.size W17 (((W17.alloc (.cells #[.int .i64 2, .int .i64 1] 3)).alloc (.cells #[.int .u8 6, .int .i32 0, .int .u32 0, .int .u32 0, .slice (some ⟨W17.heap.size, 0, none⟩) 2 2, .int .u8 2, .int .i32 98, .int .u32 0, .int .u32 0, .slice none 0 0, .int .u8 2, .int .i32 97, .int .u32 0, .int .u32 0, .slice none 0 0] 36)).alloc (.cells #[.slice (some ⟨W17.heap.size + 1, 0, none⟩) 3 3] 24)) := (((Below.refl _ _).alloc (Nat.le_refl _) _).alloc (by simp) _).alloc (by simp; omega) _
  have hP0 : Pr w (W17.heap.size + 1 + 1) W17.heap.size (W17.heap.size + 1) (((W17.alloc (.cells #[.int .i64 2, .int .i64 1] 3)).alloc (.cells #[.int .u8 6, .int .i32 0, .int .u32 0, .int .u32 0, .slice (some ⟨W17.heap.size, 0, none⟩) 2 2, .int .u8 2, .int .i32 98, .int .u32 0, .int .u32 0, .slice none 0 0, .int .u8 2, .int .i32 97, .int .u32 0, .int .u32 0, .slice none 0 0] 36)).alloc (.cells #[.slice (some ⟨W17.heap.size + 1, 0, none⟩) 3 3] 24)) := ⟨by rw [World.cell?_alloc_at _ _ _ _ (by simp)]; rfl, HPR.out.next ((Below.refl _ _).alloc (Nat.le_refl _) _)⟩
  have HP18 := Lib.hid (hP0.next hb)
  have HB18 := Lib.hid (HB17.out.trans ((hV.trans (hb.mono (by simp; omega))).mono HB17.out.size))
  have HNA := Lib.hid hna; have HMA := Lib.hid hma
  clear hna hma hb hV hP0 HPR HB17
  go_wp2_with fail
  (with_reducible refine (u_rune 98 (by decide) _).mono ?_)
  rintro e W19 ⟨qb, rfl, hnb, hmb, hb⟩
  have HNB := Lib.hid hnb; have HMB := Lib.hid hmb; have HMA19 := Lib.hid (HMA.out.next hb); have HP19 := Lib.hid (HP18.out.next hb); have HB19 := Lib.hid (HB18.out.trans (hb.mono HB18.out.size))
  clear hnb hmb hb HMA HP18 HB18
  go_wp2_with fail
  (with_reducible refine (u_seq qa qb _ HMA19.out HNA.out HMB.out HNB.out).mono ?_)
  rintro e W20 ⟨r, rfl, hnr, hmr, hb⟩
  have HNR := Lib.hid hnr; have HMR := Lib.hid hmr; have HP20 := Lib.hid (HP19.out.next hb); have HB20 := Lib.hid (HB19.out.trans (hb.mono HB19.out.size))
  clear hnr hmr hb HMA19 HNA HMB HNB HP19 HB19
  have hl := lit_cells (W20.alloc (.cells #[.slice (some ⟨r.bn, 0, none⟩) 3 r.c] 24)) 1 2 #[.int .u8 8, .int .i32 0, .int .u32 0, .int .u32 0, .slice (some ⟨W20.heap.size + 1, 0, none⟩) 2 2, .int .u8 4, .int .i32 0, .int .u32 0, .int .u32 0, .slice none 0 0, .int .u8 4, .int .i32 0, .int .u32 0, .int .u32 0, .slice none 0 0] rfl
  have e20 : (W20.alloc (.cells #[.slice (some ⟨r.bn, 0, none⟩) 3 r.c] 24)).heap.size = W20.heap.size + 1 := by simp
  rw [e20] at hl
  have hbd := lit3 (k0 := 8) (k1 := 4) (k2 := 4) (r1 := 0) (r2 := 0) (x := 1) (y := 2) (c := 0) (by decide) (by decide) (by decide) (by decide) (by decide) (by decide) (by decide) hl.1 hl.2
  have HBD := Lib.hid hbd
  clear hl hbd e20
  go_wp2_with fail
  (with_reducible refine (u_star_bad _ HBD.out).mono ?_)
  rintro e W21 ⟨so, sc, rfl, hb⟩
  have hV : Below W20.heap.size W20 W21 := ((((Below.refl W20.heap.size W20).alloc (Nat.le_refl _) _).alloc (by simp) _).alloc (by simp; omega) _).trans (hb.mono (by simp; omega))
  have HL21 := Lib.hid ((Lv.new (k := 3) HMR.out HNR.out).next ((((Below.refl _ _).alloc (Nat.le_refl _) _).alloc (by simp) _).trans (hb.mono (by simp))))
  have HP21 := Lib.hid (HP20.out.next hV); have HB21 := Lib.hid (HB20.out.trans (hV.mono HB20.out.size))
  clear hb hV HBD HMR HNR HP20 HB20
  go_wp2_with fail
  (with_reducible refine (alive4_any _ (HT.out.next (HB21.out.alloc HB21.out.size _))).mono ?_)
  rintro e W22 ⟨rfl, hb⟩
  have hx : Below W21.heap.size W21 W22 := ((Below.refl W21.heap.size W21).alloc (Nat.le_refl _) _).trans (hb.mono (by simp))
  have HL22 := Lib.hid (HL21.out.next hx); have HP22 := Lib.hid (HP21.out.next hx); have HB22 := Lib.hid (HB21.out.trans (hx.mono HB21.out.size))
  have lc := HL22.out.c; have pc := HP22.out.c
  have HC := Lib.hid (show W22.cell? ⟨W21.heap.size, 0, none⟩ = some (.slice so 0 sc) from (hb.cell (p := ⟨W21.heap.size, 0, none⟩) (by simp)).trans (by simp))
  clear hb hx HL21 HP21 HB21
  go_wp2_with fail
  obtain ⟨lm, hlm⟩ := HL22.out.m
  (with_reducible refine (u_same_pair r _ hlm HL22.out.n HP22.out.i).mono ?_)
  rintro e W23 ⟨rfl, hb⟩
  have HP23 := Lib.hid (HP22.out.next hb); have HB23 := Lib.hid (HB22.out.trans (hb.mono HB22.out.size))
  clear hb hlm lc pc HL22 HP22 HB22 HC
  go_wp2_with fail
  (with_reducible refine (u_rune 97 (by decide) _).mono ?_)
  rintro e W24 ⟨qc, rfl, hna, hma, hb⟩
  have HNA := Lib.hid hna; have HMA := Lib.hid hma; have HP24 := Lib.hid (HP23.out.next hb); have HB24 := Lib.hid (HB23.out.trans (hb.mono HB23.out.size))
  clear hna hma hb HP23 HB23
  go_wp2_with fail
  (with_reducible refine (u_rune 98 (by decide) _).mono ?_)
  rintro e W25 ⟨qd, rfl, hnb, hmb, hb⟩
  have HP25 := Lib.hid (HP24.out.next hb); have HB25 := Lib.hid (HB24.out.trans (hb.mono HB24.out.size)); have HMA25 := Lib.hid (HMA.out.next hb); have HNB := Lib.hid hnb; have HMB := Lib.hid hmb
  clear hnb hmb hb HP24 HB24 HMA
  go_wp2_with fail
  (with_reducible refine (u_same_ab qc qd _ HMA25.out HNA.out HMB.out HNB.out).mono ?_)
  rintro e W26 ⟨rfl, hb⟩
  have HP26 := Lib.hid (HP25.out.next hb); have HB26 := Lib.hid (HB25.out.trans (hb.mono HB25.out.size))
  clear hb HMA25 HNA HMB HNB HP25 HB25
  go_wp2_with fail
  (with_reducible refine (u_same_nil _).mono ?_)
  rintro e W27 ⟨rfl, hb⟩
  have HP27 := Lib.hid (HP26.out.next hb); have HB27 := Lib.hid (HB26.out.trans (hb.mono HB26.out.size))
  have pc := HP27.out.c
  clear hb HP26 HB26
  go_wp2_with fail
  (with_reducible refine (u_check_nil _ HP27.out.i).mono ?_)
  rintro e W28 ⟨rfl, hb⟩
  have HB28 := Lib.hid (HB27.out.trans (hb.mono HB27.out.size))
  clear hb HP27 HB27 pc
  go_wp2_with fail
  go_ret
  exact ⟨rfl, HB28.out⟩

theorem walk (w : World) (hL : laidMetH Tryd.prog Rows.patternNamesRow.laid w) : Calls Tryd.prog 3 #[] w fun e w' => e = .returned (.bool true) ∧ Below w.heap.size w w' :=
  walk0 w (tabs_of hL (by simp [Rows.patternNamesRow]) (by simp [Rows.patternNamesRow]))
end Go.Proofs.YtmechinlaladiaaDoor
