/-
  RunesTexts: for any text and any two numbers: the program's Pieces, Len, Broken, Part, Back answer as the document's answers do, and pieces told twice are apart in memory. CONDITIONS: none but the tables of unicode/utf8 that the card ties to the program's text.
-/
import Derived.Test.YthkdfffankpekaaDoorLaid
import Derived.Test.YthkdfffankpekaaDoorRefPart
namespace Go.Proofs.YthkdfffankpekaaDoor.lawTexts
open Go.ChangeShapes Go.WideShapes Go.ChangeAt Go.RowKit
set_option linter.unusedVariables false

def longB (s : ByteArray) : Bool := decide ((3000 < s.size ∧ s.size ≤ 65536) ∨ 66000 < s.size)
set_option maxRecDepth 100000 in
set_option maxHeartbeats 400000 in
theorem long_any (s : ByteArray) (w : World) :
    Calls Tryd.prog 19 #[.string s] w fun e w' => e = .returned (.bool (longB s)) ∧ w = w' := by
  obtain ⟨n, hn⟩ : ∃ n : Int, n = (s.size : Int) := ⟨_, rfl⟩
  have fin : ∀ b : Bool, longB s = b → longB s = b := fun _ h => h
  by_cases h1 : (3000 : Int) < (s.size : Int)
  · by_cases h2 : (s.size : Int) ≤ 65536
    · have e : longB s = true := decide_eq_true (by omega)
      have H := Lib.hid e
      clear e fin hn
      go_enter Tryd.func19, Tryd.ntmps19
      go_wp2
      go_ret
      exact ⟨ret_b H.out.symm, rfl⟩
    · by_cases h3 : (66000 : Int) < (s.size : Int)
      · have e : longB s = true := decide_eq_true (by omega)
        have H := Lib.hid e
        clear e fin hn
        go_enter Tryd.func19, Tryd.ntmps19
        go_wp2
        go_ret
        exact ⟨ret_b H.out.symm, rfl⟩
      · have e : longB s = false := decide_eq_false (by omega)
        have H := Lib.hid e
        clear e fin hn
        go_enter Tryd.func19, Tryd.ntmps19
        go_wp2
        go_ret
        exact ⟨ret_b H.out.symm, rfl⟩
  · have h3 : ¬ (66000 : Int) < (s.size : Int) := by omega
    have e : longB s = false := decide_eq_false (by omega)
    have H := Lib.hid e
    clear e fin hn
    go_enter Tryd.func19, Tryd.ntmps19
    go_wp2
    go_ret
    exact ⟨ret_b H.out.symm, rfl⟩
theorem long_is (s : ByteArray) (b : Bool) (w : World) (h : longB s = b) :
    Calls Tryd.prog 19 #[.string s] w fun e w' => e = .returned (.bool b) ∧ w = w' := by
  rw [← h]; exact long_any s w

set_option maxHeartbeats 400000 in
theorem same_nil (w : World) :
    Calls Tryd.prog 26 #[.slice none 0 0, .slice none 0 0] w fun e w' => e = .returned (.bool true) ∧ w = w' := by
  go_enter Tryd.func26, Tryd.ntmps26
  go_wp2_with fail
  go_loop [5] (fun iv => iv = .int .i64 0) (fun _ => 0)
  case atStart => rfl
  case round =>
    obtain rfl := hrel
    go_wp2_with fail
    go_ret
    exact ⟨rfl, rfl⟩

def Post (w : World) (e : Ending) (w' : World) : Prop := e = .returned (.bool true) ∧ Below w.heap.size w w'

set_option maxRecDepth 100000 in
set_option maxHeartbeats 4000000 in
/-- Longer than may be: refused all round. -/
theorem walk_big (s : ByteArray) (a b : Int) (w : World) (hs : 65536 < s.size) (hs2 : s.size ≤ 66000) :
    Calls Tryd.prog 4 #[.string s, .int .i64 a, .int .i64 b] w (Post w) := by
  have hl : longB s = false := decide_eq_false (by omega)
  have hs' : ¬ s.size ≤ 65536 := by omega
  have HL := Lib.hid hl; have HS := Lib.hid hs'
  clear hl hs hs2 hs'
  go_enter Tryd.func4, Tryd.ntmps4
  go_wp2_with fail
  refine (long_is s false _ HL.out).mono ?_
  rintro e w1 ⟨rfl, rfl⟩

  go_wp2_with fail
  refine (pieces_long s _ HS.out).mono ?_
  rintro e w1 ⟨rfl, rfl⟩
  go_wp2_with fail
  refine (ref_pieces_long s _ HS.out).mono ?_
  rintro e w1 ⟨rfl, rfl⟩
  go_wp2_with fail
  refine (len_long s _ HS.out).mono ?_
  rintro e w1 ⟨rfl, rfl⟩
  go_wp2_with fail
  refine (ref_len_long s _ HS.out).mono ?_
  rintro e w1 ⟨rfl, rfl⟩
  go_wp2_with fail
  refine (broken_long s _ HS.out).mono ?_
  rintro e w1 ⟨rfl, rfl⟩
  go_wp2_with fail
  refine (ref_broken_long s _ HS.out).mono ?_
  rintro e w1 ⟨rfl, rfl⟩
  go_wp2_with fail
  refine (part_long s a b _ HS.out).mono ?_
  rintro e w2 ⟨rfl, hb2⟩
  have H2 := Lib.hid hb2
  clear hb2
  go_wp2_with fail
  refine (ref_part_long s a b _ HS.out).mono ?_
  rintro e w3 ⟨rfl, hb3⟩
  have H3 : Hid (Below w.heap.size w w3) := H2.out.trans (hb3.mono (B' := w.heap.size) H2.out.size)
  clear hb3 H2
  go_wp2_with fail
  refine (back_long s _ HS.out).mono ?_
  rintro e w1 ⟨rfl, rfl⟩
  go_wp2_with fail
  refine (ref_back_long s _ HS.out).mono ?_
  rintro e w1 ⟨rfl, rfl⟩
  go_wp2_with fail
  refine (same_nil _).mono ?_
  rintro e w1 ⟨rfl, rfl⟩
  go_wp2_with fail
  go_loop [27] (fun iv => iv = .int .i64 0) (fun _ => 0)
  case atStart => rfl
  case round =>
    obtain rfl := hrel
    go_wp2_with fail
    refine (pieces_long s _ HS.out).mono ?_
    rintro e w1 ⟨rfl, rfl⟩
    go_wp2_with fail
    refine (same_nil _).mono ?_
    rintro e w1 ⟨rfl, rfl⟩
    go_wp2_with fail
    go_ret
    exact ⟨rfl, H3.out⟩

theorem row_store {w : World} {g j : Nat} {cur : Array Value} (h : w.heap[g]? = some (.cells cur 29 (0, 0))) (v : Value) : ∃ cur' : Array Value, (w.setCell ⟨g, j, none⟩ v).heap[g]? = some (.cells cur' 29 (0, 0)) ∧ cur'.size = cur.size := by
  have hlt := lt_of_block h
  have h' : w.heap[g] = .cells cur 29 (0, 0) := by simpa [Array.getElem?_eq_getElem hlt] using h
  refine ⟨cur.setIfInBounds j v, ?_, by simp⟩
  show (w.heap.modify g _)[g]? = _
  rw [Array.getElem?_eq_getElem (by simpa using hlt), Array.getElem_modify_self, h']
  rfl
theorem row_cell {w : World} {g j : Nat} {cur : Array Value} (h : w.heap[g]? = some (.cells cur 29 (0, 0))) (hj : j < cur.size) : ∃ v, w.cell? ⟨g, j, none⟩ = some v := by
  refine ⟨cur[j], ?_⟩
  simp [World.cell?, h, hj]
theorem row_free {w : World} {g j : Nat} {cur : Array Value} (h : w.heap[g]? = some (.cells cur 29 (0, 0))) : w.frozen? ⟨g, j, none⟩ = false := by simp [World.frozen?, h]

/-- A row of the call's own, of no known content. -/
def Row (n g : Nat) (w : World) : Prop := ∃ cur : Array Value, w.heap[g]? = some (.cells cur 29 (0, 0)) ∧ n * 4 ≤ cur.size
theorem Row.store {n g j : Nat} {w : World} (h : Row n g w) (v : Value) : Row n g (w.setCell ⟨g, j, none⟩ v) := by
  obtain ⟨cur, h1, h2⟩ := h
  obtain ⟨cur', h3, h4⟩ := row_store (j := j) h1 v
  exact ⟨cur', h3, by omega⟩
theorem Row.below {n g : Nat} {w w' : World} (h : Row n g w) (hb : Below w.heap.size w w') : Row n g w' := by
  obtain ⟨cur, h1, h2⟩ := h
  exact ⟨cur, (hb.block g (lt_of_block h1)).trans h1, h2⟩
theorem pieces_row {s : ByteArray} {B g c : Nat} {w : World} (h : PiecesAt s B w (.slice (some ⟨g, 0, none⟩) (starts s).length c)) : Row (starts s).length g w := by
  unfold PiecesAt at h
  rcases h.2 with ⟨h1, _⟩ | ⟨g', cap, cur, h1, _, h2, h3, _, h4, _⟩
  · cases h1
  · simp only [Value.slice.injEq, Option.some.injEq, Addr.mk.injEq] at h1
    obtain ⟨⟨rfl, _⟩, _, rfl⟩ := h1
    exact ⟨cur, h2, by rw [h4]; omega⟩
theorem pieces_store {s : ByteArray} {B g g2 c j : Nat} {w : World} (h : PiecesAt s B w (.slice (some ⟨g2, 0, none⟩) (starts s).length c)) (hne : g2 ≠ g) (v : Value) : PiecesAt s B (w.setCell ⟨g, j, none⟩ v) (.slice (some ⟨g2, 0, none⟩) (starts s).length c) :=
  ownsRow_setCell_other h (a := ⟨g, j, none⟩) (by simp [Value.ownBlock]; exact hne) v

/-- What is known behind all calls but the loop. -/
def Mid (s : ByteArray) (w wr : World) (va vb : Value) : Prop :=
  PiecesAt s w.heap.size wr va ∧ PiecesAt s w.heap.size wr vb ∧ Below w.heap.size w wr ∧ ∀ g g', va.ownBlock = some g → vb.ownBlock = some g' → g < g'

set_option maxRecDepth 100000 in
set_option maxHeartbeats 8000000 in
theorem walk_good (s : ByteArray) (a b : Nat) (w : World) (hT : Tabs w) (hs : s.size ≤ 3000) (hab : a ≤ b) (hbl : b ≤ (starts s).length) :
    Calls Tryd.prog 4 #[.string s, .int .i64 a, .int .i64 b] w (Post w) := by
  have hl : longB s = false := decide_eq_false (by omega)
  have hs' : s.size ≤ 65536 := by omega
  have hla : (starts s).length ≤ s.size := by simpa [starts] using startsF_le s s.size 0
  have HL := Lib.hid hl; have HS := Lib.hid hs'; have HT := Lib.hid hT
  have HAB := Lib.hid hab; have HBL := Lib.hid hbl
  clear hab hbl
  clear hl hs' hT
  go_enter Tryd.func4, Tryd.ntmps4
  go_wp2_with fail
  refine (long_is s false _ HL.out).mono ?_
  rintro e w1 ⟨rfl, rfl⟩
  go_wp2_with fail
  refine (pieces_any s _ HS.out HT.out).mono ?_
  rintro e w1 ⟨va, h0, hva, hb1⟩
  subst h0
  obtain ⟨oa, ca, rfl⟩ := own_shape hva
  have HA := Lib.hid hva; have H1 := Lib.hid hb1
  clear hva hb1
  go_wp2_with fail
  refine (ref_pieces_any s _ HS.out).mono ?_
  rintro e w2 ⟨vb, h0, hvb, hb2⟩
  subst h0
  obtain ⟨ob, cb, rfl⟩ := own_shape hvb
  have hz1 := H1.out.size
  have hm : Mid s w w2 (.slice oa (starts s).length ca) (.slice ob (starts s).length cb) :=
    ⟨own_below HA.out hb2, own_base hvb hz1, H1.out.trans (hb2.mono (B' := w.heap.size) hz1), fun g g' h1 h2 => Nat.lt_of_lt_of_le (HA.out.lt g h1).2 (hvb.lt g' h2).1⟩
  have HM2 := Lib.hid hm
  clear hm hvb hb2 HA H1 hz1
  go_wp2_with fail
  refine (len_any s _ HS.out).mono ?_
  rintro e w3 ⟨rfl, hb⟩
  have hz := HM2.out.2.2.1.size
  have hm : Mid s w w3 (.slice oa (starts s).length ca) (.slice ob (starts s).length cb) := ⟨own_below HM2.out.1 hb, own_below HM2.out.2.1 hb, HM2.out.2.2.1.trans (hb.mono (B' := w.heap.size) hz), HM2.out.2.2.2⟩
  have HM3 := Lib.hid hm
  clear hm hb hz
  go_wp2_with fail
  refine (ref_len_any s _ HS.out).mono ?_
  rintro e w4 ⟨rfl, hb⟩
  have hz := HM3.out.2.2.1.size
  have hm : Mid s w w4 (.slice oa (starts s).length ca) (.slice ob (starts s).length cb) := ⟨own_below HM3.out.1 hb, own_below HM3.out.2.1 hb, HM3.out.2.2.1.trans (hb.mono (B' := w.heap.size) hz), HM3.out.2.2.2⟩
  have HM4 := Lib.hid hm
  clear hm hb hz
  go_wp2_with fail
  refine (broken_any s _ HS.out (HT.out.next HM4.out.2.2.1)).mono ?_
  rintro e w5 ⟨rfl, hb⟩
  have hz := HM4.out.2.2.1.size
  have hm : Mid s w w5 (.slice oa (starts s).length ca) (.slice ob (starts s).length cb) := ⟨own_below HM4.out.1 hb, own_below HM4.out.2.1 hb, HM4.out.2.2.1.trans (hb.mono (B' := w.heap.size) hz), HM4.out.2.2.2⟩
  have HM5 := Lib.hid hm
  clear hm hb hz
  go_wp2_with fail
  refine (ref_broken_any s _ HS.out).mono ?_
  rintro e w6 ⟨rfl, hb⟩
  have hz := HM5.out.2.2.1.size
  have hm : Mid s w w6 (.slice oa (starts s).length ca) (.slice ob (starts s).length cb) := ⟨own_below HM5.out.1 hb, own_below HM5.out.2.1 hb, HM5.out.2.2.1.trans (hb.mono (B' := w.heap.size) hz), HM5.out.2.2.2⟩
  have HM6 := Lib.hid hm
  clear hm hb hz
  go_wp2_with fail
  refine (part_any s a b _ HS.out HAB.out HBL.out).mono ?_
  rintro e w7 ⟨rfl, hb⟩
  have hz := HM6.out.2.2.1.size
  have hm : Mid s w w7 (.slice oa (starts s).length ca) (.slice ob (starts s).length cb) := ⟨own_below HM6.out.1 hb, own_below HM6.out.2.1 hb, HM6.out.2.2.1.trans (hb.mono (B' := w.heap.size) hz), HM6.out.2.2.2⟩
  have HM7 := Lib.hid hm
  clear hm hb hz
  go_wp2_with fail
  refine (ref_part_any s a b _ HS.out HAB.out HBL.out).mono ?_
  rintro e w8 ⟨rfl, hb⟩
  have hz := HM7.out.2.2.1.size
  have hm : Mid s w w8 (.slice oa (starts s).length ca) (.slice ob (starts s).length cb) := ⟨own_below HM7.out.1 hb, own_below HM7.out.2.1 hb, HM7.out.2.2.1.trans (hb.mono (B' := w.heap.size) hz), HM7.out.2.2.2⟩
  have HM8 := Lib.hid hm
  clear hm hb hz
  go_wp2_with fail
  refine (back_any s _ HS.out).mono ?_
  rintro e w9 ⟨rfl, hb⟩
  have hz := HM8.out.2.2.1.size
  have hm : Mid s w w9 (.slice oa (starts s).length ca) (.slice ob (starts s).length cb) := ⟨own_below HM8.out.1 hb, own_below HM8.out.2.1 hb, HM8.out.2.2.1.trans (hb.mono (B' := w.heap.size) hz), HM8.out.2.2.2⟩
  have HM9 := Lib.hid hm
  clear hm hb hz
  go_wp2_with fail
  refine (ref_back_any s _ HS.out).mono ?_
  rintro e w10 ⟨rfl, hb⟩
  have hz := HM9.out.2.2.1.size
  have hm : Mid s w w10 (.slice oa (starts s).length ca) (.slice ob (starts s).length cb) := ⟨own_below HM9.out.1 hb, own_below HM9.out.2.1 hb, HM9.out.2.2.1.trans (hb.mono (B' := w.heap.size) hz), HM9.out.2.2.2⟩
  have HM10 := Lib.hid hm
  clear hm hb hz
  go_wp2_with fail
  refine (same_any s _ _ _ _ _ HS.out HM10.out.1 HM10.out.2.1).mono ?_
  rintro e w11 ⟨rfl, hb⟩
  have hz := HM10.out.2.2.1.size
  have hm : Mid s w w11 (.slice oa (starts s).length ca) (.slice ob (starts s).length cb) := ⟨own_below HM10.out.1 hb, own_below HM10.out.2.1 hb, HM10.out.2.2.1.trans (hb.mono (B' := w.heap.size) hz), HM10.out.2.2.2⟩
  have HM11 := Lib.hid hm
  clear hm hb hz
  go_wp2_with fail
  go_loopw [27] (fun iv wr => ∃ i, iv = .int .i64 (i : Nat) ∧ i ≤ (starts s).length ∧ PiecesAt s w.heap.size wr (.slice ob (starts s).length cb) ∧ Below w.heap.size w wr ∧ (∀ g, oa = some g → Row (starts s).length g.block wr)) (fun iv _ => (starts s).length - (RowKit.intOf iv).toNat)
  case atStart =>
    refine ⟨0, rfl, by omega, HM11.out.2.1, HM11.out.2.2.1, ?_⟩
    intro g hg
    subst hg
    rcases HM11.out.1.2 with ⟨h1, _⟩ | ⟨g', cap, cur, h1, _⟩
    · cases h1
    · have hh := HM11.out.1
      simp only [Value.slice.injEq, Option.some.injEq] at h1
      obtain ⟨rfl, _, rfl⟩ := h1
      exact pieces_row hh
  case round =>
    obtain ⟨i, rfl, hi, hpb, hbw, hrow⟩ := hrel
    have HPB := Lib.hid hpb; have HBW := Lib.hid hbw; have HRow := Lib.hid hrow
    clear hpb hbw hrow
    by_cases h1 : i < (starts s).length
    · obtain ⟨g, cc, hg, hgb, hgl, hlie, hcap⟩ := pieces_lie HM11.out.1 (by omega)
      simp only [Value.slice.injEq] at hg
      obtain ⟨rfl, _, rfl⟩ := hg
      obtain ⟨g', cc', hg', hgb', hgl', hlie', hcap'⟩ := pieces_lie HM11.out.2.1 (by omega)
      simp only [Value.slice.injEq] at hg'
      obtain ⟨rfl, _, rfl⟩ := hg'
      have hne : g' ≠ g := by have := HM11.out.2.2.2 g g' rfl rfl; omega
      obtain ⟨cur, hcur, hcs⟩ := HRow.out _ rfl
      obtain ⟨v0, c0⟩ := row_cell (j := i * 4) hcur (by omega)
      obtain ⟨v1, c1⟩ := row_cell (j := i * 4 + 1) hcur (by omega)
      obtain ⟨v2, c2⟩ := row_cell (j := i * 4 + 2) hcur (by omega)
      obtain ⟨v3, c3⟩ := row_cell (j := i * 4 + 3) hcur (by omega)
      have f0 := row_free (j := i * 4) hcur
      have f1 := row_free (j := i * 4 + 1) hcur
      have f2 := row_free (j := i * 4 + 2) hcur
      have f3 := row_free (j := i * 4 + 3) hcur
      have HCu := Lib.hid hcur
      clear hcur hlie hlie'
      go_wp2_with fail
      go_roundw
      case rel =>
        refine ⟨i + 1, by go_num, by omega, pieces_store (pieces_store (pieces_store (pieces_store HPB.out hne _) hne _) hne _) hne _, (((HBW.out.setCell hgb _).setCell hgb _).setCell hgb _).setCell hgb _, ?_⟩
        intro x hx
        cases hx
        exact (((Row.store (HRow.out _ rfl) _).store _).store _).store _
      case measure => simp [RowKit.intOf]; omega
    · go_wp2_with fail
      refine (pieces_any s _ HS.out (HT.out.next HBW.out)).mono ?_
      rintro e x1 ⟨vc, h0, hvc, hb1⟩
      subst h0
      obtain ⟨oc, cc, rfl⟩ := own_shape hvc
      have hz1 := HBW.out.size
      have hpb1 := own_below HPB.out hb1
      have HC := Lib.hid hvc; have HPB1 := Lib.hid hpb1; have HBx : Hid (Below w.heap.size w x1) := HBW.out.trans (hb1.mono (B' := w.heap.size) hz1)
      clear hvc hpb1 hb1
      go_wp2_with fail
      refine (same_any s _ _ _ _ _ HS.out HC.out HPB1.out).mono ?_
      rintro e x2 ⟨rfl, hb2⟩
      have HBy : Hid (Below w.heap.size w x2) := HBx.out.trans (hb2.mono (B' := w.heap.size) HBx.out.size)
      clear hb2
      go_wp2_with fail
      go_ret
      exact ⟨rfl, HBy.out⟩

set_option maxRecDepth 100000 in
set_option maxHeartbeats 8000000 in
theorem walk_bad (s : ByteArray) (a b : Int) (w : World) (hT : Tabs w) (hs : s.size ≤ 3000) (hbad : a < 0 ∨ b < a ∨ ((starts s).length : Int) < b) :
    Calls Tryd.prog 4 #[.string s, .int .i64 a, .int .i64 b] w (Post w) := by
  have hl : longB s = false := decide_eq_false (by omega)
  have hs' : s.size ≤ 65536 := by omega
  have hla : (starts s).length ≤ s.size := by simpa [starts] using startsF_le s s.size 0
  have HL := Lib.hid hl; have HS := Lib.hid hs'; have HT := Lib.hid hT
  have HBad := Lib.hid hbad
  clear hbad
  clear hl hs' hT
  go_enter Tryd.func4, Tryd.ntmps4
  go_wp2_with fail
  refine (long_is s false _ HL.out).mono ?_
  rintro e w1 ⟨rfl, rfl⟩
  go_wp2_with fail
  refine (pieces_any s _ HS.out HT.out).mono ?_
  rintro e w1 ⟨va, h0, hva, hb1⟩
  subst h0
  obtain ⟨oa, ca, rfl⟩ := own_shape hva
  have HA := Lib.hid hva; have H1 := Lib.hid hb1
  clear hva hb1
  go_wp2_with fail
  refine (ref_pieces_any s _ HS.out).mono ?_
  rintro e w2 ⟨vb, h0, hvb, hb2⟩
  subst h0
  obtain ⟨ob, cb, rfl⟩ := own_shape hvb
  have hz1 := H1.out.size
  have hm : Mid s w w2 (.slice oa (starts s).length ca) (.slice ob (starts s).length cb) :=
    ⟨own_below HA.out hb2, own_base hvb hz1, H1.out.trans (hb2.mono (B' := w.heap.size) hz1), fun g g' h1 h2 => Nat.lt_of_lt_of_le (HA.out.lt g h1).2 (hvb.lt g' h2).1⟩
  have HM2 := Lib.hid hm
  clear hm hvb hb2 HA H1 hz1
  go_wp2_with fail
  refine (len_any s _ HS.out).mono ?_
  rintro e w3 ⟨rfl, hb⟩
  have hz := HM2.out.2.2.1.size
  have hm : Mid s w w3 (.slice oa (starts s).length ca) (.slice ob (starts s).length cb) := ⟨own_below HM2.out.1 hb, own_below HM2.out.2.1 hb, HM2.out.2.2.1.trans (hb.mono (B' := w.heap.size) hz), HM2.out.2.2.2⟩
  have HM3 := Lib.hid hm
  clear hm hb hz
  go_wp2_with fail
  refine (ref_len_any s _ HS.out).mono ?_
  rintro e w4 ⟨rfl, hb⟩
  have hz := HM3.out.2.2.1.size
  have hm : Mid s w w4 (.slice oa (starts s).length ca) (.slice ob (starts s).length cb) := ⟨own_below HM3.out.1 hb, own_below HM3.out.2.1 hb, HM3.out.2.2.1.trans (hb.mono (B' := w.heap.size) hz), HM3.out.2.2.2⟩
  have HM4 := Lib.hid hm
  clear hm hb hz
  go_wp2_with fail
  refine (broken_any s _ HS.out (HT.out.next HM4.out.2.2.1)).mono ?_
  rintro e w5 ⟨rfl, hb⟩
  have hz := HM4.out.2.2.1.size
  have hm : Mid s w w5 (.slice oa (starts s).length ca) (.slice ob (starts s).length cb) := ⟨own_below HM4.out.1 hb, own_below HM4.out.2.1 hb, HM4.out.2.2.1.trans (hb.mono (B' := w.heap.size) hz), HM4.out.2.2.2⟩
  have HM5 := Lib.hid hm
  clear hm hb hz
  go_wp2_with fail
  refine (ref_broken_any s _ HS.out).mono ?_
  rintro e w6 ⟨rfl, hb⟩
  have hz := HM5.out.2.2.1.size
  have hm : Mid s w w6 (.slice oa (starts s).length ca) (.slice ob (starts s).length cb) := ⟨own_below HM5.out.1 hb, own_below HM5.out.2.1 hb, HM5.out.2.2.1.trans (hb.mono (B' := w.heap.size) hz), HM5.out.2.2.2⟩
  have HM6 := Lib.hid hm
  clear hm hb hz
  go_wp2_with fail
  refine (part_bad s a b _ HS.out HBad.out).mono ?_
  rintro e w7 ⟨rfl, hb⟩
  have hz := HM6.out.2.2.1.size
  have hm : Mid s w w7 (.slice oa (starts s).length ca) (.slice ob (starts s).length cb) := ⟨own_below HM6.out.1 hb, own_below HM6.out.2.1 hb, HM6.out.2.2.1.trans (hb.mono (B' := w.heap.size) hz), HM6.out.2.2.2⟩
  have HM7 := Lib.hid hm
  clear hm hb hz
  go_wp2_with fail
  refine (ref_part_bad s a b _ HS.out HBad.out).mono ?_
  rintro e w8 ⟨rfl, hb⟩
  have hz := HM7.out.2.2.1.size
  have hm : Mid s w w8 (.slice oa (starts s).length ca) (.slice ob (starts s).length cb) := ⟨own_below HM7.out.1 hb, own_below HM7.out.2.1 hb, HM7.out.2.2.1.trans (hb.mono (B' := w.heap.size) hz), HM7.out.2.2.2⟩
  have HM8 := Lib.hid hm
  clear hm hb hz
  go_wp2_with fail
  refine (back_any s _ HS.out).mono ?_
  rintro e w9 ⟨rfl, hb⟩
  have hz := HM8.out.2.2.1.size
  have hm : Mid s w w9 (.slice oa (starts s).length ca) (.slice ob (starts s).length cb) := ⟨own_below HM8.out.1 hb, own_below HM8.out.2.1 hb, HM8.out.2.2.1.trans (hb.mono (B' := w.heap.size) hz), HM8.out.2.2.2⟩
  have HM9 := Lib.hid hm
  clear hm hb hz
  go_wp2_with fail
  refine (ref_back_any s _ HS.out).mono ?_
  rintro e w10 ⟨rfl, hb⟩
  have hz := HM9.out.2.2.1.size
  have hm : Mid s w w10 (.slice oa (starts s).length ca) (.slice ob (starts s).length cb) := ⟨own_below HM9.out.1 hb, own_below HM9.out.2.1 hb, HM9.out.2.2.1.trans (hb.mono (B' := w.heap.size) hz), HM9.out.2.2.2⟩
  have HM10 := Lib.hid hm
  clear hm hb hz
  go_wp2_with fail
  refine (same_any s _ _ _ _ _ HS.out HM10.out.1 HM10.out.2.1).mono ?_
  rintro e w11 ⟨rfl, hb⟩
  have hz := HM10.out.2.2.1.size
  have hm : Mid s w w11 (.slice oa (starts s).length ca) (.slice ob (starts s).length cb) := ⟨own_below HM10.out.1 hb, own_below HM10.out.2.1 hb, HM10.out.2.2.1.trans (hb.mono (B' := w.heap.size) hz), HM10.out.2.2.2⟩
  have HM11 := Lib.hid hm
  clear hm hb hz
  go_wp2_with fail
  go_loopw [27] (fun iv wr => ∃ i, iv = .int .i64 (i : Nat) ∧ i ≤ (starts s).length ∧ PiecesAt s w.heap.size wr (.slice ob (starts s).length cb) ∧ Below w.heap.size w wr ∧ (∀ g, oa = some g → Row (starts s).length g.block wr)) (fun iv _ => (starts s).length - (RowKit.intOf iv).toNat)
  case atStart =>
    refine ⟨0, rfl, by omega, HM11.out.2.1, HM11.out.2.2.1, ?_⟩
    intro g hg
    subst hg
    rcases HM11.out.1.2 with ⟨h1, _⟩ | ⟨g', cap, cur, h1, _⟩
    · cases h1
    · have hh := HM11.out.1
      simp only [Value.slice.injEq, Option.some.injEq] at h1
      obtain ⟨rfl, _, rfl⟩ := h1
      exact pieces_row hh
  case round =>
    obtain ⟨i, rfl, hi, hpb, hbw, hrow⟩ := hrel
    have HPB := Lib.hid hpb; have HBW := Lib.hid hbw; have HRow := Lib.hid hrow
    clear hpb hbw hrow
    by_cases h1 : i < (starts s).length
    · obtain ⟨g, cc, hg, hgb, hgl, hlie, hcap⟩ := pieces_lie HM11.out.1 (by omega)
      simp only [Value.slice.injEq] at hg
      obtain ⟨rfl, _, rfl⟩ := hg
      obtain ⟨g', cc', hg', hgb', hgl', hlie', hcap'⟩ := pieces_lie HM11.out.2.1 (by omega)
      simp only [Value.slice.injEq] at hg'
      obtain ⟨rfl, _, rfl⟩ := hg'
      have hne : g' ≠ g := by have := HM11.out.2.2.2 g g' rfl rfl; omega
      obtain ⟨cur, hcur, hcs⟩ := HRow.out _ rfl
      obtain ⟨v0, c0⟩ := row_cell (j := i * 4) hcur (by omega)
      obtain ⟨v1, c1⟩ := row_cell (j := i * 4 + 1) hcur (by omega)
      obtain ⟨v2, c2⟩ := row_cell (j := i * 4 + 2) hcur (by omega)
      obtain ⟨v3, c3⟩ := row_cell (j := i * 4 + 3) hcur (by omega)
      have f0 := row_free (j := i * 4) hcur
      have f1 := row_free (j := i * 4 + 1) hcur
      have f2 := row_free (j := i * 4 + 2) hcur
      have f3 := row_free (j := i * 4 + 3) hcur
      have HCu := Lib.hid hcur
      clear hcur hlie hlie'
      go_wp2_with fail
      go_roundw
      case rel =>
        refine ⟨i + 1, by go_num, by omega, pieces_store (pieces_store (pieces_store (pieces_store HPB.out hne _) hne _) hne _) hne _, (((HBW.out.setCell hgb _).setCell hgb _).setCell hgb _).setCell hgb _, ?_⟩
        intro x hx
        cases hx
        exact (((Row.store (HRow.out _ rfl) _).store _).store _).store _
      case measure => simp [RowKit.intOf]; omega
    · go_wp2_with fail
      refine (pieces_any s _ HS.out (HT.out.next HBW.out)).mono ?_
      rintro e x1 ⟨vc, h0, hvc, hb1⟩
      subst h0
      obtain ⟨oc, cc, rfl⟩ := own_shape hvc
      have hz1 := HBW.out.size
      have hpb1 := own_below HPB.out hb1
      have HC := Lib.hid hvc; have HPB1 := Lib.hid hpb1; have HBx : Hid (Below w.heap.size w x1) := HBW.out.trans (hb1.mono (B' := w.heap.size) hz1)
      clear hvc hpb1 hb1
      go_wp2_with fail
      refine (same_any s _ _ _ _ _ HS.out HC.out HPB1.out).mono ?_
      rintro e x2 ⟨rfl, hb2⟩
      have HBy : Hid (Below w.heap.size w x2) := HBx.out.trans (hb2.mono (B' := w.heap.size) HBx.out.size)
      clear hb2
      go_wp2_with fail
      go_ret
      exact ⟨rfl, HBy.out⟩

set_option maxHeartbeats 400000 in
theorem walk_long (s : ByteArray) (a b : Int) (w : World) (hl : longB s = true) :
    Calls Tryd.prog 4 #[.string s, .int .i64 a, .int .i64 b] w (Post w) := by
  have HL := Lib.hid hl
  clear hl
  go_enter Tryd.func4, Tryd.ntmps4
  go_wp2_with fail
  refine (long_is s true _ HL.out).mono ?_
  rintro e w1 ⟨rfl, rfl⟩
  go_wp2_with fail
  go_ret
  exact ⟨rfl, Below.refl _ _⟩

theorem walk0 (s : ByteArray) (a b : Int) (w : World) (hT : Tabs w) :
    Calls Tryd.prog 4 #[.string s, .int .i64 a, .int .i64 b] w (Post w) := by
  cases hl : longB s with
  | true => exact walk_long s a b w hl
  | false =>
    have h := of_decide_eq_false hl
    by_cases h1 : s.size ≤ 3000
    · by_cases hb : a < 0 ∨ b < a ∨ ((starts s).length : Int) < b
      · exact walk_bad s a b w hT h1 hb
      · obtain ⟨n, rfl⟩ := Int.eq_ofNat_of_zero_le (show 0 ≤ a by omega)
        obtain ⟨m, rfl⟩ := Int.eq_ofNat_of_zero_le (show 0 ≤ b by omega)
        exact walk_good s n m w hT h1 (by omega) (by omega)
    · exact walk_big s a b w (by omega) (by omega)

theorem walk (s : ByteArray) (a b : Int) (w : World) (hL : laidMetH Tryd.prog Rows.runesTextsRow.laid w) (_ : s.size ≤ maxLen) (_ : (Lit.int .i64 a).wf = true) (_ : (Lit.int .i64 b).wf = true) :
    Calls Tryd.prog 4 #[.string s, .int .i64 a, .int .i64 b] w fun e w' => e = .returned (.bool true) ∧ Below w.heap.size w w' :=
  walk0 s a b w (tabs_of hL (by simp [Rows.runesTextsRow]) (by simp [Rows.runesTextsRow]))

/-- WHAT THE WALK GIVES, FOR EVERY ARGUMENT AND EVERY WORLD THAT HOLDS THE LISTED TABLES. -/
theorem contract (H : Type) (enc : TypeId × Value → H) (W : World) (base : Nat) (args : Array Value) (ds gs : List (DataW H)) (before : List MemPlace)
    (hval : ∀ (j : Nat) t v, Tryd.f4.params[j]? = some t → args[j]? = some v → Value.okWide Tryd.prog W .any base t v)
    (hW : DataW.Whole enc Tryd.prog Tryd.f4.params.toList Rows.runesTextsSpec.vars false W args.toList ds gs before) (hL : laidMetH Tryd.prog Rows.runesTextsRow.laid W) :
    Calls Tryd.prog 4 args W fun e W' => ∃ v, e = .returned v ∧ Rows.runesTextsSpec.post enc Tryd.prog Tryd.f4 false true false false W args v W' := by
  have hW' := hW
  obtain ⟨p, q, hA0, hV, rfl, hfz, hnd⟩ := hW
  have hA : DataW.TrodAll enc Tryd.prog W 0 (fun _ => true) true Tryd.f4.params.toList args.toList ds p := hA0
  rw [Tryd.params4] at hA hval
  obtain ⟨v0, vs0, d0, ds0, p0, q0, hargs, rfl, rfl, h0, r0⟩ := trodAll_cons hA
  obtain ⟨v1, vs1, d1, ds1, p1, q1, rfl, rfl, rfl, h1, r1⟩ := trodAll_cons r0
  obtain ⟨v2, vs2, d2, ds2, p2, q2, rfl, rfl, rfl, h2, r2⟩ := trodAll_cons r1
  obtain ⟨rfl, rfl, rfl⟩ := trodAll_nil r2
  obtain rfl : args = #[v0, v1, v2] := by cases args; simp_all
  obtain ⟨rfl, rfl⟩ := trodVars_none hV
  obtain ⟨a0, rfl, rfl, rfl, w0⟩ := Go.ChangeMaps.open_string Tryd.underlying9 (hval 0 9 v0 rfl rfl) h0
  obtain ⟨a1, rfl, rfl, rfl, w1⟩ := open_int Tryd.underlying3 (hval 1 3 v1 rfl rfl) h1
  obtain ⟨a2, rfl, rfl, rfl, w2⟩ := open_int Tryd.underlying3 (hval 2 3 v2 rfl rfl) h2
  clear hA0
  simp only [List.append_nil] at hW'
  refine (walk a0 a1 a2 W hL w0 w1 w2).mono fun e W' ⟨he, hg⟩ => ?_
  subst he
  exact ⟨_, rfl, ⟨_, _, _, [], _, [], hW', (trodAll_cons_mk (shut_bool Tryd.underlying4 _) trodAll_mk0), (trodAll_cons_mk (Go.ChangeMaps.shut_string Tryd.underlying9 w0) (trodAll_cons_mk (shut_int Tryd.underlying3 w1) (trodAll_cons_mk (shut_int Tryd.underlying3 w2) trodAll_mk0))), rfl, hg.frame _, fun h => by cases h⟩⟩

theorem laid_met (os : Os) : laidMet Tryd.prog Rows.runesTextsRow.laid ((laidWorld os).forCall (fun _ _ => 0) ⟨#[], #[.string ByteArray.empty, .int .i64 0, .int .i64 0], []⟩).memory :=
  laidMet_of_run' 8 (by kernel_rfl) (by kernel_rfl)
theorem reads (os : Os) {H : Type} (enc : TypeId × Value → H) : ∃ places, DataW.whole enc Tryd.prog ((laidWorld os).forCall (fun _ _ => 0) ⟨#[], #[.string ByteArray.empty, .int .i64 0, .int .i64 0], []⟩).memory Tryd.f4.params.toList Rows.runesTextsSpec.vars false (#[.string ByteArray.empty, .int .i64 0, .int .i64 0] : Array Value).toList 8 = some ([.lit (.string []), .lit (.int .i64 0), .lit (.int .i64 0)], [], places) :=
  ⟨[], by kernel_rfl⟩

set_option maxRecDepth 100000 in
/-- THE ROW's STEP. -/
theorem lifted (os : Os) (started : os.Started) (H : Type) (enc : TypeId × Value → H) (F : Stop.Interp) :
    ReturnsInHanded {} Tryd.checked os 4 .any ((OpenSpec.ofChange Rows.runesTextsSpec).preRow enc Tryd.prog Tryd.f4 Rows.runesTextsRow.domain false Rows.runesTextsRow.laid) (((OpenSpec.ofChange Rows.runesTextsSpec).at F).post enc Tryd.prog Tryd.f4 false true false false) := by
  obtain ⟨places, hx⟩ := reads os enc
  refine returnsInHanded_of_row (C := Tryd.checked) (s := OpenSpec.ofChange Rows.runesTextsSpec) own started (by kernel_rfl) Tryd.func4
    (witness_row_at (enc := enc) (C := Tryd.checked) false (laidWorld os) #[.string ByteArray.empty, .int .i64 0, .int .i64 0] rfl (by kernel_rfl) (by kernel_rfl) (by kernel_rfl)
      (OpenSpec.preRow_of_cond 8 hx (by kernel_rfl) (fun k hk => by cases hk) (by kernel_rfl) (laid_met os))) ?_
  intro W base args ds gs before hval hW _ _ _ hL _ _
  exact contract H enc W base args ds gs before hval hW hL

theorem said : Rows.RunesTextsSaid :=
  OpenClaim.holds_of_cond 4 Tryd.f4 rfl rfl rfl rfl rfl rfl rfl ⟨rfl, rfl, rfl, rfl, rfl⟩ rfl rfl rfl rfl rfl (by kernel_rfl) Tryd.func4 (by kernel_rfl)
    (of_decide_eq_true (by kernel_rfl)) (by unfold Func.isWrapper; first | (rw [if_pos (by decide +kernel)]; kernel_rfl) | (rw [if_neg (by decide +kernel)]; exact ⟨rfl, rfl⟩))
    (fun os started H enc _ F => by rw [OpenClaim.pre_eq_preRow]; exact lifted os started H enc F)

/-- No parameter wants a stand-in; the program's own looks are off: what the card asks. -/
theorem plain (f : FuncId) (fn : Func) (hf : Tryd.pinned.checked.prog.funcNamed "cognate/cognatelaw01.RunesTexts" = some f) (hfn : Tryd.pinned.checked.prog.funcs[f]? = some fn) :
    false = Tryd.pinned.checked.prog.looks [] ∧ ∀ (j : Nat) t, fn.params[j]? = some t → Tryd.pinned.checked.prog.wantsStandIn t = false := by
  obtain rfl : f = 4 := Option.some.inj ((show Tryd.prog.funcNamed "cognate/cognatelaw01.RunesTexts" = some 4 by kernel_rfl).symm.trans hf) |>.symm
  obtain rfl : fn = Tryd.f4 := (Option.some.inj (Tryd.func4.symm.trans hfn)).symm
  refine ⟨by kernel_rfl, fun j t ht => ?_⟩
  rw [Tryd.params4] at ht
  have hm := Array.mem_of_getElem? ht
  have e : t = 9 ∨ t = 3 ∨ t = 3 := by simpa using hm
  rcases e with rfl | rfl | rfl
  · exact (show Tryd.prog.wantsStandIn 9 = false by kernel_rfl)
  · exact (show Tryd.prog.wantsStandIn 3 = false by kernel_rfl)
  · exact (show Tryd.prog.wantsStandIn 3 = false by kernel_rfl)

/-- ████ THE CARD ████ -/
theorem card : Rows.RunesTextsCardSaid :=
  Claim7.holds_tied_plain_at .later [] _ _ _ _ said (fun _ h => by cases h) (by kernel_rfl) (fun _ h => by cases h) runesTexts_row_tie rfl ⟨rfl, rfl⟩ (by kernel_rfl) rfl plain (by kernel_rfl)

end Go.Proofs.YthkdfffankpekaaDoor.lawTexts
