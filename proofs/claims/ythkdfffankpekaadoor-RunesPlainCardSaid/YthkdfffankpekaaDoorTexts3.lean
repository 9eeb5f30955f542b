/-
  WALKS OF THE DOCUMENT's ANSWER: cognateref01.Back, Text: runes put back, rune by rune.
-/
import Derived.Test.YthkdfffankpekaaDoorTexts2
namespace Go.Proofs.YthkdfffankpekaaDoor
open Go.RowKit Go.Lib
set_option linter.unusedVariables false

theorem byte_info : (Tryd.prog.info? 5).map (fun i => (i.zero, i.size, i.bytes)) = some (some (.int .u8 0), 1, 1) := by kernel_rfl
theorem byteCells_one (l : List UInt8) : ∀ u ∈ byteCells l, u.oneCell' = true := by
  intro u hu
  simp only [byteCells, List.mem_map] at hu
  obtain ⟨b, _, rfl⟩ := hu
  rfl

/-- A slice of bytes of the call's own. -/
def OutAt (B : Nat) (l : List UInt8) (w : World) (v : Value) : Prop := w.ownsRow B 5 1 v l.length (byteCells l)
theorem OutAt.conv {B : Nat} {l : List UInt8} {w : World} {v : Value} (h : OutAt B l w v) : (convert 54 9 v).run Tryd.prog w = .ok (.string (strOf l)) w := conv_own h rfl
theorem take_snoc_text (ns : List Int) (i : Nat) (n : Int) (h : ns[i]? = some n) : textL (ns.take i) ++ encL n = textL (ns.take (i + 1)) := by
  obtain ⟨h1, rfl⟩ := List.getElem?_eq_some_iff.1 h
  rw [textL_snoc, List.take_succ_eq_append_getElem h1]
theorem textL_take_le (ns : List Int) (i : Nat) : (textL (ns.take i)).length ≤ 4 * i := by
  have := textL_length (ns.take i)
  have h2 : (ns.take i).length ≤ i := List.length_take_le _ _
  omega

theorem ret_s {a b : ByteArray} {v : Value} (h : a = b) : Ending.returned (.tuple #[.string a, v]) = .returned (.tuple #[.string b, v]) := by rw [h]
def BackPost (s : ByteArray) (w : World) (e : Ending) (w' : World) : Prop := e = .returned (.tuple #[.string (strOf (backL s)), .int .i64 0]) ∧ Below w.heap.size w w'

theorem runesL_at (s : ByteArray) (i p : Nat) (h : (starts s)[i]? = some p) : (runesL s)[i]? = some (dR s p : Int) := by simp [runesL, h]

/-- Rows of two kinds of elements are two blocks. -/
theorem own_apart {w : World} {B B' e e' size size' n n' : Nat} {v v' : Value} {xs xs' : List Value} (h : w.ownsRow B e size v n xs) (h' : w.ownsRow B' e' size' v' n' xs') (hne : e ≠ e') : v'.ownBlock = none ∨ v'.ownBlock ≠ v.ownBlock := by
  rcases h'.2 with ⟨rfl, _⟩ | ⟨g', c', cur', rfl, _, hg', _⟩
  · exact .inl rfl
  · rcases h.2 with ⟨rfl, _⟩ | ⟨g, c, cur, rfl, _, hg, _⟩
    · exact .inr (by simp [Value.ownBlock])
    · refine .inr ?_
      simp only [Value.ownBlock, ne_eq, Option.some.injEq]
      intro e
      subst e
      rw [hg] at hg'
      simp only [Option.some.injEq, Obj.cells.injEq] at hg'
      exact hne hg'.2.1

set_option maxHeartbeats 1000000 in
theorem ref_back_any (s : ByteArray) (w : World) (hs : s.size ≤ 65536) :
    Calls Tryd.prog 25 #[.string s] w (BackPost s w) := by
  have hla : (starts s).length ≤ s.size := by simpa [starts] using startsF_le s s.size 0
  obtain ⟨i0, hi, hz0, hz1, hz2⟩ := info_parts byte_info
  go_enter Tryd.func25, Tryd.ntmps25
  go_wp2_with fail
  refine (ref_pieces_any s _ hs).mono ?_
  rintro e w1 ⟨x, rfl, hx, hb1⟩
  have HX := Lib.hid hx
  have HB := Lib.hid hb1
  obtain ⟨o, c, rfl⟩ := own_shape hx
  clear hx hb1
  go_wp2_with fail
  go_loopw [6, 7] (fun v iv wr => ∃ i, iv = .int .i64 (i : Nat) ∧ i ≤ (starts s).length ∧ OutAt w.heap.size (textL ((runesL s).take i)) wr v ∧ PiecesAt s w.heap.size wr (.slice o (starts s).length c) ∧ Below w.heap.size w wr) (fun _ iv _ => (starts s).length - (RowKit.intOf iv).toNat)
  case atStart => exact ⟨0, rfl, by omega, World.ownsRow_nil _ _ _ _, HX.out, HB.out⟩
  case round =>
    obtain ⟨i, rfl, hil, hout, hpc, hbw⟩ := hrel
    have HO := Lib.hid hout; have HPc := Lib.hid hpc; have HBw := Lib.hid hbw
    have hsz := hbw.size
    obtain ⟨oo, co, rfl⟩ := own_shape hout
    by_cases h1 : i < (starts s).length
    · obtain ⟨p, hp⟩ : ∃ p, (starts s)[i]? = some p := ⟨_, List.getElem?_eq_getElem h1⟩
      obtain ⟨g, c', hg, hgb, hgl, hlie, hcap⟩ := pieces_lie hpc (by omega)
      simp only [Value.slice.injEq] at hg
      obtain ⟨rfl, _, rfl⟩ := hg
      obtain ⟨a0, a1, a2, a3⟩ := hlie.cell i p hp
      have HRn := Lib.hid (runesL_at s i p hp)
      have htl := textL_take_le (runesL s) i
      have hel := encL_length (dR s p : Int)
      clear hp hlie a1 a2 a3 hout hpc hbw
      go_wp2_with fail
      refine (one_any (dR s p) _).mono ?_
      rintro e w2 ⟨x2, g2, rfl, ⟨rfl, hcells⟩, hg2, hb2⟩
      have hsz2 := hb2.size
      have HC := Lib.hid hcells; have HB2 := Lib.hid hb2
      clear hcells hb2 a0
      go_wp2_with (at_builtin; refine wpList_append_own _ rfl (.tmp 29) (.tmp 30) 54 rfl w.heap.size 5 i0 (.int .u8 0) 1 1 Tryd.underlying54 hi hz0 hz1 hz2 rfl (by decide) _ _ _ rfl (own_below HO.out HB2.out) ⟨g2, 0, none⟩ _ _ (byteCells (encL (dR s p))) rfl ?c0 HC.out (byteCells_one _) ?c3 ?c4 ?c5 ?_)
      case c0 => rw [byteCells_length, Nat.mul_one]
      case c3 => unfold maxLen; omega
      case c4 => omega
      case c5 => omega
      intro v3 w3 hown3 hgrow3 hnil3
      have hout3 : OutAt w.heap.size (textL ((runesL s).take (i + 1))) w3 v3 := by
        unfold OutAt
        rw [← take_snoc_text _ _ _ HRn.out, byteCells_append, List.length_append]
        exact hown3
      have hpc3 : PiecesAt s w.heap.size w3 (.slice (some ⟨g, 0, none⟩) (starts s).length c) :=
        (own_below HPc.out HB2.out).kept hgrow3 (own_apart (own_below HO.out HB2.out) (own_below HPc.out HB2.out) (by decide))
      have hbw3 : Below w.heap.size w w3 := (HBw.out.trans (HB2.out.mono (B' := w.heap.size) hsz)).grown hgrow3 (by omega) (fun k hk => (HO.out.lt k hk).1)
      have HO3 := Lib.hid hout3; have HP3 := Lib.hid hpc3; have HB3 := Lib.hid hbw3
      clear hown3 hgrow3 hnil3 hout3 hpc3 hbw3
      go_wp2_with fail
      go_roundw
      case rel => exact ⟨i + 1, by go_num, by omega, HO3.out, HP3.out, HB3.out⟩
      case measure => simp [RowKit.intOf]; omega
    · have hcv := hout.conv
      have hall : (runesL s).take i = runesL s := List.take_of_length_le (by rw [runesL_length]; omega)
      have HA := Lib.hid hall
      clear hout hpc hbw hall
      go_wp2_with fail
      go_ret2
      exact ⟨ret_s (by rw [HA.out]; rfl), HBw.out⟩
set_option maxHeartbeats 400000 in
theorem ref_back_long (s : ByteArray) (w : World) (hs : ¬ s.size ≤ 65536) :
    Calls Tryd.prog 25 #[.string s] w fun e w' => e = .returned (.tuple #[.string ByteArray.empty, .int .i64 3]) ∧ w = w' := by
  go_enter Tryd.func25, Tryd.ntmps25
  go_wp2_with fail
  refine (ref_pieces_long s _ hs).mono ?_
  rintro e w1 ⟨rfl, rfl⟩
  go_wp2_with fail
  go_ret2
  exact ⟨rfl, rfl⟩
end Go.Proofs.YthkdfffankpekaaDoor
