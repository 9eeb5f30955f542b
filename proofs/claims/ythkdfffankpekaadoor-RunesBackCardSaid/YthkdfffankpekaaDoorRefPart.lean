/-
  WALKS OF THE DOCUMENT's ANSWER: cognateref01.Part, Same.
-/
import Derived.Test.YthkdfffankpekaaDoorPart
import Derived.Lib.AppendStr
import Derived.StillTailTactics
import Derived.Laws.StructEq
import Derived.Deep.QuietTactic
import Derived.BigQuiet
namespace Go.Proofs.YthkdfffankpekaaDoor
open Go.RowKit Go.Lib
set_option linter.unusedVariables false

def cutL (s : ByteArray) (a b : Nat) : List UInt8 := (s.extract a b).data.toList
theorem strOf_cut (s : ByteArray) (a b : Nat) : strOf (cutL s a b) = s.extract a b := by
  unfold strOf cutL
  cases h : s.extract a b
  simp
theorem cutL_step (s : ByteArray) (a b c : Nat) (h1 : a ≤ b) (h2 : b ≤ c) : cutL s a b ++ cutL s b c = cutL s a c := by
  unfold cutL
  rw [← Array.toList_append, ← ByteArray.data_append, ByteArray.extract_append_extract]
  rw [Nat.min_eq_left h1, Nat.max_eq_right h2]
theorem cutL_length (s : ByteArray) (a b : Nat) (h : b ≤ s.size) : (cutL s a b).length = b - a := by
  unfold cutL
  rw [Array.length_toList]
  show (s.extract a b).size = _
  simp
  omega
theorem cutL_nil (s : ByteArray) (a : Nat) : cutL s a a = [] := by
  have := cutL_length s a (min a s.size) (Nat.min_le_right _ _)
  unfold cutL
  simp
theorem strCells_cut (s : ByteArray) (a b : Nat) : strCells (s.extract a b) = byteCells (cutL s a b) := rfl

def PartPost (s : ByteArray) (a b : Nat) (w : World) (e : Ending) (w' : World) : Prop := e = .returned (.tuple #[.string (s.extract (place s a) (place s b)), .int .i64 0]) ∧ Below w.heap.size w w'

set_option maxHeartbeats 2000000 in
theorem ref_part_any (s : ByteArray) (a b : Nat) (w : World) (hs : s.size ≤ 65536) (hab : a ≤ b) (hbl : b ≤ (starts s).length) :
    Calls Tryd.prog 23 #[.string s, .int .i64 a, .int .i64 b] w (PartPost s a b w) := by
  have hla : (starts s).length ≤ s.size := by simpa [starts] using startsF_le s s.size 0
  have g1 : decide ((a : Int) < 0) = false := by simp
  have g2 : decide (b < a) = false := by simp; omega
  have g3 : decide ((starts s).length < b) = false := by simp; omega
  obtain ⟨i0, hi, hz0, hz1, hz2⟩ := info_parts byte_info
  go_enter Tryd.func23, Tryd.ntmps23
  go_wp2_with fail
  refine (ref_pieces_any s _ hs).mono ?_
  rintro e w1 ⟨x, rfl, hx, hb1⟩
  have HX := Lib.hid hx
  have HB := Lib.hid hb1
  obtain ⟨o, c, rfl⟩ := own_shape hx
  clear hx hb1
  go_wp2_with fail
  go_loopw [10, 11] (fun v iv wr => ∃ i, iv = .int .i64 (i : Nat) ∧ a ≤ i ∧ i ≤ b ∧ OutAt w.heap.size (cutL s (place s a) (place s i)) wr v ∧ PiecesAt s w.heap.size wr (.slice o (starts s).length c) ∧ Below w.heap.size w wr) (fun _ iv _ => b - (RowKit.intOf iv).toNat)
  case atStart => exact ⟨a, rfl, Nat.le_refl _, hab, by unfold OutAt; rw [cutL_nil]; exact World.ownsRow_nil _ _ _ _, HX.out, HB.out⟩
  case round =>
    obtain ⟨i, rfl, hai, hib, hout, hpc, hbw⟩ := hrel
    have HO := Lib.hid hout; have HPc := Lib.hid hpc; have HBw := Lib.hid hbw
    have hsz := hbw.size
    obtain ⟨oo, co, rfl⟩ := own_shape hout
    by_cases h1 : i < b
    · have hil : i < (starts s).length := by omega
      obtain ⟨p, hpe⟩ : ∃ p, p = place s i := ⟨_, rfl⟩
      have hp : (starts s)[i]? = some p := by rw [hpe]; exact place_at s i hil
      obtain ⟨g, c', hg, hgb, hgl, hlie, hcap⟩ := pieces_lie hpc (by omega)
      simp only [Value.slice.injEq] at hg
      obtain ⟨rfl, _, rfl⟩ := hg
      obtain ⟨a0, a1, a2, a3⟩ := hlie.cell i p hp
      have hps : p < s.size := by rw [hpe]; exact place_lt s i hil
      have hfit := dW_fits s p hps
      have hpos := dW_pos s p
      have hsucc : place s (i + 1) = p + dW s p := by rw [hpe]; exact place_succ s i hil
      have hma : place s a ≤ p := by
        have := place_mono s a (i - a)
        rw [show a + (i - a) = i by omega] at this
        rw [hpe]; exact this
      rw [← hpe] at HO
      have hcl := cutL_length s (place s a) p (by omega)
      have hcs : (cutL s (place s a) p).length ≤ 65536 := by omega
      have hes : (s.extract p (p + dW s p)).size = dW s p := by simp; omega
      have HSu := Lib.hid hsucc; have HPe := Lib.hid hpe; have HMa := Lib.hid hma; have HEs := Lib.hid hes
      rw [← hpe]
      clear hp hlie a0 a3 hout hpc hbw hpe hsucc hma hcl hes
      go_wp2_with fail
      have q1 : IntKind.i64.wrap ((p : Int) + (dW s p : Int)) = (p : Int) + (dW s p : Int) := by rw [IntKind.wrap_i64]; omega
      have q2 : (0 : Int) ≤ (p : Int) + (dW s p : Int) := by omega
      have q3 : ((p : Int) + (dW s p : Int)).toNat = p + dW s p := by omega
      have q4 : (p : Int) + (dW s p : Int) ≤ (s.size : Int) := by omega
      have q5 : (p : Int) ≤ (p : Int) + (dW s p : Int) := by omega
      go_still_tail 19, (by kernel_rfl)
      clear q1 q2 q3 q4 q5
      change wpList _ _ _ _ _ wr.drew
      have hbd : Below wr.heap.size wr wr.drew := (Below.refl _ _).drew
      obtain ⟨W1, hW1⟩ : ∃ W1, W1 = wr.drew := ⟨_, rfl⟩
      rw [← hW1] at hbd ⊢
      have hs1 := hbd.size
      have HBd := Lib.hid hbd
      clear hW1 hbd a1 a2
      refine wpList_append_own_string _ rfl (.tmp 39) (.tmp 57) 54 9 rfl w.heap.size 5 i0 Tryd.underlying54 Tryd.underlying9 hi hz0 hz1 hz2 _ _ _ rfl (own_below HO.out HBd.out) _ rfl ?c3 ?c4 ?c5 ?_
      case c3 => unfold maxLen; rw [HEs.out]; omega
      case c4 => rw [HEs.out]; omega
      case c5 => omega
      intro v3 w3 hown3 hgrow3 hnil3
      have hout3 : OutAt w.heap.size (cutL s (place s a) (place s (i + 1))) w3 v3 := by
        have hl3 : (cutL s (place s a) (p + dW s p)).length = (cutL s (place s a) p).length + (s.extract p (p + dW s p)).size := by
          rw [cutL_length s _ _ (by omega), cutL_length s _ _ (by omega), HEs.out]
          have := HMa.out
          omega
        unfold OutAt
        rw [HSu.out, hl3, ← cutL_step s (place s a) p (p + dW s p) HMa.out (by omega), byteCells_append]
        exact hown3
      have hpc3 : PiecesAt s w.heap.size w3 (.slice (some ⟨g, 0, none⟩) (starts s).length c) :=
        (own_below HPc.out HBd.out).kept hgrow3 (own_apart (own_below HO.out HBd.out) (own_below HPc.out HBd.out) (by decide))
      have hbw3 : Below w.heap.size w w3 := (HBw.out.trans (HBd.out.mono (B' := w.heap.size) hsz)).grown hgrow3 (by omega) (fun k hk => (HO.out.lt k hk).1)
      have HO3 := Lib.hid hout3; have HP3 := Lib.hid hpc3; have HB3 := Lib.hid hbw3
      clear hown3 hgrow3 hnil3 hout3 hpc3 hbw3
      go_wp2_with fail
      go_roundw
      case rel => first | exact ⟨i + 1, by go_num, by omega, by omega, HO3.out, HP3.out, HB3.out⟩ | ((repeat apply Exists.intro); exact ⟨⟨i + 1, by go_num, by omega, by omega, HO3.out, HP3.out, HB3.out⟩, rfl⟩)
      case measure => simp [RowKit.intOf]; omega
    · obtain rfl : i = b := by omega
      have hcv := hout.conv
      clear hout hpc hbw
      go_wp2_with fail
      go_ret2
      exact ⟨ret_s (strOf_cut s _ _), HBw.out⟩
set_option maxHeartbeats 400000 in
theorem ref_part_long (s : ByteArray) (a b : Int) (w : World) (hs : ¬ s.size ≤ 65536) :
    Calls Tryd.prog 23 #[.string s, .int .i64 a, .int .i64 b] w fun e w' => e = .returned (.tuple #[.string ByteArray.empty, .int .i64 3]) ∧ Below w.heap.size w w' := by
  go_enter Tryd.func23, Tryd.ntmps23
  go_wp2_with fail
  refine (ref_pieces_long s _ hs).mono ?_
  rintro e w1 ⟨rfl, rfl⟩
  go_wp2_with fail
  go_ret2
  exact ⟨rfl, Below.refl _ _⟩
set_option maxHeartbeats 1000000 in
theorem ref_part_bad (s : ByteArray) (a b : Int) (w : World) (hs : s.size ≤ 65536) (h : a < 0 ∨ b < a ∨ ((starts s).length : Int) < b) :
    Calls Tryd.prog 23 #[.string s, .int .i64 a, .int .i64 b] w fun e w' => e = .returned (.tuple #[.string ByteArray.empty, .int .i64 10]) ∧ Below w.heap.size w w' := by
  by_cases h1 : a < 0
  · clear h
    go_enter Tryd.func23, Tryd.ntmps23
    go_wp2_with fail
    refine (ref_pieces_any s _ hs).mono ?_
    rintro e w1 ⟨x, rfl, hx, hb1⟩
    have HB := Lib.hid hb1
    obtain ⟨o, c, rfl⟩ := own_shape hx
    clear hx hb1
    go_wp2_with fail
    go_ret2
    exact ⟨rfl, HB.out⟩
  by_cases h2 : b < a
  · clear h
    go_enter Tryd.func23, Tryd.ntmps23
    go_wp2_with fail
    refine (ref_pieces_any s _ hs).mono ?_
    rintro e w1 ⟨x, rfl, hx, hb1⟩
    have HB := Lib.hid hb1
    obtain ⟨o, c, rfl⟩ := own_shape hx
    clear hx hb1
    go_wp2_with fail
    go_ret2
    exact ⟨rfl, HB.out⟩
  have h3 : ((starts s).length : Int) < b := by omega
  clear h
  go_enter Tryd.func23, Tryd.ntmps23
  go_wp2_with fail
  refine (ref_pieces_any s _ hs).mono ?_
  rintro e w1 ⟨x, rfl, hx, hb1⟩
  have HB := Lib.hid hb1
  obtain ⟨o, c, rfl⟩ := own_shape hx
  clear hx hb1
  go_wp2_with fail
  go_ret2
  exact ⟨rfl, HB.out⟩

/-! ### Same: two lists of pieces -/
set_option maxHeartbeats 2000000 in
theorem same_any (s : ByteArray) (B B' : Nat) (v v' : Value) (w : World) (hs : s.size ≤ 65536) (hv : PiecesAt s B w v) (hv' : PiecesAt s B' w v') :
    Calls Tryd.prog 26 #[v, v'] w fun e w' => e = .returned (.bool true) ∧ Below w.heap.size w w' := by
  have hla : (starts s).length ≤ s.size := by simpa [starts] using startsF_le s s.size 0
  obtain ⟨o, c, rfl⟩ := own_shape hv
  obtain ⟨o', c', rfl⟩ := own_shape hv'
  have HV := Lib.hid hv; have HV' := Lib.hid hv'
  clear hv hv'
  go_enter Tryd.func26, Tryd.ntmps26
  go_wp2_with fail
  go_loopw [5] (fun iv wr => ∃ i n, iv = .int .i64 (i : Nat) ∧ i ≤ (starts s).length ∧ wr = w.drewN n) (fun iv _ => (starts s).length - (RowKit.intOf iv).toNat)
  case atStart => exact ⟨0, 0, rfl, by omega, rfl⟩
  case round =>
    obtain ⟨i, n, rfl, hi, rfl⟩ := hrel
    by_cases h1 : i < (starts s).length
    · obtain ⟨p, hp⟩ : ∃ p, (starts s)[i]? = some p := ⟨_, List.getElem?_eq_getElem h1⟩
      obtain ⟨g, cc, hg, hgb, hgl, hlie, hcap⟩ := pieces_lie HV.out (by omega)
      simp only [Value.slice.injEq] at hg
      obtain ⟨rfl, _, rfl⟩ := hg
      obtain ⟨g', cc', hg', hgb', hgl', hlie', hcap'⟩ := pieces_lie HV'.out (by omega)
      simp only [Value.slice.injEq] at hg'
      obtain ⟨rfl, _, rfl⟩ := hg'
      obtain ⟨a0, a1, a2, a3⟩ := hlie.cell i p hp
      obtain ⟨b0, b1, b2, b3⟩ := hlie'.cell i p hp
      go_wp2_with fail
      go_quiet (fail)
      go_wp2_with fail
      go_roundw
      case rel => exact ⟨i + 1, n + nq, by go_num, by omega, rfl⟩
      case measure => simp [RowKit.intOf]; omega
    · go_wp2_with fail
      go_ret
      exact ⟨rfl, below_drewN (Below.refl _ _) _⟩
end Go.Proofs.YthkdfffankpekaaDoor
