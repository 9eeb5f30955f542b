/-
  WALKS OF THE PROGRAM's runes.rank AND runes.Less, at every text.
-/
import Derived.Test.YthkdfffankpekaaDoorShelf
import Derived.Test.YthkdfffankpekaaDoorRef1
import Derived.Lib.OthersKept
import Derived.Lib.RuneCountTail
import Derived.Shelf.Unicode.DecodeSlow
import Derived.Deep.RegionWith
import Derived.Deep.Cut
import Derived.Deep.CutRange
import Derived.Deep.LoopGhost
import Derived.LoopTactic
namespace Go.Proofs.YthkdfffankpekaaDoor
open Go.RowKit

/-- unicode/utf8's two tables lie as their initialisers lay them. -/
def Tabs (w : World) : Prop := Lib.Utf8Tabs 0 1 w ∧ 0 < w.heap.size ∧ 1 < w.heap.size

theorem Tabs.mk' {w : World} (h : Lib.Utf8Tabs 0 1 w) : Tabs w :=
  ⟨h, World.block_lt_of_cell? _ _ (h.1 0 (by omega)), World.block_lt_of_cell? _ _ (h.2 0 (by omega)).1⟩
theorem Tabs.below {w w' : World} {B : Nat} (h : Tabs w) (hB : 0 < B ∧ 1 < B) (hb : Below B w w') : Tabs w' :=
  ⟨⟨fun c hc => (hb.cell (p := ⟨0, c, none⟩) hB.1).trans (h.1.1 c hc), fun i hi => ⟨(hb.cell (p := ⟨1, 2 * i, none⟩) hB.2).trans (h.1.2 i hi).1, (hb.cell (p := ⟨1, 2 * i + 1, none⟩) hB.2).trans (h.1.2 i hi).2⟩⟩,
   Nat.lt_of_lt_of_le h.2.1 hb.size, Nat.lt_of_lt_of_le h.2.2 hb.size⟩
theorem Tabs.next {w w' : World} (h : Tabs w) (hb : Below w.heap.size w w') : Tabs w' := h.below h.2 hb

theorem below_undrew {B : Nat} {w w' : World} (h : Below B w.drew w') : Below B w w' := ⟨h.os, h.tape, h.output, h.size, h.block⟩
theorem Tabs.drew {w : World} (h : Tabs w) : Tabs w.drew := h
theorem Tabs.iterAt {w : World} (h : Tabs w) {k : Nat} {s : ByteArray} {q : Nat} (hk : w.heap[k]? = some (.stringIter s q)) (pos : Nat) : Tabs (w.iterAt k s pos) := by
  have key : ∀ b o v, w.cell? ⟨b, o, none⟩ = some v → (w.iterAt k s pos).cell? ⟨b, o, none⟩ = some v := by
    intro b o v hv
    have hne : b ≠ k := by
      intro e; subst e
      simp [World.cell?, hk] at hv
    rw [← hv]
    exact World.cell?_of_block (w := w) (Lib.iterAt_other w k b s pos hne)
  refine ⟨⟨fun c hc => key _ _ _ (h.1.1 c hc), fun i hi => ⟨key _ _ _ (h.1.2 i hi).1, key _ _ _ (h.1.2 i hi).2⟩⟩, ?_, ?_⟩
  · rw [Lib.iterAt_size]; exact h.2.1
  · rw [Lib.iterAt_size]; exact h.2.2

theorem decodeGo_cut (s : ByteArray) (p : Nat) (h : p < s.size) : Lib.decodeGo (s.extract p s.size) = (dR s p, dW s p) := by
  have e : ¬ (s.extract p s.size).size = 0 := by simp; omega
  unfold Lib.decodeGo
  rw [if_neg e, Lib.tail_decode, Nat.add_zero]
  rfl
theorem decodeGo_all (s : ByteArray) (h : 0 < s.size) : Lib.decodeGo s = (dR s 0, dW s 0) := by
  have e : ¬ s.size = 0 := by omega
  unfold Lib.decodeGo
  rw [if_neg e]
  rfl

theorem decode_cut (s : ByteArray) (p : Nat) (w : World) (h : p < s.size) (hT : Tabs w) :
    Calls Tryd.prog 32 #[.string (s.extract p s.size)] w fun e w' => e = .returned (.tuple #[.int .i32 (dR s p), .int .i64 (dW s p)]) ∧ Below w.heap.size w w' := by
  have := Tryd.utf8_DecodeRuneInString (s.extract p s.size) w hT.1
  rw [decodeGo_cut s p h] at this
  exact this

theorem rank_brk {s : ByteArray} {p : Nat} (h : brk s p = true) : rk s p = 1114112 + (s.get! p).toNat := rkA_brk _ s p h
theorem rank_not {s : ByteArray} {p : Nat} (h : brk s p = false) : rk s p = dR s p := rkA_not _ s p h

set_option maxHeartbeats 400000 in
theorem rank_bad (T : ByteArray) (w : World) (hz : 0 < T.size)
    (HD : Hid (Calls Tryd.prog 32 #[.string T] w fun e w' => e = .returned (.tuple #[.int .i32 65533, .int .i64 1]) ∧ Below w.heap.size w w')) :
    Calls Tryd.prog 40 #[.string T] w fun e w' => e = .returned (.int .i32 (1114112 + T[0].toNat : Nat)) ∧ Below w.heap.size w w' := by
  have hbt : ((T[0]).toNat : Int) < 256 := by have := (T[0]).toNat_lt; omega
  go_enter Tryd.func40, Tryd.ntmps40
  go_wp2_with (go_at_call 32; refine HD.out.mono ?_; rintro e w' ⟨rfl, hb1⟩)
  go_ret
  exact ⟨ret_n (by omega), hb1⟩
set_option maxHeartbeats 400000 in
theorem rank_good (T : ByteArray) (R K : Nat) (w : World) (hn : ¬ (R = 65533 ∧ K = 1))
    (HD : Hid (Calls Tryd.prog 32 #[.string T] w fun e w' => e = .returned (.tuple #[.int .i32 R, .int .i64 K]) ∧ Below w.heap.size w w')) :
    Calls Tryd.prog 40 #[.string T] w fun e w' => e = .returned (.int .i32 R) ∧ Below w.heap.size w w' := by
  by_cases c1 : R = 65533
  · have c2 : ((K : Int) == 1) = false := by rw [beq_eq_false_iff_ne]; omega
    have c3 : ((R : Int) == 65533) = true := by rw [beq_iff_eq]; omega
    clear hn c1
    go_enter Tryd.func40, Tryd.ntmps40
    go_wp2_with (go_at_call 32; refine HD.out.mono ?_; rintro e w' ⟨rfl, hb1⟩)
    go_ret
    exact ⟨rfl, hb1⟩
  · have c3 : ((R : Int) == 65533) = false := by rw [beq_eq_false_iff_ne]; omega
    clear hn c1
    go_enter Tryd.func40, Tryd.ntmps40
    go_wp2_with (go_at_call 32; refine HD.out.mono ?_; rintro e w' ⟨rfl, hb1⟩)
    go_ret
    exact ⟨rfl, hb1⟩

theorem rank_any (s : ByteArray) (p : Nat) (w : World) (h : p < s.size) (hT : Tabs w) :
    Calls Tryd.prog 40 #[.string (s.extract p s.size)] w fun e w' => e = .returned (.int .i32 (rk s p)) ∧ Below w.heap.size w w' := by
  have hz : 0 < (s.extract p s.size).size := by simp; omega
  have hg : (s.extract p s.size)[0]'hz = s.get! p := by
    rw [get_lt s p h]; simp [ByteArray.getElem_extract]
  have hD := decode_cut s p w h hT
  cases hb : brk s p with
  | true =>
    obtain ⟨e1, e2⟩ := brk_eq s p hb
    rw [e1, e2] at hD
    have := rank_bad (s.extract p s.size) w hz hD
    rw [hg] at this
    rw [rank_brk hb]
    exact this
  | false =>
    have hn : ¬ (dR s p = 65533 ∧ dW s p = 1) := by simpa [brk] using hb
    rw [rank_not hb]
    exact rank_good _ _ _ w hn hD

/-- The relation of Less's loop: the iterator stands at 'pos', all ahead is alike. -/
def LessRel (a b : ByteArray) (w wr : World) (pos f : Nat) : Prop :=
  wr.heap[w.heap.size]? = some (.stringIter a pos) ∧ Below w.heap.size w wr ∧ Alike a b pos ∧ a.size ≤ pos + f ∧ less a b = lessF a b f pos

set_option maxHeartbeats 1000000 in
theorem less_any (a b : ByteArray) (w : World) (hT : Tabs w) :
    Calls Tryd.prog 17 #[.string a, .string b] w fun e w' => e = .returned (.bool (less a b)) ∧ Below w.heap.size w w' := by
  have HT := Lib.hid hT
  clear hT
  go_enter Tryd.func17, Tryd.ntmps17
  go_wp2
  go_loopw [6] (fun _ wr => ∃ pos f, LessRel a b w wr pos f) (fun _ wr => a.size - wr.iterPos w.heap.size)
  case atStart => exact ⟨0, a.size, World.iter_heap _ _ _, (Below.refl _ _).alloc (Nat.le_refl _) _, Alike.zero a b, by omega, rfl⟩
  case round =>
    obtain ⟨pos, f, hrel⟩ := hrel
    obtain ⟨hit, hbw, hal, hf, hv⟩ := hrel
    have hip : wr.iterPos w.heap.size = pos := by simp [World.iterPos, hit]
    have HV := Lib.hid hv
    have HI := Lib.hid hit
    have HA := Lib.hid hal
    have HB := Lib.hid hbw
    have HP := Lib.hid hip
    have hT' : Tabs wr := HT.out.next hbw

    have hpa := hal.1
    have hpb := hal.2.1
    have hsz := hbw.size
    have hszl : w.heap.size < wr.heap.size := (Array.getElem?_eq_some_iff.1 hit).1
    clear hv hal hbw hip
    by_cases hp : pos < a.size
    · have hnx := fun ty => Lib.run_next_any_at (P := Tryd.prog) wr w.heap.size a pos ty hit hp
      have hTi := hT'.iterAt hit (pos + (Utf8.decode a pos).2)
      have hbi := Lib.below_iterAt (Below.refl w.heap.size wr) (k := w.heap.size) (Nat.le_refl _) a (pos + (Utf8.decode a pos).2)
      have hii := Lib.iterAt_heap wr w.heap.size a pos (pos + (Utf8.decode a pos).2) hit
      have his := Lib.iterAt_size wr w.heap.size a (pos + (Utf8.decode a pos).2)
      have HTI := Lib.hid hTi
      have HBI := Lib.hid hbi
      have HII := Lib.hid hii
      have HIS := Lib.hid his
      clear hit hTi hbi hii his hT'
      by_cases hq : pos < b.size
      · have hqb : ((pos : Int) == (b.size : Int)) = false := by rw [beq_eq_false_iff_ne]; omega
        go_wp2_with fail
        obtain ⟨W1, hW1⟩ : ∃ W1, W1 = wr.iterAt w.heap.size a (pos + (Utf8.decode a pos).2) := ⟨_, rfl⟩
        rw [← hW1] at HTI HBI HII HIS ⊢
        have HW1 := Lib.hid hW1
        clear hW1 hnx
        go_cut [6, 7] from 10 to 30 (fun x y wx => x = .int .i32 (rk a pos) ∧ y = .int .i32 (rk b pos) ∧ Below W1.heap.size W1 wx)
        case first =>
          go_region_with (go_at_call 40; refine (rank_any _ _ _ (by assumption) (by first | exact HTI.out | exact HTI.out.drew | exact HTI.out.next hacc)).mono ?_; rintro e w1 ⟨rfl, hb1⟩; have hacc : Below W1.heap.size W1 w1 := (by first | exact below_undrew hb1 | exact hb1 | exact hacc.trans (hb1.mono hacc.size)))
          all_goals (try go_wp2_with fail)
          all_goals go_meet
          all_goals exact ⟨rfl, rfl, hacc⟩
        case rest =>
          obtain ⟨rfl, rfl, hbc⟩ := hcut
          have hs1 := HIS.out
          have hbw2 : Below w.heap.size w wc := (HB.out.trans HBI.out).trans (hbc.mono (B' := w.heap.size) (by omega))
          have hiw : wc.heap[w.heap.size]? = some (.stringIter a (pos + (Utf8.decode a pos).2)) := (hbc.block w.heap.size (by omega)).trans HII.out
          have HBW2 := Lib.hid hbw2
          have HIW := Lib.hid hiw
          clear hbw2 hiw hbc
          by_cases hr : rk a pos = rk b pos
          · have hrb : ((rk a pos : Int) != (rk b pos : Int)) = false := by rw [hr]; simp
            have hv2 := HV.out.trans (lessF_step a b f pos hf hp hq hr)
            have hal2 := HA.out.step hp hq hr
            have HV2 := Lib.hid hv2
            have HA2 := Lib.hid hal2
            clear hv2 hal2 hr
            have hwp := dW_pos a pos
            go_wp2_with fail
            go_roundw
            case rel => exact ⟨pos + dW a pos, f - 1, HIW.out, HBW2.out, HA2.out, by omega, HV2.out⟩
            case measure =>
              have e1 : wc.iterPos w.heap.size = pos + dW a pos := by simp [World.iterPos, HIW.out, dW]
              rw [e1, HP.out]
              omega
          · have hrb : ((rk a pos : Int) != (rk b pos : Int)) = true := by rw [bne_iff_ne]; omega
            have hv2 := HV.out.trans (lessF_ne a b f pos hf hp hq hr)
            have HV2 := Lib.hid hv2
            clear hv2 hr
            go_wp2_with fail
            go_ret
            exact ⟨ret_b (by rw [HV2.out, decide_eq_decide]), HBW2.out⟩
      · have hqb : ((pos : Int) == (b.size : Int)) = true := by rw [beq_iff_eq]; omega
        go_wp2_with fail
        go_ret
        exact ⟨ret_b (by rw [HV.out, lessF_out a b f pos hf hp hq]), HB.out.trans HBI.out⟩
    · have hnx := fun ty => Lib.run_next_end_at (P := Tryd.prog) wr w.heap.size a pos ty hit hp
      clear hit hT'
      go_wp2_with fail
      go_ret
      exact ⟨ret_b (by rw [HV.out, lessF_end a b f pos hp];), HB.out⟩
end Go.Proofs.YthkdfffankpekaaDoor
