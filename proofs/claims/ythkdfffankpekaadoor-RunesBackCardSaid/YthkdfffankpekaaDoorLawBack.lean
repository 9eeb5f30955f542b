/-
  RunesBack: whatever bytes. CONDITIONS: none but the tables that the card ties to the program's text.
-/
import Derived.Test.YthkdfffankpekaaDoorLaid2
import Derived.Test.YthkdfffankpekaaDoorMend
import Derived.Test.YthkdfffankpekaaDoorTexts3
import Derived.Test.YthkdfffankpekaaDoorRefPart
import Derived.Laws.StructEq
import Derived.IntWalk
import Derived.Laws.Concat
namespace Go.Proofs.YthkdfffankpekaaDoor.lawBack
set_option linter.unusedVariables false
set_option linter.unusedSimpArgs false
open Go.ChangeShapes Go.WideShapes Go.ChangeAt Go.RowKit

theorem take_cells (ns : List Int) (i : Nat) (n : Int) (h : ns[i]? = some n) : (ns.map (Value.int .i32)).take i ++ [.int .i32 n] = (ns.map (Value.int .i32)).take (i + 1) := by
  have h' : (ns.map (Value.int .i32))[i]? = some (.int .i32 n) := by simp [h]
  obtain ⟨h1, h2⟩ := List.getElem?_eq_some_iff.1 h'
  rw [List.take_succ_eq_append_getElem h1, h2]
theorem from_ok (k : Int) (L : Nat) (hL : L ≤ 5000) : ∃ F : Nat, (wrap64 (k.tmod ((L : Int) + 1) + ((L : Int) + 1))).tmod ((L : Int) + 1) = (F : Int) ∧ F ≤ L := by
  have h1 : k.tmod ((L : Int) + 1) < (L : Int) + 1 := Int.tmod_lt_of_pos k (by omega)
  have h2 : -((L : Int) + 1) < k.tmod ((L : Int) + 1) := Int.lt_tmod_of_pos k (by omega)
  obtain ⟨u, hu⟩ : ∃ u, u = k.tmod ((L : Int) + 1) := ⟨_, rfl⟩
  rw [← hu] at h1 h2 ⊢
  rw [show wrap64 (u + ((L : Int) + 1)) = u + ((L : Int) + 1) from IntWalk.wrap64_in _ (by omega)]
  have h3 : 0 ≤ (u + ((L : Int) + 1)).tmod ((L : Int) + 1) := Int.tmod_nonneg _ (by omega)
  have h4 := Int.tmod_lt_of_pos (u + ((L : Int) + 1)) (show 0 < (L : Int) + 1 by omega)
  obtain ⟨F, hF⟩ := Int.eq_ofNat_of_zero_le h3
  exact ⟨F, hF, by omega⟩
theorem text_own {B n : Nat} {v : Value} (ns : List Int) (w : World) (h : w.ownsRow B 21 1 v n (ns.map (Value.int .i32))) (hn : ns.length = n) :
    Calls Tryd.prog 15 #[v] w fun e w' => e = .returned (.string (strOf (textL ns))) ∧ w = w' := by
  rcases h.2 with ⟨rfl, h0⟩ | ⟨g, cap, cur, rfl, hb, hg, hnc, hm, hsz, htk⟩
  · have : ns = [] := List.eq_nil_of_length_eq_zero (by omega)
    subst this
    exact text_nil 0 0 w
  · refine text_any ⟨g, 0, none⟩ n cap ns w hn ?_
    intro j u hj
    have hj' : j < n := by have := (List.getElem?_eq_some_iff.1 hj).1; simp at this; omega
    rw [Addr.add_lit, Nat.zero_add, h.cellAt j (by omega)]
    exact hj
theorem cut_all (s : ByteArray) (F : Nat) (h : F ≤ (starts s).length) : s.extract (place s 0) (place s F) ++ s.extract (place s F) (place s (starts s).length) = s := by
  rw [place_zero, place_out s _ (Nat.le_refl _), ByteArray.extract_append_extract]
  simp
theorem rune_info : (Tryd.prog.info? 21).map (fun i => (i.zero, i.size, i.bytes)) = some (some (.int .i32 0), 1, 4) := by kernel_rfl

set_option maxHeartbeats 4000000 in
set_option maxRecDepth 100000 in
theorem walk0 (s : ByteArray) (k : Int) (w : World) (hT : Tabs2 w) :
    Calls Tryd.prog 7 #[.string s, .int .i64 k] w fun e w' => e = .returned (.bool true) ∧ Below w.heap.size w w' := by
  have hst : (starts s).length ≤ s.size := by simpa [starts] using startsF_le s s.size 0
  have HT := Lib.hid hT
  clear hT
  by_cases h1 : (5000 : Int) < s.size
  · go_enter Tryd.func7, Tryd.ntmps7
    go_wp2_with fail
    refine (alive_any _ HT.out).mono ?_
    rintro e w1 ⟨rfl, hb1⟩
    go_wp2_with fail
    go_ret
    exact ⟨rfl, hb1⟩
  go_enter Tryd.func7, Tryd.ntmps7
  go_wp2_with fail
  refine (alive_any _ HT.out).mono ?_
  rintro e w1 ⟨rfl, hb1⟩
  have n1 := HT.out.next hb1
  have s1 := hb1.size
  have HB1 := Lib.hid hb1; have HT1 := Lib.hid n1
  clear hb1 n1
  go_wp2_with fail
  refine (pieces_any s _ (by omega) HT1.out.1).mono ?_
  rintro e w2 ⟨x, rfl, hx, hb2⟩
  have n2 := HT1.out.next hb2
  have s2 := hb2.size
  have HB2 := Lib.hid hb2; have HT2 := Lib.hid n2; have HX := Lib.hid hx
  obtain ⟨o, c, rfl⟩ := own_shape hx
  clear hx hb2 n2
  go_wp2_with fail
  go_loopw [8, 9, 10] (fun av v iv wr => ∃ i, iv = .int .i64 (i : Nat) ∧ i ≤ (starts s).length ∧ av = .int .i64 (place s i) ∧ wr.ownsRow w1.heap.size 21 1 v i (((runesL s).map (Value.int .i32)).take i) ∧ PiecesAt s w1.heap.size wr (.slice o (starts s).length c) ∧ Below w1.heap.size w1 wr) (fun _ _ iv _ => (starts s).length - (RowKit.intOf iv).toNat)
  case atStart => exact ⟨0, rfl, by omega, by rw [place_zero]; rfl, World.ownsRow_nil _ _ _ _, HX.out, HB2.out⟩
  case round =>
    obtain ⟨i, rfl, hil, rfl, hall, hpc, hbw⟩ := hrel
    have HO := Lib.hid hall; have HPc := Lib.hid hpc; have HBw := Lib.hid hbw; have HTw := Lib.hid (HT1.out.next hbw)
    have hsz := hbw.size
    obtain ⟨oo, co, rfl⟩ := own_shape hall
    by_cases h2 : i < (starts s).length
    · obtain ⟨i0, hi, hz0, hz1, hz2⟩ := info_parts rune_info
      have hp := place_at s i h2
      have hps := place_lt s i h2
      have hsucc := place_succ s i h2
      obtain ⟨p, hpe⟩ : ∃ p, p = place s i := ⟨_, rfl⟩
      rw [← hpe] at hp hps hsucc ⊢
      obtain ⟨g, c', hg, hgb, hgl, hlie, hcap⟩ := pieces_lie hpc (by omega)
      simp only [Value.slice.injEq] at hg
      obtain ⟨rfl, _, rfl⟩ := hg
      obtain ⟨a0, a1, a2, a3⟩ := hlie.cell i p hp
      have hfit := dW_fits s p hps
      have hpos := dW_pos s p
      have HRn := Lib.hid (runesL_at s i p hp)
      have hD : ∀ w', Below w1.heap.size w1 w' → Calls Tryd.prog 32 #[.string (s.extract p s.size)] w' fun e w'' => e = .returned (.tuple #[.int .i32 (dR s p), .int .i64 (dW s p)]) ∧ Below w'.heap.size w' w'' := fun w' hb' => decode_cut s p w' hps (HT1.out.next hb').1
      have HD := Lib.hid hD
      have hcase : (dR s p = 65533 ∧ dW s p = 1 ∧ brk s p = true) ∨ (dR s p ≠ 65533 ∧ brk s p = false) ∨ (dR s p = 65533 ∧ dW s p ≠ 1 ∧ brk s p = false) := by
        by_cases e1 : dR s p = 65533
        · by_cases e2 : dW s p = 1
          · exact .inl ⟨e1, e2, decide_eq_true ⟨e1, e2⟩⟩
          · exact .inr (.inr ⟨e1, e2, decide_eq_false (fun h => e2 h.2)⟩)
        · exact .inr (.inl ⟨e1, decide_eq_false (fun h => e1 h.1)⟩)
      have HSu := Lib.hid hsucc; have HPe := Lib.hid hpe
      obtain ⟨R, hR⟩ : ∃ R, R = dR s p := ⟨_, rfl⟩
      obtain ⟨W, hW⟩ : ∃ W, W = dW s p := ⟨_, rfl⟩
      obtain ⟨bk, hbk⟩ : ∃ bk, bk = brk s p := ⟨_, rfl⟩
      rw [← hR, ← hW, ← hbk] at hcase
      rw [← hR] at a0 HRn HD
      rw [← hW] at a2 hfit hpos HSu HD
      rw [← hbk] at a3
      clear hp hlie hall hpc hbw hD hsucc hpe hR hW hbk
      have q1 : IntKind.i64.wrap ((p : Int) + (W : Int)) = (p : Int) + (W : Int) := by rw [IntKind.wrap_i64]; omega
      have d1 : decide (W < 1) = false := by simp; omega
      have d2 : decide (s.size < p + W) = false := by simp; omega
      rcases hcase with ⟨e1, e2, rfl⟩ | ⟨e1, rfl⟩ | ⟨e1, e2, rfl⟩
      · have g1 : ((R : Int) == 65533) = true := by rw [beq_iff_eq]; omega
        have g2 : ((W : Int) == 1) = true := by rw [beq_iff_eq]; omega
        clear e1 e2
        go_wp2_with fail
        refine (HD.out _ (HBw.out.alloc hsz _)).mono ?_
        rintro e w3 ⟨rfl, hb3⟩
        have l3 : ∀ j x, (wr.alloc (.cells #[.int .i32 R, .int .i64 p, .int .i64 W, .bool true] 29)).cell? ⟨wr.heap.size, j, none⟩ = some x → w3.cell? ⟨wr.heap.size, j, none⟩ = some x := fun j x h => (hb3.cell (p := ⟨wr.heap.size, j, none⟩) (by simp)).trans h
        have c0 : w3.cell? ⟨wr.heap.size, 0, none⟩ = some (.int .i32 R) := l3 _ _ (by simp)
        have c1 : w3.cell? ⟨wr.heap.size, 1, none⟩ = some (.int .i64 p) := l3 _ _ (by simp)
        have c2 : w3.cell? ⟨wr.heap.size, 2, none⟩ = some (.int .i64 W) := l3 _ _ (by simp)
        have c3 : w3.cell? ⟨wr.heap.size, 3, none⟩ = some (.bool true) := l3 _ _ (by simp)
        have hb4 : Below wr.heap.size wr w3 := ((Below.refl _ _).alloc (Nat.le_refl _) _).trans (hb3.mono (B' := wr.heap.size) (by simp))
        have hs3 := hb4.size
        have HB4 := Lib.hid hb4
        clear l3 hb3 hb4 a0 a1 a2 a3
        go_wp2_with (at_builtin; refine wpList_append_own _ rfl (.tmp 96) (.tmp 98) 34 rfl w1.heap.size 21 i0 (.int .i32 0) 1 4 Tryd.underlying34 hi hz0 hz1 hz2 rfl (by decide) _ _ _ rfl ((own_below HO.out HB4.out).alloc _) ⟨w3.heap.size, 0, none⟩ 1 1 [.int .i32 R] rfl rfl (cells_lit w3 [.int .i32 R] _) (by intro u hu; simp at hu; subst hu; rfl) ?c3 ?c4 ?c5 ?_)
        case c3 => unfold maxLen; omega
        case c4 => omega
        case c5 => simp; omega
        intro v5 w5 hown5 hgrow5 hnil5
        rw [take_cells _ _ _ HRn.out] at hown5
        have hpc5 : PiecesAt s w1.heap.size w5 (.slice (some ⟨g, 0, none⟩) (starts s).length c) :=
          ((own_below HPc.out HB4.out).alloc _).kept hgrow5 (own_apart ((own_below HO.out HB4.out).alloc (.cells #[.int .i32 R] 21)) ((own_below HPc.out HB4.out).alloc (.cells #[.int .i32 R] 21)) (by decide))
        have hbw5 : Below w1.heap.size w1 w5 := ((HBw.out.trans (HB4.out.mono (B' := w1.heap.size) hsz)).alloc (by omega) _).grown hgrow5 (by simp; omega) (fun k hk => (HO.out.lt k hk).1)
        have HO5 := Lib.hid hown5; have HP5 := Lib.hid hpc5; have HB5 := Lib.hid hbw5
        obtain ⟨o5, c5, rfl⟩ := own_shape hown5
        clear hown5 hgrow5 hnil5 hpc5 hbw5 c0 c1 c2 c3
        go_wp2_with fail
        go_roundw
        case rel => exact ⟨i + 1, by go_num, by omega, by rw [HSu.out]; simp, HO5.out, HP5.out, HB5.out⟩
        case measure => simp [RowKit.intOf]; omega
      · have g1 : ((R : Int) == 65533) = false := by rw [beq_eq_false_iff_ne]; omega
        clear e1
        go_wp2_with fail
        refine (HD.out _ (HBw.out.alloc hsz _)).mono ?_
        rintro e w3 ⟨rfl, hb3⟩
        have l3 : ∀ j x, (wr.alloc (.cells #[.int .i32 R, .int .i64 p, .int .i64 W, .bool false] 29)).cell? ⟨wr.heap.size, j, none⟩ = some x → w3.cell? ⟨wr.heap.size, j, none⟩ = some x := fun j x h => (hb3.cell (p := ⟨wr.heap.size, j, none⟩) (by simp)).trans h
        have c0 : w3.cell? ⟨wr.heap.size, 0, none⟩ = some (.int .i32 R) := l3 _ _ (by simp)
        have c1 : w3.cell? ⟨wr.heap.size, 1, none⟩ = some (.int .i64 p) := l3 _ _ (by simp)
        have c2 : w3.cell? ⟨wr.heap.size, 2, none⟩ = some (.int .i64 W) := l3 _ _ (by simp)
        have c3 : w3.cell? ⟨wr.heap.size, 3, none⟩ = some (.bool false) := l3 _ _ (by simp)
        have hb4 : Below wr.heap.size wr w3 := ((Below.refl _ _).alloc (Nat.le_refl _) _).trans (hb3.mono (B' := wr.heap.size) (by simp))
        have hs3 := hb4.size
        have HB4 := Lib.hid hb4
        clear l3 hb3 hb4 a0 a1 a2 a3
        go_wp2_with (at_builtin; refine wpList_append_own _ rfl (.tmp 96) (.tmp 98) 34 rfl w1.heap.size 21 i0 (.int .i32 0) 1 4 Tryd.underlying34 hi hz0 hz1 hz2 rfl (by decide) _ _ _ rfl ((own_below HO.out HB4.out).alloc _) ⟨w3.heap.size, 0, none⟩ 1 1 [.int .i32 R] rfl rfl (cells_lit w3 [.int .i32 R] _) (by intro u hu; simp at hu; subst hu; rfl) ?c3 ?c4 ?c5 ?_)
        case c3 => unfold maxLen; omega
        case c4 => omega
        case c5 => simp; omega
        intro v5 w5 hown5 hgrow5 hnil5
        rw [take_cells _ _ _ HRn.out] at hown5
        have hpc5 : PiecesAt s w1.heap.size w5 (.slice (some ⟨g, 0, none⟩) (starts s).length c) :=
          ((own_below HPc.out HB4.out).alloc _).kept hgrow5 (own_apart ((own_below HO.out HB4.out).alloc (.cells #[.int .i32 R] 21)) ((own_below HPc.out HB4.out).alloc (.cells #[.int .i32 R] 21)) (by decide))
        have hbw5 : Below w1.heap.size w1 w5 := ((HBw.out.trans (HB4.out.mono (B' := w1.heap.size) hsz)).alloc (by omega) _).grown hgrow5 (by simp; omega) (fun k hk => (HO.out.lt k hk).1)
        have HO5 := Lib.hid hown5; have HP5 := Lib.hid hpc5; have HB5 := Lib.hid hbw5
        obtain ⟨o5, c5, rfl⟩ := own_shape hown5
        clear hown5 hgrow5 hnil5 hpc5 hbw5 c0 c1 c2 c3
        go_wp2_with fail
        go_roundw
        case rel => exact ⟨i + 1, by go_num, by omega, by rw [HSu.out]; simp, HO5.out, HP5.out, HB5.out⟩
        case measure => simp [RowKit.intOf]; omega
      · have g1 : ((R : Int) == 65533) = true := by rw [beq_iff_eq]; omega
        have g2 : ((W : Int) == 1) = false := by rw [beq_eq_false_iff_ne]; omega
        clear e1 e2
        go_wp2_with fail
        refine (HD.out _ (HBw.out.alloc hsz _)).mono ?_
        rintro e w3 ⟨rfl, hb3⟩
        have l3 : ∀ j x, (wr.alloc (.cells #[.int .i32 R, .int .i64 p, .int .i64 W, .bool false] 29)).cell? ⟨wr.heap.size, j, none⟩ = some x → w3.cell? ⟨wr.heap.size, j, none⟩ = some x := fun j x h => (hb3.cell (p := ⟨wr.heap.size, j, none⟩) (by simp)).trans h
        have c0 : w3.cell? ⟨wr.heap.size, 0, none⟩ = some (.int .i32 R) := l3 _ _ (by simp)
        have c1 : w3.cell? ⟨wr.heap.size, 1, none⟩ = some (.int .i64 p) := l3 _ _ (by simp)
        have c2 : w3.cell? ⟨wr.heap.size, 2, none⟩ = some (.int .i64 W) := l3 _ _ (by simp)
        have c3 : w3.cell? ⟨wr.heap.size, 3, none⟩ = some (.bool false) := l3 _ _ (by simp)
        have hb4 : Below wr.heap.size wr w3 := ((Below.refl _ _).alloc (Nat.le_refl _) _).trans (hb3.mono (B' := wr.heap.size) (by simp))
        have hs3 := hb4.size
        have HB4 := Lib.hid hb4
        clear l3 hb3 hb4 a0 a1 a2 a3
        go_wp2_with (at_builtin; refine wpList_append_own _ rfl (.tmp 96) (.tmp 98) 34 rfl w1.heap.size 21 i0 (.int .i32 0) 1 4 Tryd.underlying34 hi hz0 hz1 hz2 rfl (by decide) _ _ _ rfl ((own_below HO.out HB4.out).alloc _) ⟨w3.heap.size, 0, none⟩ 1 1 [.int .i32 R] rfl rfl (cells_lit w3 [.int .i32 R] _) (by intro u hu; simp at hu; subst hu; rfl) ?c3 ?c4 ?c5 ?_)
        case c3 => unfold maxLen; omega
        case c4 => omega
        case c5 => simp; omega
        intro v5 w5 hown5 hgrow5 hnil5
        rw [take_cells _ _ _ HRn.out] at hown5
        have hpc5 : PiecesAt s w1.heap.size w5 (.slice (some ⟨g, 0, none⟩) (starts s).length c) :=
          ((own_below HPc.out HB4.out).alloc _).kept hgrow5 (own_apart ((own_below HO.out HB4.out).alloc (.cells #[.int .i32 R] 21)) ((own_below HPc.out HB4.out).alloc (.cells #[.int .i32 R] 21)) (by decide))
        have hbw5 : Below w1.heap.size w1 w5 := ((HBw.out.trans (HB4.out.mono (B' := w1.heap.size) hsz)).alloc (by omega) _).grown hgrow5 (by simp; omega) (fun k hk => (HO.out.lt k hk).1)
        have HO5 := Lib.hid hown5; have HP5 := Lib.hid hpc5; have HB5 := Lib.hid hbw5
        obtain ⟨o5, c5, rfl⟩ := own_shape hown5
        clear hown5 hgrow5 hnil5 hpc5 hbw5 c0 c1 c2 c3
        go_wp2_with fail
        go_roundw
        case rel => exact ⟨i + 1, by go_num, by omega, by rw [HSu.out]; simp, HO5.out, HP5.out, HB5.out⟩
        case measure => simp [RowKit.intOf]; omega
    · obtain rfl : i = (starts s).length := by omega
      have hpl := place_out s (starts s).length (Nat.le_refl _)
      rw [hpl]
      rw [List.take_of_length_le (by rw [List.length_map, runesL_length]; omega)] at hall
      have HO := Lib.hid hall
      have HBw := Lib.hid hbw
      have hsz := hbw.size
      have HTw := Lib.hid (HT1.out.next hbw)
      clear hall hpc hbw hpl
      go_wp2_with fail
      obtain ⟨F, hF, hFle⟩ := from_ok k (starts s).length (by omega)
      have HF := Lib.hid hF
      rw [hF]
      clear hF
      have hcat := cut_all s F hFle
      obtain ⟨A, hA⟩ : ∃ A, A = s.extract (place s 0) (place s F) := ⟨_, rfl⟩
      obtain ⟨D, hD⟩ : ∃ D, D = s.extract (place s F) (place s (starts s).length) := ⟨_, rfl⟩
      obtain ⟨T, hTd⟩ : ∃ T, T = strOf (backL s) := ⟨_, rfl⟩
      have m1 : (starts T).length = (starts s).length := by rw [hTd]; exact mend_len s
      have m2 : firstB T (starts T) = -1 := by rw [hTd]; exact mend_none s
      have m3 : strOf (backL T) = T := by rw [hTd]; rw [mend_back]
      have m4 : T.size ≤ 65536 := by rw [hTd]; have := mend_size s; omega
      have m5 : strOf (textL (runesL s)) = T := hTd.symm
      rw [← hA, ← hD] at hcat
      refine (part_any s 0 F _ (by omega) (Nat.zero_le _) hFle).mono ?_
      rw [← hA]
      rintro e w3 ⟨rfl, hb3⟩
      have hs3 := hb3.size
      have HB3 := Lib.hid (HBw.out.trans (hb3.mono (B' := w1.heap.size) hsz)); have HO3 := Lib.hid (own_below HO.out hb3)
      clear hb3 HO
      have HM1 := Lib.hid m1; have HM2 := Lib.hid m2; have HM3 := Lib.hid m3; have HM5 := Lib.hid m5; have HTd := Lib.hid hTd; have HD := Lib.hid hD
      have HCat := Lib.hid hcat
      have hsum : A.size + D.size = s.size := by have := congrArg ByteArray.size hcat; rw [ByteArray.size_append] at this; exact this
      have HSum := Lib.hid hsum
      clear hsum
      clear m1 m2 m3 m5 hTd hD hA hcat
      go_wp2_with fail
      refine (part_any s F (starts s).length _ (by omega) hFle (Nat.le_refl _)).mono ?_
      rw [← HD.out]
      rintro e w4 ⟨rfl, hb4⟩
      have hs4 := hb4.size
      have HB4 := Lib.hid (HB3.out.trans (hb4.mono (B' := w1.heap.size) (by omega))); have HO4 := Lib.hid (own_below HO3.out hb4)
      clear hb4 HO3 HB3
      go_wp2_with fail
      refine (back_any s _ (by omega)).mono ?_
      rw [← HTd.out]
      rintro e w5 ⟨rfl, hb5⟩
      have hs5 := hb5.size
      have HB5 := Lib.hid (HB4.out.trans (hb5.mono (B' := w1.heap.size) (by omega))); have HO5 := Lib.hid (own_below HO4.out hb5)
      clear hb5 HO4 HB4
      go_wp2_with fail
      refine (len_any T _ m4).mono ?_
      rw [HM1.out]
      rintro e w6 ⟨rfl, hb6⟩
      have hs6 := hb6.size
      have HB6 := Lib.hid (HB5.out.trans (hb6.mono (B' := w1.heap.size) (by omega))); have HO6 := Lib.hid (own_below HO5.out hb6)
      clear hb6 HO5 HB5
      have hcat := HCat.out
      have hcc := run_string_add_sum (P := Tryd.prog) w6 A D (by rw [HSum.out]; omega)
      rw [HCat.out] at hcc
      go_wp2_with fail
      refine (text_own (runesL s) _ HO6.out (runesL_length s)).mono ?_
      rw [HM5.out]
      rintro e w7 ⟨rfl, rfl⟩
      clear hcat hcc
      go_wp2_with fail
      have HT6 := Lib.hid (HT1.out.next HB6.out)
      refine (broken_any T _ m4 HT6.out.1).mono ?_
      rw [HM2.out]
      rintro e w8 ⟨rfl, hb8⟩
      have hs8 := hb8.size
      have HB8 := Lib.hid (HB6.out.trans (hb8.mono (B' := w1.heap.size) (by omega)))
      clear hb8 HB6 HT6 HO6
      go_wp2_with fail
      refine (back_any T _ m4).mono ?_
      rw [HM3.out]
      rintro e w9 ⟨rfl, hb9⟩
      have hs9 := hb9.size
      have HB9 := Lib.hid (HB8.out.trans (hb9.mono (B' := w1.heap.size) (by omega)))
      clear hb9 HB8
      go_wp2_with fail
      go_ret
      exact ⟨rfl, HB1.out.trans (HB9.out.mono (B' := w.heap.size) s1)⟩

theorem walk (s : ByteArray) (k : Int) (w : World) (hL : laidMetH Tryd.prog Rows.runesBackRow.laid w) (_ : s.size ≤ maxLen) (_ : (Lit.int .i64 k).wf = true) :
    Calls Tryd.prog 7 #[.string s, .int .i64 k] w fun e w' => e = .returned (.bool true) ∧ Below w.heap.size w w' :=
  walk0 s k w (tabs2_of hL (by simp [Rows.runesBackRow]) (by simp [Rows.runesBackRow]) (by simp [Rows.runesBackRow]))

/-- WHAT THE WALK GIVES, FOR EVERY ARGUMENT AND EVERY WORLD THAT HOLDS THE LISTED TABLES. -/
theorem contract (H : Type) (enc : TypeId × Value → H) (W : World) (base : Nat) (args : Array Value) (ds gs : List (DataW H)) (before : List MemPlace)
    (hval : ∀ (j : Nat) t v, Tryd.f7.params[j]? = some t → args[j]? = some v → Value.okWide Tryd.prog W .any base t v)
    (hW : DataW.Whole enc Tryd.prog Tryd.f7.params.toList Rows.runesBackSpec.vars false W args.toList ds gs before) (hL : laidMetH Tryd.prog Rows.runesBackRow.laid W) :
    Calls Tryd.prog 7 args W fun e W' => ∃ v, e = .returned v ∧ Rows.runesBackSpec.post enc Tryd.prog Tryd.f7 false true false false W args v W' := by
  have hW' := hW
  obtain ⟨p, q, hA0, hV, rfl, hfz, hnd⟩ := hW
  have hA : DataW.TrodAll enc Tryd.prog W 0 (fun _ => true) true Tryd.f7.params.toList args.toList ds p := hA0
  rw [Tryd.params7] at hA hval
  obtain ⟨v0, vs0, d0, ds0, p0, q0, hargs, rfl, rfl, h0, r0⟩ := trodAll_cons hA
  obtain ⟨v1, vs1, d1, ds1, p1, q1, rfl, rfl, rfl, h1, r1⟩ := trodAll_cons r0
  obtain ⟨rfl, rfl, rfl⟩ := trodAll_nil r1
  obtain rfl : args = #[v0, v1] := by cases args; simp_all
  obtain ⟨rfl, rfl⟩ := trodVars_none hV
  obtain ⟨a0, rfl, rfl, rfl, w0⟩ := Go.ChangeMaps.open_string Tryd.underlying9 (hval 0 9 v0 rfl rfl) h0
  obtain ⟨a1, rfl, rfl, rfl, w1⟩ := open_int Tryd.underlying3 (hval 1 3 v1 rfl rfl) h1
  clear hA0
  simp only [List.append_nil] at hW'
  refine (walk a0 a1 W hL w0 w1).mono fun e W' ⟨he, hg⟩ => ?_
  subst he
  exact ⟨_, rfl, ⟨_, _, _, [], _, [], hW', (trodAll_cons_mk (shut_bool Tryd.underlying4 _) trodAll_mk0), (trodAll_cons_mk (Go.ChangeMaps.shut_string Tryd.underlying9 w0) (trodAll_cons_mk (shut_int Tryd.underlying3 w1) trodAll_mk0)), rfl, hg.frame _, fun h => by cases h⟩⟩

theorem laid_met (os : Os) : laidMet Tryd.prog Rows.runesBackRow.laid ((laidWorld os).forCall (fun _ _ => 0) ⟨#[], #[.string ByteArray.empty, .int .i64 0], []⟩).memory :=
  laidMet_of_run' 8 (by kernel_rfl) (by kernel_rfl)
theorem reads (os : Os) {H : Type} (enc : TypeId × Value → H) : ∃ places, DataW.whole enc Tryd.prog ((laidWorld os).forCall (fun _ _ => 0) ⟨#[], #[.string ByteArray.empty, .int .i64 0], []⟩).memory Tryd.f7.params.toList Rows.runesBackSpec.vars false (#[.string ByteArray.empty, .int .i64 0] : Array Value).toList 8 = some ([.lit (.string []), .lit (.int .i64 0)], [], places) :=
  ⟨[], by kernel_rfl⟩

set_option maxRecDepth 100000 in
/-- THE ROW's STEP. -/
theorem lifted (os : Os) (started : os.Started) (H : Type) (enc : TypeId × Value → H) (F : Stop.Interp) :
    ReturnsInHanded {} Tryd.checked os 7 .any ((OpenSpec.ofChange Rows.runesBackSpec).preRow enc Tryd.prog Tryd.f7 Rows.runesBackRow.domain false Rows.runesBackRow.laid) (((OpenSpec.ofChange Rows.runesBackSpec).at F).post enc Tryd.prog Tryd.f7 false true false false) := by
  obtain ⟨places, hx⟩ := reads os enc
  refine returnsInHanded_of_row (C := Tryd.checked) (s := OpenSpec.ofChange Rows.runesBackSpec) own started (by kernel_rfl) Tryd.func7
    (witness_row_at (enc := enc) (C := Tryd.checked) false (laidWorld os) #[.string ByteArray.empty, .int .i64 0] rfl (by kernel_rfl) (by kernel_rfl) (by kernel_rfl)
      (OpenSpec.preRow_of_cond 8 hx (by kernel_rfl) (fun k hk => by cases hk) (by kernel_rfl) (laid_met os))) ?_
  intro W base args ds gs before hval hW _ _ _ hL _ _
  exact contract H enc W base args ds gs before hval hW hL

theorem said : Rows.RunesBackSaid :=
  OpenClaim.holds_of_cond 7 Tryd.f7 rfl rfl rfl rfl rfl rfl rfl ⟨rfl, rfl, rfl, rfl, rfl⟩ rfl rfl rfl rfl rfl (by kernel_rfl) Tryd.func7 (by kernel_rfl)
    (of_decide_eq_true (by kernel_rfl)) (by unfold Func.isWrapper; first | (rw [if_pos (by decide +kernel)]; kernel_rfl) | (rw [if_neg (by decide +kernel)]; exact ⟨rfl, rfl⟩))
    (fun os started H enc _ F => by rw [OpenClaim.pre_eq_preRow]; exact lifted os started H enc F)

/-- No parameter wants a stand-in; the program's own looks are off: what the card asks. -/
theorem plain (f : FuncId) (fn : Func) (hf : Tryd.pinned.checked.prog.funcNamed "cognate/cognatelaw01.RunesBack" = some f) (hfn : Tryd.pinned.checked.prog.funcs[f]? = some fn) :
    false = Tryd.pinned.checked.prog.looks [] ∧ ∀ (j : Nat) t, fn.params[j]? = some t → Tryd.pinned.checked.prog.wantsStandIn t = false := by
  obtain rfl : f = 7 := Option.some.inj ((show Tryd.prog.funcNamed "cognate/cognatelaw01.RunesBack" = some 7 by kernel_rfl).symm.trans hf) |>.symm
  obtain rfl : fn = Tryd.f7 := (Option.some.inj (Tryd.func7.symm.trans hfn)).symm
  refine ⟨by kernel_rfl, fun j t ht => ?_⟩
  rw [Tryd.params7] at ht
  have hm := Array.mem_of_getElem? ht
  have e : t = 9 ∨ t = 3 := by simpa using hm
  rcases e with rfl | rfl
  · exact (show Tryd.prog.wantsStandIn 9 = false by kernel_rfl)
  · exact (show Tryd.prog.wantsStandIn 3 = false by kernel_rfl)

/-- ████ THE CARD ████ -/
theorem card : Rows.RunesBackCardSaid :=
  Claim7.holds_tied_plain_at .later [] _ _ _ _ said (fun _ h => by cases h) (by kernel_rfl) (fun _ h => by cases h) runesBack_row_tie rfl ⟨rfl, rfl⟩ (by kernel_rfl) rfl plain (by kernel_rfl)

end Go.Proofs.YthkdfffankpekaaDoor.lawBack
