/-
  slices.Sort AT []rune: partitionOrdered. (Laid by program: a scan's text stands once for each way that comes to it.)
  slices.Sort AT []rune: partialInsertionSortOrdered. (Laid by program.)
  slices.Sort AT []rune: the plain half of pdqsort's round: what each way makes of 'sorted here makes sorted all'.
-/
import Derived.Test.YtmechinlaladiaaDoorZAA
namespace Go.Proofs.YtmechinlaladiaaDoor
open Go.RowKit Go.Lib Go.Sort
set_option linter.unusedVariables false

set_option maxHeartbeats 12800000 in
set_option maxRecDepth 100000 in
theorem prt_any (blk off cap a b pivot n : Nat) (d0 d : Array Int) (w0 w : World) (R : RowR w0 blk off d0) (S : SR w0 blk off d w) (hd0 : d0.size = n) (hd : d.size = n) (hap : a ≤ pivot) (hpb : pivot < b) (hb : b ≤ n) (hsz : n < 4611686018427387904) :
    Calls Tryd.prog 91 #[.slice (some ⟨blk, off, none⟩) n cap, .int .i64 a, .int .i64 b, .int .i64 pivot] w fun e w' => e = .returned (.tuple #[.int .i64 (partition ltInt d a b pivot).1, .bool (partition ltInt d a b pivot).2.1]) ∧ SR w0 blk off ((partition ltInt d a b pivot).2.2) w' := by
  have HD := Lib.hid hd; have HD0 := Lib.hid hd0
  obtain ⟨G0, hG0⟩ : ∃ G : Nat → Int, ∀ t, G t = d[t]! := ⟨fun t => d[t]!, fun _ => rfl⟩
  have cw := SR.cells S R (by rw [hd, hd0]) hd hG0
  have fw := SR.free S R (by rw [hd, hd0]) hd
  obtain ⟨u0, cu0⟩ := SW.c2 S R (by rw [hd, hd0]) a pivot (by omega) (by omega) (.int .i32 (G0 pivot))
  have SX : SR w0 blk off (swp d a pivot) _ := SW.swapped S R a pivot (by omega) (by omega)
  rw [← hG0 pivot, ← hG0 a] at SX
  have AS := Lib.hid SX
  have hs : (swp d a pivot).size = n := by rw [size_swp]; exact hd
  have HS := Lib.hid hs
  clear SX hG0 S hd hd0 hs
  go_enter Tryd.func91, Tryd.ntmps91
  go_wp2
  go_region
  go_wp2
  clear cw fw cu0
  obtain ⟨dk, hdk⟩ : ∃ dk, dk = swp d a pivot := ⟨_, rfl⟩
  rw [← hdk] at AS HS
  obtain ⟨i, hi⟩ : ∃ i, i = a + 1 := ⟨_, rfl⟩
  obtain ⟨j, hj⟩ : ∃ j, j = b - 1 := ⟨_, rfl⟩
  have e1 : ((a : Int) + 1) = (i : Int) := by omega
  have e2 : ((b : Int) - 1) = (j : Int) := by omega
  rw [e1, e2]
  clear e1 e2
  have hai : a < i := by omega
  have hij : i ≤ j + 1 := by omega
  have hjb : j < b := by omega
  have HI := Lib.hid hi; have HJ := Lib.hid hj; have HDK := Lib.hid hdk
  clear hi hj hdk
  generalize ((w.setCell ⟨blk, off + a, none⟩ (.int .i32 (G0 pivot))).setCell ⟨blk, off + pivot, none⟩ (.int .i32 (G0 a))).drew = W1 at AS ⊢
  obtain ⟨G, hG⟩ : ∃ G : Nat → Int, ∀ t, G t = dk[t]! := ⟨fun t => dk[t]!, fun _ => rfl⟩
  have HG := Lib.hid hG
  clear hG
  go_loopw [10] (fun vi w1 => ∃ (i' : Nat), vi = .int .i64 i' ∧ i ≤ i' ∧ i' ≤ j + 1 ∧ Hid (SR w0 blk off dk w1) ∧ Hid (scanUp (fun x => ltInt x dk[a]!) dk j i' = scanUp (fun x => ltInt x dk[a]!) dk j i)) (fun vi _ => j + 1 - (intOf vi).toNat)
  case atStart => exact ⟨i, rfl, Nat.le_refl _, hij, AS, rfl⟩
  case round =>
    clear AS
    obtain ⟨i', rfl, hii, hij', AS, hsc⟩ := hrel
    have cw := SR.cells AS.out R (by rw [HS.out, HD0.out]) HS.out HG.out
    have fw := SR.free AS.out R (by rw [HS.out, HD0.out]) HS.out
    by_cases hle : i' ≤ j
    · go_wp2_with fail
      go_big_quiet (first | (go_at_call 89; refine Calls.quiet_of_same (cmpless_any _ _ _)))
      go_wp2
      · have ht : ltInt (G i') (G a) = true := by assumption
        go_roundw
        case rel => exact ⟨i' + 1, by go_num, by omega, by omega, SW.drewN AS.out nq, (show _ = _ from (scanUp_go (fun x => ltInt x dk[a]!) dk j i' hle (by rw [← HG.out a, ← HG.out i']; exact ht)).symm.trans hsc.out)⟩
        case measure => simp [intOf]; omega
      · have ht : ltInt (G i') (G a) = false := by assumption
        have hi2 : Hid (i' = scanUp (fun x => ltInt x dk[a]!) dk j i) := (scanUp_end (fun x => ltInt x dk[a]!) dk j i' (Or.inr (by rw [← HG.out a, ← HG.out i']; exact ht))).symm.trans hsc.out
        clear ht
        have AS2 := Lib.hid (SW.drewN AS.out nq)
        clear cw fw AS hsc
        have AS := AS2
        clear AS2
        go_loopw [11] (fun vj w2 => ∃ (j' : Nat), vj = .int .i64 j' ∧ j' ≤ j ∧ i' ≤ j' + 1 ∧ Hid (SR w0 blk off dk w2) ∧ Hid (scanDown (fun x => !ltInt x dk[a]!) dk i' j' = scanDown (fun x => !ltInt x dk[a]!) dk i' j)) (fun vj _ => (intOf vj).toNat)
        case atStart => exact ⟨j, rfl, Nat.le_refl _, hij', AS, rfl⟩
        case round =>
          clear AS
          obtain ⟨j', rfl, hjj, hij2, AS, hsd⟩ := hrel
          have cw := SR.cells AS.out R (by rw [HS.out, HD0.out]) HS.out HG.out
          have fw := SR.free AS.out R (by rw [HS.out, HD0.out]) HS.out
          by_cases hle2 : i' ≤ j'
          · go_wp2_with fail
            go_big_quiet (first | (go_at_call 89; refine Calls.quiet_of_same (cmpless_any _ _ _)))
            go_wp2
            · have ht : (!ltInt (G j') (G a)) = true := by assumption
              go_roundw
              case rel => exact ⟨j' - 1, by go_num, by omega, by omega, SW.drewN AS.out nq, (show _ = _ from (scanDown_go (fun x => !ltInt x dk[a]!) dk i' j' hle2 (by omega) (by rw [← HG.out a, ← HG.out j']; exact ht)).symm.trans hsd.out)⟩
              case measure => simp [intOf]; omega
            · have ht : (!ltInt (G j') (G a)) = false := by assumption
              have hj2 : Hid (j' = scanDown (fun x => !ltInt x dk[a]!) dk i' j) := (scanDown_end (fun x => !ltInt x dk[a]!) dk i' j' (Or.inr (by rw [← HG.out a, ← HG.out j']; exact ht))).symm.trans hsd.out
              have AS3 := Lib.hid (SW.drewN AS.out nq)
              clear cw fw hsd ht AS
              have AS := AS3
              clear AS3
              generalize wr.drewN nq = W3 at AS ⊢
              have cw := SR.cells AS.out R (by rw [HS.out, HD0.out]) HS.out HG.out
              have fw := SR.free AS.out R (by rw [HS.out, HD0.out]) HS.out
              have hlt3 := part_scans_lt ltInt a i j dk (by omega) hi2.out hj2.out hle2
              obtain ⟨u3, cu3⟩ := SW.c2 AS.out R (by rw [HS.out, HD0.out]) i' j' (by rw [HS.out]; omega) (by rw [HS.out]; omega) (.int .i32 (G j'))
              go_wp2
              go_region
              all_goals go_wp2
              have SX : SR w0 blk off (swp dk i' j') _ := SW.swapped AS.out R i' j' (by rw [HS.out]; omega) (by rw [HS.out]; omega)
              rw [← HG.out, ← HG.out] at SX
              have AX := Lib.hid SX
              clear SX
              have hQ := part_first_go ltInt d a b pivot HI.out HJ.out HDK.out hi2.out hj2.out (by omega)
              obtain ⟨Q, hQ2⟩ : ∃ Q, Q = partLoop ltInt a (i' + 1) (j' - 1) (swp dk i' j') := ⟨_, rfl⟩
              rw [← hQ2] at hQ
              have HRR := Lib.hid hQ; have HQ := Lib.hid hQ2
              have hsX : (swp dk i' j').size = n := by rw [size_swp]; exact HS.out
              have HSX := Lib.hid hsX
              clear hQ hQ2 hsX cw fw cu3 AS hi2 hj2 HI HJ HDK
              go_loopw [10, 11] (fun vi vj wr => ∃ (i j : Nat) (dk : Array Int), vi = .int .i64 i ∧ vj = .int .i64 j ∧ a < i ∧ i ≤ j + 1 ∧ j < b ∧ Hid (dk.size = n) ∧ Hid (SR w0 blk off dk wr) ∧ Hid (partLoop ltInt a i j dk = Q))
                (fun vi vj _ => (intOf vj).toNat + 1 - (intOf vi).toNat)
              case atStart => exact ⟨i' + 1, j' - 1, swp dk i' j', by go_num, by go_num, by omega, by omega, by omega, HSX, AX, HQ.out.symm⟩
              case round =>
                clear AX HQ HSX HS HG
                clear hij hjb hai hle hle2 hij' hjj hij2 hlt3 hii
                obtain ⟨i, j, dk, rfl, rfl, hai, hij, hjb, HS, AS, AE⟩ := hrel
                obtain ⟨G, hG⟩ : ∃ G : Nat → Int, ∀ t, G t = dk[t]! := ⟨fun t => dk[t]!, fun _ => rfl⟩
                have HG := Lib.hid hG
                clear hG
                go_wp2
                go_loopw [10] (fun vi w1 => ∃ (i' : Nat), vi = .int .i64 i' ∧ i ≤ i' ∧ i' ≤ j + 1 ∧ Hid (SR w0 blk off dk w1) ∧ Hid (scanUp (fun x => ltInt x dk[a]!) dk j i' = scanUp (fun x => ltInt x dk[a]!) dk j i)) (fun vi _ => j + 1 - (intOf vi).toNat)
                case atStart => exact ⟨i, rfl, Nat.le_refl _, hij, AS, rfl⟩
                case round =>
                  clear AS
                  obtain ⟨i', rfl, hii, hij', AS, hsc⟩ := hrel
                  have cw := SR.cells AS.out R (by rw [HS.out, HD0.out]) HS.out HG.out
                  have fw := SR.free AS.out R (by rw [HS.out, HD0.out]) HS.out
                  by_cases hle : i' ≤ j
                  · go_wp2_with fail
                    go_big_quiet (first | (go_at_call 89; refine Calls.quiet_of_same (cmpless_any _ _ _)))
                    go_wp2
                    · have ht : ltInt (G i') (G a) = true := by assumption
                      go_roundw
                      case rel => exact ⟨i' + 1, by go_num, by omega, by omega, SW.drewN AS.out nq, (show _ = _ from (scanUp_go (fun x => ltInt x dk[a]!) dk j i' hle (by rw [← HG.out a, ← HG.out i']; exact ht)).symm.trans hsc.out)⟩
                      case measure => simp [intOf]; omega
                    · have ht : ltInt (G i') (G a) = false := by assumption
                      have hi2 : Hid (i' = scanUp (fun x => ltInt x dk[a]!) dk j i) := (scanUp_end (fun x => ltInt x dk[a]!) dk j i' (Or.inr (by rw [← HG.out a, ← HG.out i']; exact ht))).symm.trans hsc.out
                      clear ht
                      have AS2 := Lib.hid (SW.drewN AS.out nq)
                      clear cw fw AS hsc
                      have AS := AS2
                      clear AS2
                      go_loopw [11] (fun vj w2 => ∃ (j' : Nat), vj = .int .i64 j' ∧ j' ≤ j ∧ i' ≤ j' + 1 ∧ Hid (SR w0 blk off dk w2) ∧ Hid (scanDown (fun x => !ltInt x dk[a]!) dk i' j' = scanDown (fun x => !ltInt x dk[a]!) dk i' j)) (fun vj _ => (intOf vj).toNat)
                      case atStart => exact ⟨j, rfl, Nat.le_refl _, hij', AS, rfl⟩
                      case round =>
                        clear AS
                        obtain ⟨j', rfl, hjj, hij2, AS, hsd⟩ := hrel
                        have cw := SR.cells AS.out R (by rw [HS.out, HD0.out]) HS.out HG.out
                        have fw := SR.free AS.out R (by rw [HS.out, HD0.out]) HS.out
                        by_cases hle2 : i' ≤ j'
                        · go_wp2_with fail
                          go_big_quiet (first | (go_at_call 89; refine Calls.quiet_of_same (cmpless_any _ _ _)))
                          go_wp2
                          · have ht : (!ltInt (G j') (G a)) = true := by assumption
                            go_roundw
                            case rel => exact ⟨j' - 1, by go_num, by omega, by omega, SW.drewN AS.out nq, (show _ = _ from (scanDown_go (fun x => !ltInt x dk[a]!) dk i' j' hle2 (by omega) (by rw [← HG.out a, ← HG.out j']; exact ht)).symm.trans hsd.out)⟩
                            case measure => simp [intOf]; omega
                          · have ht : (!ltInt (G j') (G a)) = false := by assumption
                            have hj2 : Hid (j' = scanDown (fun x => !ltInt x dk[a]!) dk i' j) := (scanDown_end (fun x => !ltInt x dk[a]!) dk i' j' (Or.inr (by rw [← HG.out a, ← HG.out j']; exact ht))).symm.trans hsd.out
                            have AS3 := Lib.hid (SW.drewN AS.out nq)
                            clear cw fw hsd ht AS
                            have AS := AS3
                            clear AS3
                            generalize wr.drewN nq = W3 at AS ⊢
                            have cw := SR.cells AS.out R (by rw [HS.out, HD0.out]) HS.out HG.out
                            have fw := SR.free AS.out R (by rw [HS.out, HD0.out]) HS.out
                            have hlt3 := part_scans_lt ltInt a i j dk (by omega) hi2.out hj2.out hle2
                            obtain ⟨u3, cu3⟩ := SW.c2 AS.out R (by rw [HS.out, HD0.out]) i' j' (by rw [HS.out]; omega) (by rw [HS.out]; omega) (.int .i32 (G j'))
                            go_wp2
                            go_region
                            all_goals go_wp2
                            have SX : SR w0 blk off (swp dk i' j') _ := SW.swapped AS.out R i' j' (by rw [HS.out]; omega) (by rw [HS.out]; omega)
                            rw [← HG.out, ← HG.out] at SX
                            have AX := Lib.hid SX
                            clear SX
                            go_roundw
                            case rel => exact ⟨i' + 1, j' - 1, swp dk i' j', by go_num, by go_num, by omega, by omega, by omega, (show _ = _ from by rw [size_swp]; exact HS.out), AX, (show _ = _ from by rw [← AE.out]; exact (part_go ltInt a i j dk hi2.out hj2.out (by omega)).symm)⟩
                            case measure => simp [intOf]; omega
                        · go_wp2_with fail
                          go_big_quiet (first | (go_at_call 89; refine Calls.quiet_of_same (cmpless_any _ _ _)))
                          have hj2 : Hid (j' = scanDown (fun x => !ltInt x dk[a]!) dk i' j) := (scanDown_end (fun x => !ltInt x dk[a]!) dk i' j' (Or.inl hle2)).symm.trans hsd.out
                          have AS3 := Lib.hid (SW.drewN AS.out nq)
                          clear cw fw hsd AS
                          have AS := AS3
                          clear AS3
                          generalize wr.drewN nq = W3 at AS ⊢
                          have cw := SR.cells AS.out R (by rw [HS.out, HD0.out]) HS.out HG.out
                          have fw := SR.free AS.out R (by rw [HS.out, HD0.out]) HS.out
                          obtain ⟨u4, cu4⟩ := SW.c2 AS.out R (by rw [HS.out, HD0.out]) j' a (by rw [HS.out]; omega) (by rw [HS.out]; omega) (.int .i32 (G a))
                          go_wp2
                          go_region
                          all_goals go_wp2
                          have SX : SR w0 blk off (swp dk j' a) _ := SW.swapped AS.out R j' a (by rw [HS.out]; omega) (by rw [HS.out]; omega)
                          rw [← HG.out a, ← HG.out j'] at SX
                          go_ret2
                          have e := part_break ltInt a i j dk hi2.out hj2.out (by omega)
                          rw [HRR.out]
                          rw [← AE.out, e]
                          exact ⟨rfl, SX⟩
                  · go_wp2_with fail
                    go_big_quiet (first | (go_at_call 89; refine Calls.quiet_of_same (cmpless_any _ _ _)))
                    go_wp2
                    have hi2 : Hid (i' = scanUp (fun x => ltInt x dk[a]!) dk j i) := (scanUp_end (fun x => ltInt x dk[a]!) dk j i' (Or.inl hle)).symm.trans hsc.out
                    have AS2 := Lib.hid (SW.drewN AS.out nq)
                    clear cw fw AS hsc
                    have AS := AS2
                    clear AS2
                    go_loopw [11] (fun vj w2 => ∃ (j' : Nat), vj = .int .i64 j' ∧ j' ≤ j ∧ i' ≤ j' + 1 ∧ Hid (SR w0 blk off dk w2) ∧ Hid (scanDown (fun x => !ltInt x dk[a]!) dk i' j' = scanDown (fun x => !ltInt x dk[a]!) dk i' j)) (fun vj _ => (intOf vj).toNat)
                    case atStart => exact ⟨j, rfl, Nat.le_refl _, hij', AS, rfl⟩
                    case round =>
                      clear AS
                      obtain ⟨j', rfl, hjj, hij2, AS, hsd⟩ := hrel
                      have cw := SR.cells AS.out R (by rw [HS.out, HD0.out]) HS.out HG.out
                      have fw := SR.free AS.out R (by rw [HS.out, HD0.out]) HS.out
                      by_cases hle2 : i' ≤ j'
                      · exfalso; omega
                      · go_wp2_with fail
                        go_big_quiet (first | (go_at_call 89; refine Calls.quiet_of_same (cmpless_any _ _ _)))
                        have hj2 : Hid (j' = scanDown (fun x => !ltInt x dk[a]!) dk i' j) := (scanDown_end (fun x => !ltInt x dk[a]!) dk i' j' (Or.inl hle2)).symm.trans hsd.out
                        have AS3 := Lib.hid (SW.drewN AS.out nq)
                        clear cw fw hsd AS
                        have AS := AS3
                        clear AS3
                        generalize wr.drewN nq = W3 at AS ⊢
                        have cw := SR.cells AS.out R (by rw [HS.out, HD0.out]) HS.out HG.out
                        have fw := SR.free AS.out R (by rw [HS.out, HD0.out]) HS.out
                        obtain ⟨u4, cu4⟩ := SW.c2 AS.out R (by rw [HS.out, HD0.out]) j' a (by rw [HS.out]; omega) (by rw [HS.out]; omega) (.int .i32 (G a))
                        go_wp2
                        go_region
                        all_goals go_wp2
                        have SX : SR w0 blk off (swp dk j' a) _ := SW.swapped AS.out R j' a (by rw [HS.out]; omega) (by rw [HS.out]; omega)
                        rw [← HG.out a, ← HG.out j'] at SX
                        go_ret2
                        have e := part_break ltInt a i j dk hi2.out hj2.out (by omega)
                        rw [HRR.out]
                        rw [← AE.out, e]
                        exact ⟨rfl, SX⟩
          · go_wp2_with fail
            go_big_quiet (first | (go_at_call 89; refine Calls.quiet_of_same (cmpless_any _ _ _)))
            have hj2 : Hid (j' = scanDown (fun x => !ltInt x dk[a]!) dk i' j) := (scanDown_end (fun x => !ltInt x dk[a]!) dk i' j' (Or.inl hle2)).symm.trans hsd.out
            have AS3 := Lib.hid (SW.drewN AS.out nq)
            clear cw fw hsd AS
            have AS := AS3
            clear AS3
            generalize wr.drewN nq = W3 at AS ⊢
            have cw := SR.cells AS.out R (by rw [HS.out, HD0.out]) HS.out HG.out
            have fw := SR.free AS.out R (by rw [HS.out, HD0.out]) HS.out
            obtain ⟨u4, cu4⟩ := SW.c2 AS.out R (by rw [HS.out, HD0.out]) j' a (by rw [HS.out]; omega) (by rw [HS.out]; omega) (.int .i32 (G a))
            go_wp2
            go_region
            all_goals go_wp2
            have SX : SR w0 blk off (swp dk j' a) _ := SW.swapped AS.out R j' a (by rw [HS.out]; omega) (by rw [HS.out]; omega)
            rw [← HG.out a, ← HG.out j'] at SX
            go_ret2
            have e := part_first_break ltInt d a b pivot HI.out HJ.out HDK.out hi2.out hj2.out (by omega)
            rw [e]
            exact ⟨rfl, SX⟩
    · go_wp2_with fail
      go_big_quiet (first | (go_at_call 89; refine Calls.quiet_of_same (cmpless_any _ _ _)))
      go_wp2
      have hi2 : Hid (i' = scanUp (fun x => ltInt x dk[a]!) dk j i) := (scanUp_end (fun x => ltInt x dk[a]!) dk j i' (Or.inl hle)).symm.trans hsc.out
      have AS2 := Lib.hid (SW.drewN AS.out nq)
      clear cw fw AS hsc
      have AS := AS2
      clear AS2
      go_loopw [11] (fun vj w2 => ∃ (j' : Nat), vj = .int .i64 j' ∧ j' ≤ j ∧ i' ≤ j' + 1 ∧ Hid (SR w0 blk off dk w2) ∧ Hid (scanDown (fun x => !ltInt x dk[a]!) dk i' j' = scanDown (fun x => !ltInt x dk[a]!) dk i' j)) (fun vj _ => (intOf vj).toNat)
      case atStart => exact ⟨j, rfl, Nat.le_refl _, hij', AS, rfl⟩
      case round =>
        clear AS
        obtain ⟨j', rfl, hjj, hij2, AS, hsd⟩ := hrel
        have cw := SR.cells AS.out R (by rw [HS.out, HD0.out]) HS.out HG.out
        have fw := SR.free AS.out R (by rw [HS.out, HD0.out]) HS.out
        by_cases hle2 : i' ≤ j'
        · exfalso; omega
        · go_wp2_with fail
          go_big_quiet (first | (go_at_call 89; refine Calls.quiet_of_same (cmpless_any _ _ _)))
          have hj2 : Hid (j' = scanDown (fun x => !ltInt x dk[a]!) dk i' j) := (scanDown_end (fun x => !ltInt x dk[a]!) dk i' j' (Or.inl hle2)).symm.trans hsd.out
          have AS3 := Lib.hid (SW.drewN AS.out nq)
          clear cw fw hsd AS
          have AS := AS3
          clear AS3
          generalize wr.drewN nq = W3 at AS ⊢
          have cw := SR.cells AS.out R (by rw [HS.out, HD0.out]) HS.out HG.out
          have fw := SR.free AS.out R (by rw [HS.out, HD0.out]) HS.out
          obtain ⟨u4, cu4⟩ := SW.c2 AS.out R (by rw [HS.out, HD0.out]) j' a (by rw [HS.out]; omega) (by rw [HS.out]; omega) (.int .i32 (G a))
          go_wp2
          go_region
          all_goals go_wp2
          have SX : SR w0 blk off (swp dk j' a) _ := SW.swapped AS.out R j' a (by rw [HS.out]; omega) (by rw [HS.out]; omega)
          rw [← HG.out a, ← HG.out j'] at SX
          go_ret2
          have e := part_first_break ltInt d a b pivot HI.out HJ.out HDK.out hi2.out hj2.out (by omega)
          rw [e]
          exact ⟨rfl, SX⟩

end Go.Proofs.YtmechinlaladiaaDoor
namespace Go.Proofs.YtmechinlaladiaaDoor
open Go.RowKit Go.Lib Go.Sort
set_option linter.unusedVariables false

set_option maxHeartbeats 12800000 in
set_option maxRecDepth 100000 in
theorem pins_any (blk off cap a b n : Nat) (d0 d : Array Int) (w0 w : World) (R : RowR w0 blk off d0) (S : SR w0 blk off d w) (hd0 : d0.size = n) (hd : d.size = n) (hab : a < b) (hb : b ≤ n) (hsz : n < 4611686018427387904) :
    Calls Tryd.prog 88 #[.slice (some ⟨blk, off, none⟩) n cap, .int .i64 a, .int .i64 b] w fun e w' => e = .returned (.bool (partialInsertionSort ltInt d a b).2) ∧ SR w0 blk off (partialInsertionSort ltInt d a b).1 w' := by
  have HD := Lib.hid hd; have HD0 := Lib.hid hd0; have S0 := Lib.hid S
  clear hd hd0 S
  go_enter Tryd.func88, Tryd.ntmps88
  go_wp2
  go_loopw [7, 8] (fun vi vs wr => ∃ (i s : Nat) (dk : Array Int), vi = .int .i64 i ∧ vs = .int .i64 s ∧ s ≤ 5 ∧ a < i ∧ i ≤ b ∧ Hid (dk.size = n) ∧ Hid (SR w0 blk off dk wr) ∧ Hid (partialIns ltInt a b (5 - s) i dk = partialIns ltInt a b 5 (a + 1) d)) (fun _ vs _ => 5 - (intOf vs).toNat)
  case atStart => exact ⟨a + 1, 0, d, by go_num, rfl, by omega, by omega, by omega, HD, S0, rfl⟩
  case round =>
    clear S0
    obtain ⟨i, s, dk, rfl, rfl, hs5, hai, hib, HS, AS, HO⟩ := hrel
    by_cases hs5' : s < 5
    · have hs5d : decide ((s : Int) < 5) = true := decide_eq_true (by omega)
      go_wp2
      go_loopw [7] (fun vi w2 => ∃ (k : Nat), vi = .int .i64 k ∧ i ≤ k ∧ k ≤ b ∧ Hid (SR w0 blk off dk w2) ∧ Hid (scanSorted ltInt dk b k = scanSorted ltInt dk b i)) (fun vi _ => b - (intOf vi).toNat)
      case atStart => exact ⟨i, rfl, Nat.le_refl _, hib, AS, rfl⟩
      case round =>
        clear AS
        obtain ⟨k, rfl, hik, hkb, AS, HSc⟩ := hrel
        obtain ⟨G, hG⟩ : ∃ G : Nat → Int, ∀ t, G t = dk[t]! := ⟨fun t => dk[t]!, fun _ => rfl⟩
        have HG := Lib.hid hG
        clear hG
        have cw := SR.cells AS.out R (by rw [HS.out, HD0.out]) HS.out HG.out
        have fw := SR.free AS.out R (by rw [HS.out, HD0.out]) HS.out
        by_cases hkb' : k < b
        · have hkbz : ((k : Int) == (b : Int)) = false := by simp; omega
          by_cases h50 : b - a < 50
          · have h50z : (b : Int) - (a : Int) < 50 := by omega
            go_wp2_with fail
            go_big_quiet (first | (go_at_call 89; refine Calls.quiet_of_same (cmpless_any _ _ _)))
            go_wp2_with fail
            · have hl : ltInt (G k) (G (k - 1)) = false := by
                have h : (!ltInt (G k) (G (k - 1))) = true := by assumption
                simpa using h
              rw [HG.out, HG.out] at hl
              go_roundw
              case rel => exact ⟨k + 1, by go_num, by omega, by omega, SW.drewN AS.out nq, (show _ = _ from by rw [← HSc.out, scanSorted_go ltInt dk b k hkb' hl])⟩
              case measure => simp [intOf]; omega
            · have hl : ltInt (G k) (G (k - 1)) = true := by
                have h : (!ltInt (G k) (G (k - 1))) = false := by assumption
                simpa using h
              rw [HG.out, HG.out] at hl
              have hv : partialInsertionSort ltInt d a b = (dk, false) := by
                unfold partialInsertionSort
                rw [← HO.out, pi_short ltInt a b s i dk hs5' (by rw [← HSc.out, scanSorted_stop ltInt dk b k (Or.inr hl)]; omega) h50]
              rw [hv]
              go_ret
              exact ⟨rfl, SW.drewN AS.out nq⟩
          · have h50z : ¬ (b : Int) - (a : Int) < 50 := by omega
            have h50d : decide ((b : Int) - (a : Int) < 50) = false := decide_eq_false h50z
            go_wp2_with fail
            go_big_quiet (first | (go_at_call 89; refine Calls.quiet_of_same (cmpless_any _ _ _)))
            go_wp2_with fail
            · have hl : ltInt (G k) (G (k - 1)) = false := by
                have h : (!ltInt (G k) (G (k - 1))) = true := by assumption
                simpa using h
              rw [HG.out, HG.out] at hl
              go_roundw
              case rel => exact ⟨k + 1, by go_num, by omega, by omega, SW.drewN AS.out nq, (show _ = _ from by rw [← HSc.out, scanSorted_go ltInt dk b k hkb' hl])⟩
              case measure => simp [intOf]; omega
            · have hl : ltInt (G k) (G (k - 1)) = true := by
                have h : (!ltInt (G k) (G (k - 1))) = false := by assumption
                simpa using h
              rw [HG.out, HG.out] at hl
              have HK : Hid (scanSorted ltInt dk b i = k) := (show _ = _ from by rw [← HSc.out, scanSorted_stop ltInt dk b k (Or.inr hl)])
              clear hl
              by_cases hbk : 2 ≤ b - k
              · have hbkz : (2 : Int) ≤ (b : Int) - (k : Int) := by omega
                have hbkd : decide ((2 : Int) ≤ (b : Int) - (k : Int)) = true := decide_eq_true hbkz
                go_region
                have SX := SW.swapped (SW.drewN AS.out nq) R k (k - 1) (by rw [HS.out]; omega) (by rw [HS.out]; omega)
                rw [← HG.out, ← HG.out] at SX
                have AX := Lib.hid SX
                clear SX AS cw fw
                have AS := AX
                clear AX
                obtain ⟨dj0, hdj0⟩ : ∃ x, x = swp dk k (k - 1) := ⟨_, rfl⟩
                have hsj0 : dj0.size = n := by rw [hdj0, size_swp]; exact HS.out
                rw [← hdj0] at AS
                have HS0 := Lib.hid hsj0
                have HDJ := Lib.hid hdj0
                clear hsj0 hdj0
                by_cases hka : 2 ≤ k - a
                · have hkaz : (2 : Int) ≤ (k : Int) - (a : Int) := by omega
                  have hkad : decide ((2 : Int) ≤ (k : Int) - (a : Int)) = true := decide_eq_true hkaz
                  go_wp2
                  go_loopw [9] (fun vj w2 => ∃ (j : Nat) (dj : Array Int), vj = .int .i64 j ∧ j ≤ k - 1 ∧ Hid (dj.size = n) ∧ Hid (SR w0 blk off dj w2) ∧ Hid (shiftDown ltInt j dj = shiftDown ltInt (k - 1) dj0)) (fun vj _ => (intOf vj).toNat)
                  case atStart => exact ⟨k - 1, dj0, by congr 1; omega, Nat.le_refl _, HS0, AS, rfl⟩
                  case round =>
                    clear AS HG
                    obtain ⟨j, dj, rfl, hjk, HSj, AS, HDw⟩ := hrel
                    by_cases hj1 : 1 ≤ j
                    · obtain ⟨G, hG⟩ : ∃ G : Nat → Int, ∀ t, G t = dj[t]! := ⟨fun t => dj[t]!, fun _ => rfl⟩
                      have HG := Lib.hid hG
                      clear hG
                      have cw := SR.cells AS.out R (by rw [HSj.out, HD0.out]) HSj.out HG.out
                      have fw := SR.free AS.out R (by rw [HSj.out, HD0.out]) HSj.out
                      go_wp2_with fail
                      go_big_quiet (first | (go_at_call 89; refine Calls.quiet_of_same (cmpless_any _ _ _)))
                      go_wp2_with fail
                      · have hl : ltInt (G j) (G (j - 1)) = false := by
                          have h : (!ltInt (G j) (G (j - 1))) = true := by assumption
                          simpa using h
                        rw [HG.out, HG.out] at hl
                        have AS2 := Lib.hid (SW.drewN AS.out nq)
                        have HDn : Hid (fixDown ltInt a k (swp dk k (k - 1)) = dj) := (show _ = _ from by rw [← HDJ.out]; unfold fixDown; rw [if_pos (by omega), ← HDw.out, shiftDown_stop ltInt j dj (Or.inr hl)])
                        clear cw fw AS HG hl
                        have AS := AS2
                        clear AS2
                        go_wp2
                        go_loopw [10] (fun vj w2 => ∃ (j : Nat) (du : Array Int), vj = .int .i64 j ∧ k + 1 ≤ j ∧ j ≤ b ∧ Hid (du.size = n) ∧ Hid (SR w0 blk off du w2) ∧ Hid (shiftUp ltInt b j du = shiftUp ltInt b (k + 1) dj)) (fun vj _ => b - (intOf vj).toNat)
                        case atStart => exact ⟨k + 1, dj, by go_num, Nat.le_refl _, by omega, HSj, AS, rfl⟩
                        case round =>
                          clear AS
                          obtain ⟨j, du, rfl, hkj, hjb, HSu, AS, HU⟩ := hrel
                          by_cases hjb2 : j < b
                          · obtain ⟨G, hG⟩ : ∃ G : Nat → Int, ∀ t, G t = du[t]! := ⟨fun t => du[t]!, fun _ => rfl⟩
                            have HG := Lib.hid hG
                            clear hG
                            have cw := SR.cells AS.out R (by rw [HSu.out, HD0.out]) HSu.out HG.out
                            have fw := SR.free AS.out R (by rw [HSu.out, HD0.out]) HSu.out
                            go_wp2_with fail
                            go_big_quiet (first | (go_at_call 89; refine Calls.quiet_of_same (cmpless_any _ _ _)))
                            go_wp2_with fail
                            · have hl : ltInt (G j) (G (j - 1)) = false := by
                                have h : (!ltInt (G j) (G (j - 1))) = true := by assumption
                                simpa using h
                              rw [HG.out, HG.out] at hl
                              have AS2 := Lib.hid (SW.drewN AS.out nq)
                              clear cw fw AS
                              go_roundw
                              case rel =>
                                exact ⟨k, s + 1, du, rfl, by go_num, by omega, by omega, by omega, HSu, AS2, (show _ = _ from by rw [← HO.out, pi_go ltInt a b s i k dk hs5' HK.out (by omega) (by omega), HDn.out, show fixUp ltInt b k dj = du from by unfold fixUp; rw [if_pos (by omega), ← HU.out, shiftUp_stop ltInt b j du (Or.inr hl)]])⟩
                              case measure => simp [intOf]; omega
                            · have hl : ltInt (G j) (G (j - 1)) = true := by
                                have h : (!ltInt (G j) (G (j - 1))) = false := by assumption
                                simpa using h
                              go_region
                              all_goals go_wp2
                              rw [HG.out, HG.out] at hl
                              have SX := SW.swapped (SW.drewN AS.out nq) R j (j - 1) (by rw [HSu.out]; omega) (by rw [HSu.out]; omega)
                              rw [← HG.out, ← HG.out] at SX
                              have AX := Lib.hid SX
                              clear SX
                              go_roundw
                              case rel => exact ⟨j + 1, swp du j (j - 1), by go_num, by omega, by omega, (show _ = _ from by rw [size_swp]; exact HSu.out), AX, (show _ = _ from by rw [← HU.out, shiftUp_go ltInt b j du (by omega) hl])⟩
                              case measure => simp [intOf]; omega
                          · go_wp2
                            go_roundw
                            case rel =>
                              exact ⟨k, s + 1, du, rfl, by go_num, by omega, by omega, by omega, HSu, AS, (show _ = _ from by rw [← HO.out, pi_go ltInt a b s i k dk hs5' HK.out (by omega) (by omega), HDn.out, show fixUp ltInt b k dj = du from by unfold fixUp; rw [if_pos (by omega), ← HU.out, shiftUp_stop ltInt b j du (Or.inl (by omega))]])⟩
                            case measure => simp [intOf]; omega
                      · have hl : ltInt (G j) (G (j - 1)) = true := by
                          have h : (!ltInt (G j) (G (j - 1))) = false := by assumption
                          simpa using h
                        go_region
                        all_goals go_wp2
                        rw [HG.out, HG.out] at hl
                        have SX := SW.swapped (SW.drewN AS.out nq) R j (j - 1) (by rw [HSj.out]; omega) (by rw [HSj.out]; omega)
                        rw [← HG.out, ← HG.out] at SX
                        have AX := Lib.hid SX
                        clear SX
                        go_roundw
                        case rel => exact ⟨j - 1, swp dj j (j - 1), by congr 1; omega, by omega, (show _ = _ from by rw [size_swp]; exact HSj.out), AX, (show _ = _ from by rw [← HDw.out, shiftDown_go ltInt j dj (by omega) hl])⟩
                        case measure => simp [intOf]; omega
                    · have hj1z : ¬ (1 : Int) ≤ (j : Int) := by omega
                      have HDn : Hid (fixDown ltInt a k (swp dk k (k - 1)) = dj) := (show _ = _ from by rw [← HDJ.out]; unfold fixDown; rw [if_pos (by omega), ← HDw.out, shiftDown_stop ltInt j dj (Or.inl (by omega))])
                      go_wp2
                      go_loopw [10] (fun vj w2 => ∃ (j : Nat) (du : Array Int), vj = .int .i64 j ∧ k + 1 ≤ j ∧ j ≤ b ∧ Hid (du.size = n) ∧ Hid (SR w0 blk off du w2) ∧ Hid (shiftUp ltInt b j du = shiftUp ltInt b (k + 1) dj)) (fun vj _ => b - (intOf vj).toNat)
                      case atStart => exact ⟨k + 1, dj, by go_num, Nat.le_refl _, by omega, HSj, AS, rfl⟩
                      case round =>
                        clear AS
                        obtain ⟨j, du, rfl, hkj, hjb, HSu, AS, HU⟩ := hrel
                        by_cases hjb2 : j < b
                        · obtain ⟨G, hG⟩ : ∃ G : Nat → Int, ∀ t, G t = du[t]! := ⟨fun t => du[t]!, fun _ => rfl⟩
                          have HG := Lib.hid hG
                          clear hG
                          have cw := SR.cells AS.out R (by rw [HSu.out, HD0.out]) HSu.out HG.out
                          have fw := SR.free AS.out R (by rw [HSu.out, HD0.out]) HSu.out
                          go_wp2_with fail
                          go_big_quiet (first | (go_at_call 89; refine Calls.quiet_of_same (cmpless_any _ _ _)))
                          go_wp2_with fail
                          · have hl : ltInt (G j) (G (j - 1)) = false := by
                              have h : (!ltInt (G j) (G (j - 1))) = true := by assumption
                              simpa using h
                            rw [HG.out, HG.out] at hl
                            have AS2 := Lib.hid (SW.drewN AS.out nq)
                            clear cw fw AS
                            go_roundw
                            case rel =>
                              exact ⟨k, s + 1, du, rfl, by go_num, by omega, by omega, by omega, HSu, AS2, (show _ = _ from by rw [← HO.out, pi_go ltInt a b s i k dk hs5' HK.out (by omega) (by omega), HDn.out, show fixUp ltInt b k dj = du from by unfold fixUp; rw [if_pos (by omega), ← HU.out, shiftUp_stop ltInt b j du (Or.inr hl)]])⟩
                            case measure => simp [intOf]; omega
                          · have hl : ltInt (G j) (G (j - 1)) = true := by
                              have h : (!ltInt (G j) (G (j - 1))) = false := by assumption
                              simpa using h
                            go_region
                            all_goals go_wp2
                            rw [HG.out, HG.out] at hl
                            have SX := SW.swapped (SW.drewN AS.out nq) R j (j - 1) (by rw [HSu.out]; omega) (by rw [HSu.out]; omega)
                            rw [← HG.out, ← HG.out] at SX
                            have AX := Lib.hid SX
                            clear SX
                            go_roundw
                            case rel => exact ⟨j + 1, swp du j (j - 1), by go_num, by omega, by omega, (show _ = _ from by rw [size_swp]; exact HSu.out), AX, (show _ = _ from by rw [← HU.out, shiftUp_go ltInt b j du (by omega) hl])⟩
                            case measure => simp [intOf]; omega
                        · go_wp2
                          go_roundw
                          case rel =>
                            exact ⟨k, s + 1, du, rfl, by go_num, by omega, by omega, by omega, HSu, AS, (show _ = _ from by rw [← HO.out, pi_go ltInt a b s i k dk hs5' HK.out (by omega) (by omega), HDn.out, show fixUp ltInt b k dj = du from by unfold fixUp; rw [if_pos (by omega), ← HU.out, shiftUp_stop ltInt b j du (Or.inl (by omega))]])⟩
                          case measure => simp [intOf]; omega
                · have hkaz : ¬ (2 : Int) ≤ (k : Int) - (a : Int) := by omega
                  have hkad : decide ((2 : Int) ≤ (k : Int) - (a : Int)) = false := decide_eq_false hkaz
                  obtain ⟨dj, hdj⟩ : ∃ x, x = dj0 := ⟨_, rfl⟩
                  have HSj : Hid (dj.size = n) := (show _ = _ from by rw [hdj]; exact HS0.out)
                  have HDn : Hid (fixDown ltInt a k (swp dk k (k - 1)) = dj) := (show _ = _ from by rw [← HDJ.out]; unfold fixDown; rw [if_neg (by omega), hdj])
                  rw [← hdj] at AS
                  clear hdj
                  go_wp2
                  go_loopw [10] (fun vj w2 => ∃ (j : Nat) (du : Array Int), vj = .int .i64 j ∧ k + 1 ≤ j ∧ j ≤ b ∧ Hid (du.size = n) ∧ Hid (SR w0 blk off du w2) ∧ Hid (shiftUp ltInt b j du = shiftUp ltInt b (k + 1) dj)) (fun vj _ => b - (intOf vj).toNat)
                  case atStart => exact ⟨k + 1, dj, by go_num, Nat.le_refl _, by omega, HSj, AS, rfl⟩
                  case round =>
                    clear AS
                    obtain ⟨j, du, rfl, hkj, hjb, HSu, AS, HU⟩ := hrel
                    by_cases hjb2 : j < b
                    · obtain ⟨G, hG⟩ : ∃ G : Nat → Int, ∀ t, G t = du[t]! := ⟨fun t => du[t]!, fun _ => rfl⟩
                      have HG := Lib.hid hG
                      clear hG
                      have cw := SR.cells AS.out R (by rw [HSu.out, HD0.out]) HSu.out HG.out
                      have fw := SR.free AS.out R (by rw [HSu.out, HD0.out]) HSu.out
                      go_wp2_with fail
                      go_big_quiet (first | (go_at_call 89; refine Calls.quiet_of_same (cmpless_any _ _ _)))
                      go_wp2_with fail
                      · have hl : ltInt (G j) (G (j - 1)) = false := by
                          have h : (!ltInt (G j) (G (j - 1))) = true := by assumption
                          simpa using h
                        rw [HG.out, HG.out] at hl
                        have AS2 := Lib.hid (SW.drewN AS.out nq)
                        clear cw fw AS
                        go_roundw
                        case rel =>
                          exact ⟨k, s + 1, du, rfl, by go_num, by omega, by omega, by omega, HSu, AS2, (show _ = _ from by rw [← HO.out, pi_go ltInt a b s i k dk hs5' HK.out (by omega) (by omega), HDn.out, show fixUp ltInt b k dj = du from by unfold fixUp; rw [if_pos (by omega), ← HU.out, shiftUp_stop ltInt b j du (Or.inr hl)]])⟩
                        case measure => simp [intOf]; omega
                      · have hl : ltInt (G j) (G (j - 1)) = true := by
                          have h : (!ltInt (G j) (G (j - 1))) = false := by assumption
                          simpa using h
                        go_region
                        all_goals go_wp2
                        rw [HG.out, HG.out] at hl
                        have SX := SW.swapped (SW.drewN AS.out nq) R j (j - 1) (by rw [HSu.out]; omega) (by rw [HSu.out]; omega)
                        rw [← HG.out, ← HG.out] at SX
                        have AX := Lib.hid SX
                        clear SX
                        go_roundw
                        case rel => exact ⟨j + 1, swp du j (j - 1), by go_num, by omega, by omega, (show _ = _ from by rw [size_swp]; exact HSu.out), AX, (show _ = _ from by rw [← HU.out, shiftUp_go ltInt b j du (by omega) hl])⟩
                        case measure => simp [intOf]; omega
                    · go_wp2
                      go_roundw
                      case rel =>
                        exact ⟨k, s + 1, du, rfl, by go_num, by omega, by omega, by omega, HSu, AS, (show _ = _ from by rw [← HO.out, pi_go ltInt a b s i k dk hs5' HK.out (by omega) (by omega), HDn.out, show fixUp ltInt b k dj = du from by unfold fixUp; rw [if_pos (by omega), ← HU.out, shiftUp_stop ltInt b j du (Or.inl (by omega))]])⟩
                      case measure => simp [intOf]; omega
              · have hbkz : ¬ (2 : Int) ≤ (b : Int) - (k : Int) := by omega
                have hbkd : decide ((2 : Int) ≤ (b : Int) - (k : Int)) = false := decide_eq_false hbkz
                go_region
                have SX := SW.swapped (SW.drewN AS.out nq) R k (k - 1) (by rw [HS.out]; omega) (by rw [HS.out]; omega)
                rw [← HG.out, ← HG.out] at SX
                have AX := Lib.hid SX
                clear SX AS cw fw
                have AS := AX
                clear AX
                obtain ⟨dj0, hdj0⟩ : ∃ x, x = swp dk k (k - 1) := ⟨_, rfl⟩
                have hsj0 : dj0.size = n := by rw [hdj0, size_swp]; exact HS.out
                rw [← hdj0] at AS
                have HS0 := Lib.hid hsj0
                have HDJ := Lib.hid hdj0
                clear hsj0 hdj0
                by_cases hka : 2 ≤ k - a
                · have hkaz : (2 : Int) ≤ (k : Int) - (a : Int) := by omega
                  have hkad : decide ((2 : Int) ≤ (k : Int) - (a : Int)) = true := decide_eq_true hkaz
                  go_wp2
                  go_loopw [9] (fun vj w2 => ∃ (j : Nat) (dj : Array Int), vj = .int .i64 j ∧ j ≤ k - 1 ∧ Hid (dj.size = n) ∧ Hid (SR w0 blk off dj w2) ∧ Hid (shiftDown ltInt j dj = shiftDown ltInt (k - 1) dj0)) (fun vj _ => (intOf vj).toNat)
                  case atStart => exact ⟨k - 1, dj0, by congr 1; omega, Nat.le_refl _, HS0, AS, rfl⟩
                  case round =>
                    clear AS HG
                    obtain ⟨j, dj, rfl, hjk, HSj, AS, HDw⟩ := hrel
                    by_cases hj1 : 1 ≤ j
                    · obtain ⟨G, hG⟩ : ∃ G : Nat → Int, ∀ t, G t = dj[t]! := ⟨fun t => dj[t]!, fun _ => rfl⟩
                      have HG := Lib.hid hG
                      clear hG
                      have cw := SR.cells AS.out R (by rw [HSj.out, HD0.out]) HSj.out HG.out
                      have fw := SR.free AS.out R (by rw [HSj.out, HD0.out]) HSj.out
                      go_wp2_with fail
                      go_big_quiet (first | (go_at_call 89; refine Calls.quiet_of_same (cmpless_any _ _ _)))
                      go_wp2_with fail
                      · have hl : ltInt (G j) (G (j - 1)) = false := by
                          have h : (!ltInt (G j) (G (j - 1))) = true := by assumption
                          simpa using h
                        rw [HG.out, HG.out] at hl
                        have AS2 := Lib.hid (SW.drewN AS.out nq)
                        have HDn : Hid (fixDown ltInt a k (swp dk k (k - 1)) = dj) := (show _ = _ from by rw [← HDJ.out]; unfold fixDown; rw [if_pos (by omega), ← HDw.out, shiftDown_stop ltInt j dj (Or.inr hl)])
                        clear cw fw AS HG hl
                        have AS := AS2
                        clear AS2
                        go_wp2
                        go_roundw
                        case rel =>
                          exact ⟨k, s + 1, dj, rfl, by go_num, by omega, by omega, by omega, HSj, AS, (show _ = _ from by rw [← HO.out, pi_go ltInt a b s i k dk hs5' HK.out (by omega) (by omega), HDn.out, show fixUp ltInt b k dj = dj from by unfold fixUp; rw [if_neg (by omega)]])⟩
                        case measure => simp [intOf]; omega
                      · have hl : ltInt (G j) (G (j - 1)) = true := by
                          have h : (!ltInt (G j) (G (j - 1))) = false := by assumption
                          simpa using h
                        go_region
                        all_goals go_wp2
                        rw [HG.out, HG.out] at hl
                        have SX := SW.swapped (SW.drewN AS.out nq) R j (j - 1) (by rw [HSj.out]; omega) (by rw [HSj.out]; omega)
                        rw [← HG.out, ← HG.out] at SX
                        have AX := Lib.hid SX
                        clear SX
                        go_roundw
                        case rel => exact ⟨j - 1, swp dj j (j - 1), by congr 1; omega, by omega, (show _ = _ from by rw [size_swp]; exact HSj.out), AX, (show _ = _ from by rw [← HDw.out, shiftDown_go ltInt j dj (by omega) hl])⟩
                        case measure => simp [intOf]; omega
                    · have hj1z : ¬ (1 : Int) ≤ (j : Int) := by omega
                      have HDn : Hid (fixDown ltInt a k (swp dk k (k - 1)) = dj) := (show _ = _ from by rw [← HDJ.out]; unfold fixDown; rw [if_pos (by omega), ← HDw.out, shiftDown_stop ltInt j dj (Or.inl (by omega))])
                      go_wp2
                      go_roundw
                      case rel =>
                        exact ⟨k, s + 1, dj, rfl, by go_num, by omega, by omega, by omega, HSj, AS, (show _ = _ from by rw [← HO.out, pi_go ltInt a b s i k dk hs5' HK.out (by omega) (by omega), HDn.out, show fixUp ltInt b k dj = dj from by unfold fixUp; rw [if_neg (by omega)]])⟩
                      case measure => simp [intOf]; omega
                · have hkaz : ¬ (2 : Int) ≤ (k : Int) - (a : Int) := by omega
                  have hkad : decide ((2 : Int) ≤ (k : Int) - (a : Int)) = false := decide_eq_false hkaz
                  obtain ⟨dj, hdj⟩ : ∃ x, x = dj0 := ⟨_, rfl⟩
                  have HSj : Hid (dj.size = n) := (show _ = _ from by rw [hdj]; exact HS0.out)
                  have HDn : Hid (fixDown ltInt a k (swp dk k (k - 1)) = dj) := (show _ = _ from by rw [← HDJ.out]; unfold fixDown; rw [if_neg (by omega), hdj])
                  rw [← hdj] at AS
                  clear hdj
                  go_wp2
                  go_roundw
                  case rel =>
                    exact ⟨k, s + 1, dj, rfl, by go_num, by omega, by omega, by omega, HSj, AS, (show _ = _ from by rw [← HO.out, pi_go ltInt a b s i k dk hs5' HK.out (by omega) (by omega), HDn.out, show fixUp ltInt b k dj = dj from by unfold fixUp; rw [if_neg (by omega)]])⟩
                  case measure => simp [intOf]; omega
        · obtain rfl : k = b := by omega
          have hv : partialInsertionSort ltInt d a k = (dk, true) := by
            unfold partialInsertionSort
            rw [← HO.out, pi_true ltInt a k s i dk hs5' (by rw [← HSc.out, scanSorted_stop ltInt dk k k (Or.inl (by omega))])]
          have HV := Lib.hid hv
          clear hv
          go_wp2_with fail
          go_big_quiet (first | (go_at_call 89; refine Calls.quiet_of_same (cmpless_any _ _ _)))
          go_wp2
          rw [HV.out]
          go_ret
          exact ⟨rfl, SW.drewN AS.out nq⟩
    · obtain rfl : s = 5 := by omega
      have hv : partialInsertionSort ltInt d a b = (dk, false) := by
        unfold partialInsertionSort
        rw [← HO.out, pi_end]
      have HV := Lib.hid hv
      clear hv
      go_wp2
      rw [HV.out]
      go_ret
      exact ⟨rfl, AS.out⟩

end Go.Proofs.YtmechinlaladiaaDoor
namespace Go.Proofs.YtmechinlaladiaaDoor
open Go.RowKit Go.Lib Go.Sort
set_option linter.unusedVariables false

theorem lt_t {x y : Int} : ltInt x y = true ↔ x < y := by unfold ltInt; exact decide_eq_true_iff
theorem lt_f {x y : Int} : ltInt x y = false ↔ y ≤ x := by unfold ltInt; rw [decide_eq_false_iff_not]; omega

/-- Nothing in the part is less than what stands ahead of it. -/
def Ahead (a b : Nat) (d : Array Int) : Prop := Sort.Below ltInt a b d
/-- Sorted in the part makes sorted in the whole. -/
def Fin' (a b : Nat) (d : Array Int) (a' b' : Nat) (dk : Array Int) : Prop :=
  ∀ d', PermIn a' b' dk d' → SortedIn ltInt a' b' d' → PermIn a b d d' ∧ SortedIn ltInt a b d'

theorem Ahead.perm {a b : Nat} {d d' : Array Int} (h : Ahead a b d) (hb : b ≤ d.size) (hp : PermIn a b d d') : Ahead a b d' := by
  rcases h with h | h
  · exact Or.inl h
  · by_cases h0 : a = 0
    · exact Or.inl h0
    · refine Or.inr fun i hi hib => ?_
      have e := hp.2.1 (a - 1) (Or.inl (by omega))
      rw [e]
      exact permIn_all d d' a b (fun x => ltInt x d[a - 1]! = false) hb hp h i hi hib
theorem Ahead.sub {a b b2 : Nat} {d : Array Int} (h : Ahead a b d) (hb : b2 ≤ b) : Ahead a b2 d := by
  rcases h with h | h
  · exact Or.inl h
  · exact Or.inr fun i hi hib => h i hi (by omega)
theorem Fin'.perm {a b a' b' : Nat} {d dk d1 : Array Int} (h : Fin' a b d a' b' dk) (hp : PermIn a' b' dk d1) : Fin' a b d a' b' d1 :=
  fun d' h1 h2 => h d' (permIn_trans _ _ _ _ _ hp h1) h2

/-- What the equal partition leaves. -/
theorem eq_round {a b a' b' pv mid : Nat} {d d3 d4 : Array Int} (ha : 0 < a') (hp1 : a' ≤ pv) (hp2 : pv < b') (hb : b' ≤ d3.size) (hA : Ahead a' b' d3) (hF : Fin' a b d a' b' d3)
    (hq : ltInt d3[a' - 1]! d3[pv]! = false) (hx : partitionEqual ltInt d3 a' b' pv = (mid, d4)) :
    a' < mid ∧ mid ≤ b' ∧ d4.size = d3.size ∧ Ahead mid b' d4 ∧ Fin' a b d mid b' d4 := by
  have hall : ∀ i, a' ≤ i → i < b' → ltInt d3[i]! d3[pv]! = false := fun i hi hib => by
    rcases hA with h0 | h0
    · omega
    · have := lt_f.1 (h0 i hi hib)
      have := lt_f.1 hq
      exact lt_f.2 (by omega)
  obtain ⟨h1, h2, h3, h4, h5⟩ := partitionEqual_holds ltInt swo_ltInt d3 a' b' pv hp1 hp2 hb hall
  rw [hx] at h1 h2 h3 h4 h5
  simp only [] at h1 h2 h3 h4 h5
  have hge : ∀ i, a' ≤ i → i < b' → ltInt d4[i]! d3[pv]! = false := permIn_all d3 d4 a' b' (fun x => ltInt x d3[pv]! = false) hb h3 hall
  refine ⟨h1, h2, h3.1, Or.inr fun i hi hib => ?_, fun d' q1 q2 => ?_⟩
  · have e1 := lt_f.1 (h4 (mid - 1) (by omega) (by omega))
    have e2 := lt_t.1 (h5 i hi hib)
    exact lt_f.2 (by omega)
  · have hs4 : b' ≤ d4.size := by rw [h3.1]; exact hb
    refine hF d' (permIn_trans _ _ _ _ _ h3 (permIn_mono d4 d' mid b' a' b' (by omega) (Nat.le_refl _) hs4 q1)) ?_
    intro i j hi hij hj
    have hgt := permIn_all d4 d' mid b' (fun x => ltInt d3[pv]! x = true) hs4 q1 h5
    by_cases hjm : j < mid
    · rw [q1.2.1 j (Or.inl hjm), q1.2.1 i (Or.inl (by omega))]
      have e1 := lt_f.1 (h4 i hi (by omega))
      have e2 := lt_f.1 (hge j (by omega) (by omega))
      exact lt_f.2 (by omega)
    · by_cases him : i < mid
      · rw [q1.2.1 i (Or.inl him)]
        have e1 := lt_f.1 (h4 i hi him)
        have e2 := lt_t.1 (hgt j (by omega) hj)
        exact lt_f.2 (by omega)
      · exact q2 i j (by omega) hij hj

theorem sorted_glue {a' mid b' : Nat} {p : Int} {d' : Array Int} (hm : d'[mid]! = p) (hl : ∀ i, a' ≤ i → i < mid → ltInt d'[i]! p = true) (hr : ∀ i, mid < i → i < b' → ltInt d'[i]! p = false)
    (s1 : SortedIn ltInt a' mid d') (s2 : SortedIn ltInt (mid + 1) b' d') : SortedIn ltInt a' b' d' := by
  intro i j hi hij hj
  rcases Nat.lt_trichotomy j mid with h | h | h
  · exact s1 i j hi hij h
  · subst h
    have e := lt_t.1 (hl i hi hij)
    rw [hm]
    exact lt_f.2 (by omega)
  · have e2 := lt_f.1 (hr j h hj)
    rcases Nat.lt_trichotomy i mid with g | g | g
    · have e := lt_t.1 (hl i hi g)
      exact lt_f.2 (by omega)
    · subst g
      rw [hm]
      exact lt_f.2 (by omega)
    · exact s2 i j (by omega) hij hj

/-- What the partition leaves: and behind it both orders of the two sides. -/
theorem part_round {a b a' b' pv mid : Nat} {ap : Bool} {d d3 d4 : Array Int} (hp1 : a' ≤ pv) (hp2 : pv < b') (hb : b' ≤ d3.size) (hA : Ahead a' b' d3) (hF : Fin' a b d a' b' d3)
    (hx : partition ltInt d3 a' b' pv = (mid, ap, d4)) :
    a' ≤ mid ∧ mid < b' ∧ d4.size = d3.size ∧ Ahead a' mid d4 ∧ Ahead (mid + 1) b' d4 ∧
    (∀ d5, PermIn a' mid d4 d5 → SortedIn ltInt a' mid d5 → Ahead (mid + 1) b' d5 ∧ Fin' a b d (mid + 1) b' d5) ∧
    (∀ d5, PermIn (mid + 1) b' d4 d5 → SortedIn ltInt (mid + 1) b' d5 → Ahead a' mid d5 ∧ Fin' a b d a' mid d5) := by
  obtain ⟨h1, h2, h3, h4, h5⟩ := partition_holds ltInt swo_ltInt d3 a' b' pv hp1 hp2 hb
  rw [hx] at h1 h2 h3 h4 h5
  simp only [] at h1 h2 h3 h4 h5
  have hA4 := hA.perm hb h3
  have hF4 := hF.perm h3
  have hs4 : b' ≤ d4.size := by rw [h3.1]; exact hb
  have hAr : ∀ d5, (∀ i, i < a' ∨ mid ≤ i → d5[i]! = d4[i]!) → Ahead (mid + 1) b' d5 := fun d5 he => Or.inr fun i hi hib => by
    rw [he i (Or.inr (by omega)), show mid + 1 - 1 = mid by omega, he mid (Or.inr (Nat.le_refl _))]
    exact h5 i (by omega) hib
  refine ⟨h1, h2, h3.1, hA4.sub (by omega), hAr d4 (fun _ _ => rfl), fun d5 p5 s5 => ⟨hAr d5 p5.2.1, fun d' q1 q2 => ?_⟩, fun d5 p5 s5 => ⟨?_, fun d' q1 q2 => ?_⟩⟩
  · have hs5 : b' ≤ d5.size := by rw [p5.1]; exact hs4
    have P1 : PermIn a' b' d4 d5 := permIn_mono d4 d5 a' mid a' b' (Nat.le_refl _) (by omega) hs4 p5
    have P2 : PermIn a' b' d5 d' := permIn_mono d5 d' (mid + 1) b' a' b' (by omega) (Nat.le_refl _) hs5 q1
    refine hF4 d' (permIn_trans _ _ _ _ _ P1 P2) (sorted_glue (p := d4[mid]!) ?_ ?_ ?_ ?_ q2)
    · rw [q1.2.1 mid (Or.inl (by omega)), p5.2.1 mid (Or.inr (Nat.le_refl _))]
    · intro i hi him
      rw [q1.2.1 i (Or.inl (by omega))]
      exact permIn_all d4 d5 a' mid (fun x => ltInt x d4[mid]! = true) (by omega) p5 h4 i hi him
    · intro i hi hib
      refine permIn_all d5 d' (mid + 1) b' (fun x => ltInt x d4[mid]! = false) hs5 q1 (fun k hk hkb => ?_) i (by omega) hib
      rw [p5.2.1 k (Or.inr (by omega))]
      exact h5 k (by omega) hkb
    · intro i j hi hij hj
      rw [q1.2.1 i (Or.inl (by omega)), q1.2.1 j (Or.inl (by omega))]
      exact s5 i j hi hij hj
  · exact (hA4.perm hs4 (permIn_mono d4 d5 (mid + 1) b' a' b' (by omega) (Nat.le_refl _) hs4 p5)).sub (by omega)
  · have hs5 : b' ≤ d5.size := by rw [p5.1]; exact hs4
    have P1 : PermIn a' b' d4 d5 := permIn_mono d4 d5 (mid + 1) b' a' b' (by omega) (Nat.le_refl _) hs4 p5
    have P2 : PermIn a' b' d5 d' := permIn_mono d5 d' a' mid a' b' (Nat.le_refl _) (by omega) hs5 q1
    refine hF4 d' (permIn_trans _ _ _ _ _ P1 P2) (sorted_glue (p := d4[mid]!) ?_ ?_ ?_ q2 ?_)
    · rw [q1.2.1 mid (Or.inr (Nat.le_refl _)), p5.2.1 mid (Or.inl (by omega))]
    · intro i hi him
      refine permIn_all d5 d' a' mid (fun x => ltInt x d4[mid]! = true) (by omega) q1 (fun k hk hkb => ?_) i hi him
      rw [p5.2.1 k (Or.inl (by omega))]
      exact h4 k hk hkb
    · intro i hi hib
      rw [q1.2.1 i (Or.inr (by omega))]
      exact permIn_all d4 d5 (mid + 1) b' (fun x => ltInt x d4[mid]! = false) hs4 p5 (fun k hk hkb => h5 k (by omega) hkb) i (by omega) hib
    · intro i j hi hij hj
      rw [q1.2.1 i (Or.inr (by omega)), q1.2.1 j (Or.inr (by omega))]
      exact s5 i j hi hij hj

end Go.Proofs.YtmechinlaladiaaDoor
