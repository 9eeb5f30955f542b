/-
  slices.Sort AT []rune: partitionOrdered. (Laid by program: a scan's text stands once for each way that comes to it.)
-/
import Derived.Test.YtcibjgkifafohaaDoorSort2
namespace Go.Proofs.YtcibjgkifafohaaDoor
open Go.RowKit Go.Lib Go.Sort
set_option linter.unusedVariables false

set_option maxHeartbeats 12800000 in
set_option maxRecDepth 100000 in
theorem prt_any (blk off cap a b pivot n : Nat) (d0 d : Array Int) (w0 w : World) (R : RowR w0 blk off d0) (S : SR w0 blk off d w) (hd0 : d0.size = n) (hd : d.size = n) (hap : a ≤ pivot) (hpb : pivot < b) (hb : b ≤ n) (hsz : n < 4611686018427387904) :
    Calls Tryd.prog 158 #[.slice (some ⟨blk, off, none⟩) n cap, .int .i64 a, .int .i64 b, .int .i64 pivot] w fun e w' => e = .returned (.tuple #[.int .i64 (partition ltInt d a b pivot).1, .bool (partition ltInt d a b pivot).2.1]) ∧ SR w0 blk off ((partition ltInt d a b pivot).2.2) w' := by
  have HD := Lib.hid hd; have HD0 := Lib.hid hd0
  obtain ⟨G0, hG0⟩ : ∃ G : Nat → Int, ∀ t, G t = d[t]! := ⟨fun t => d[t]!, fun _ => rfl⟩
  have cw := SR.cells S R (by rw [hd, hd0]) hd hG0
  have fw := SR.free S R (by rw [hd, hd0]) hd
  obtain ⟨u0, cu0⟩ := SW.c2 S R (by rw [hd, hd0]) a pivot (by omega) (by omega) (.int .i32 (G0 pivot))
  have SX : SR w0 blk off (swp d a pivot) _ := SW.swapped S R a pivot (by omega) (by omega)
  rw [← hG0 pivot, ← hG0 a] at SX
  have AS := Lib.hid SX
  have hs : (swp d a pivot).size = n := by rw [size_swp]; exact hd
  have HS := Lib.hid hs
  clear SX hG0 S hd hd0 hs
  go_enter Tryd.func158, Tryd.ntmps158
  go_wp2
  go_region
  go_wp2
  clear cw fw cu0
  obtain ⟨dk, hdk⟩ : ∃ dk, dk = swp d a pivot := ⟨_, rfl⟩
  rw [← hdk] at AS HS
  obtain ⟨i, hi⟩ : ∃ i, i = a + 1 := ⟨_, rfl⟩
  obtain ⟨j, hj⟩ : ∃ j, j = b - 1 := ⟨_, rfl⟩
  have e1 : ((a : Int) + 1) = (i : Int) := by omega
  have e2 : ((b : Int) - 1) = (j : Int) := by omega
  rw [e1, e2]
  clear e1 e2
  have hai : a < i := by omega
  have hij : i ≤ j + 1 := by omega
  have hjb : j < b := by omega
  have HI := Lib.hid hi; have HJ := Lib.hid hj; have HDK := Lib.hid hdk
  clear hi hj hdk
  generalize ((w.setCell ⟨blk, off + a, none⟩ (.int .i32 (G0 pivot))).setCell ⟨blk, off + pivot, none⟩ (.int .i32 (G0 a))).drew = W1 at AS ⊢
  obtain ⟨G, hG⟩ : ∃ G : Nat → Int, ∀ t, G t = dk[t]! := ⟨fun t => dk[t]!, fun _ => rfl⟩
  have HG := Lib.hid hG
  clear hG
  go_loopw [10] (fun vi w1 => ∃ (i' : Nat), vi = .int .i64 i' ∧ i ≤ i' ∧ i' ≤ j + 1 ∧ Hid (SR w0 blk off dk w1) ∧ Hid (scanUp (fun x => ltInt x dk[a]!) dk j i' = scanUp (fun x => ltInt x dk[a]!) dk j i)) (fun vi _ => j + 1 - (intOf vi).toNat)
  case atStart => exact ⟨i, rfl, Nat.le_refl _, hij, AS, rfl⟩
  case round =>
    clear AS
    obtain ⟨i', rfl, hii, hij', AS, hsc⟩ := hrel
    have cw := SR.cells AS.out R (by rw [HS.out, HD0.out]) HS.out HG.out
    have fw := SR.free AS.out R (by rw [HS.out, HD0.out]) HS.out
    by_cases hle : i' ≤ j
    · go_wp2_with fail
      go_big_quiet (first | (go_at_call 156; refine Calls.quiet_of_same (cmpless_any _ _ _)))
      go_wp2
      · have ht : ltInt (G i') (G a) = true := by assumption
        go_roundw
        case rel => exact ⟨i' + 1, by go_num, by omega, by omega, SW.drewN AS.out nq, (show _ = _ from (scanUp_go (fun x => ltInt x dk[a]!) dk j i' hle (by rw [← HG.out a, ← HG.out i']; exact ht)).symm.trans hsc.out)⟩
        case measure => simp [intOf]; omega
      · have ht : ltInt (G i') (G a) = false := by assumption
        have hi2 : Hid (i' = scanUp (fun x => ltInt x dk[a]!) dk j i) := (scanUp_end (fun x => ltInt x dk[a]!) dk j i' (Or.inr (by rw [← HG.out a, ← HG.out i']; exact ht))).symm.trans hsc.out
        clear ht
        have AS2 := Lib.hid (SW.drewN AS.out nq)
        clear cw fw AS hsc
        have AS := AS2
        clear AS2
        go_loopw [11] (fun vj w2 => ∃ (j' : Nat), vj = .int .i64 j' ∧ j' ≤ j ∧ i' ≤ j' + 1 ∧ Hid (SR w0 blk off dk w2) ∧ Hid (scanDown (fun x => !ltInt x dk[a]!) dk i' j' = scanDown (fun x => !ltInt x dk[a]!) dk i' j)) (fun vj _ => (intOf vj).toNat)
        case atStart => exact ⟨j, rfl, Nat.le_refl _, hij', AS, rfl⟩
        case round =>
          clear AS
          obtain ⟨j', rfl, hjj, hij2, AS, hsd⟩ := hrel
          have cw := SR.cells AS.out R (by rw [HS.out, HD0.out]) HS.out HG.out
          have fw := SR.free AS.out R (by rw [HS.out, HD0.out]) HS.out
          by_cases hle2 : i' ≤ j'
          · go_wp2_with fail
            go_big_quiet (first | (go_at_call 156; refine Calls.quiet_of_same (cmpless_any _ _ _)))
            go_wp2
            · have ht : (!ltInt (G j') (G a)) = true := by assumption
              go_roundw
              case rel => exact ⟨j' - 1, by go_num, by omega, by omega, SW.drewN AS.out nq, (show _ = _ from (scanDown_go (fun x => !ltInt x dk[a]!) dk i' j' hle2 (by omega) (by rw [← HG.out a, ← HG.out j']; exact ht)).symm.trans hsd.out)⟩
              case measure => simp [intOf]; omega
            · have ht : (!ltInt (G j') (G a)) = false := by assumption
              have hj2 : Hid (j' = scanDown (fun x => !ltInt x dk[a]!) dk i' j) := (scanDown_end (fun x => !ltInt x dk[a]!) dk i' j' (Or.inr (by rw [← HG.out a, ← HG.out j']; exact ht))).symm.trans hsd.out
              have AS3 := Lib.hid (SW.drewN AS.out nq)
              clear cw fw hsd ht AS
              have AS := AS3
              clear AS3
              generalize wr.drewN nq = W3 at AS ⊢
              have cw := SR.cells AS.out R (by rw [HS.out, HD0.out]) HS.out HG.out
              have fw := SR.free AS.out R (by rw [HS.out, HD0.out]) HS.out
              have hlt3 := part_scans_lt ltInt a i j dk (by omega) hi2.out hj2.out hle2
              obtain ⟨u3, cu3⟩ := SW.c2 AS.out R (by rw [HS.out, HD0.out]) i' j' (by rw [HS.out]; omega) (by rw [HS.out]; omega) (.int .i32 (G j'))
              go_wp2
              go_region
              all_goals go_wp2
              have SX : SR w0 blk off (swp dk i' j') _ := SW.swapped AS.out R i' j' (by rw [HS.out]; omega) (by rw [HS.out]; omega)
              rw [← HG.out, ← HG.out] at SX
              have AX := Lib.hid SX
              clear SX
              have hQ := part_first_go ltInt d a b pivot HI.out HJ.out HDK.out hi2.out hj2.out (by omega)
              obtain ⟨Q, hQ2⟩ : ∃ Q, Q = partLoop ltInt a (i' + 1) (j' - 1) (swp dk i' j') := ⟨_, rfl⟩
              rw [← hQ2] at hQ
              have HRR := Lib.hid hQ; have HQ := Lib.hid hQ2
              have hsX : (swp dk i' j').size = n := by rw [size_swp]; exact HS.out
              have HSX := Lib.hid hsX
              clear hQ hQ2 hsX cw fw cu3 AS hi2 hj2 HI HJ HDK
              go_loopw [10, 11] (fun vi vj wr => ∃ (i j : Nat) (dk : Array Int), vi = .int .i64 i ∧ vj = .int .i64 j ∧ a < i ∧ i ≤ j + 1 ∧ j < b ∧ Hid (dk.size = n) ∧ Hid (SR w0 blk off dk wr) ∧ Hid (partLoop ltInt a i j dk = Q))
                (fun vi vj _ => (intOf vj).toNat + 1 - (intOf vi).toNat)
              case atStart => exact ⟨i' + 1, j' - 1, swp dk i' j', by go_num, by go_num, by omega, by omega, by omega, HSX, AX, HQ.out.symm⟩
              case round =>
                clear AX HQ HSX HS HG
                clear hij hjb hai hle hle2 hij' hjj hij2 hlt3 hii
                obtain ⟨i, j, dk, rfl, rfl, hai, hij, hjb, HS, AS, AE⟩ := hrel
                obtain ⟨G, hG⟩ : ∃ G : Nat → Int, ∀ t, G t = dk[t]! := ⟨fun t => dk[t]!, fun _ => rfl⟩
                have HG := Lib.hid hG
                clear hG
                go_wp2
                go_loopw [10] (fun vi w1 => ∃ (i' : Nat), vi = .int .i64 i' ∧ i ≤ i' ∧ i' ≤ j + 1 ∧ Hid (SR w0 blk off dk w1) ∧ Hid (scanUp (fun x => ltInt x dk[a]!) dk j i' = scanUp (fun x => ltInt x dk[a]!) dk j i)) (fun vi _ => j + 1 - (intOf vi).toNat)
                case atStart => exact ⟨i, rfl, Nat.le_refl _, hij, AS, rfl⟩
                case round =>
                  clear AS
                  obtain ⟨i', rfl, hii, hij', AS, hsc⟩ := hrel
                  have cw := SR.cells AS.out R (by rw [HS.out, HD0.out]) HS.out HG.out
                  have fw := SR.free AS.out R (by rw [HS.out, HD0.out]) HS.out
                  by_cases hle : i' ≤ j
                  · go_wp2_with fail
                    go_big_quiet (first | (go_at_call 156; refine Calls.quiet_of_same (cmpless_any _ _ _)))
                    go_wp2
                    · have ht : ltInt (G i') (G a) = true := by assumption
                      go_roundw
                      case rel => exact ⟨i' + 1, by go_num, by omega, by omega, SW.drewN AS.out nq, (show _ = _ from (scanUp_go (fun x => ltInt x dk[a]!) dk j i' hle (by rw [← HG.out a, ← HG.out i']; exact ht)).symm.trans hsc.out)⟩
                      case measure => simp [intOf]; omega
                    · have ht : ltInt (G i') (G a) = false := by assumption
                      have hi2 : Hid (i' = scanUp (fun x => ltInt x dk[a]!) dk j i) := (scanUp_end (fun x => ltInt x dk[a]!) dk j i' (Or.inr (by rw [← HG.out a, ← HG.out i']; exact ht))).symm.trans hsc.out
                      clear ht
                      have AS2 := Lib.hid (SW.drewN AS.out nq)
                      clear cw fw AS hsc
                      have AS := AS2
                      clear AS2
                      go_loopw [11] (fun vj w2 => ∃ (j' : Nat), vj = .int .i64 j' ∧ j' ≤ j ∧ i' ≤ j' + 1 ∧ Hid (SR w0 blk off dk w2) ∧ Hid (scanDown (fun x => !ltInt x dk[a]!) dk i' j' = scanDown (fun x => !ltInt x dk[a]!) dk i' j)) (fun vj _ => (intOf vj).toNat)
                      case atStart => exact ⟨j, rfl, Nat.le_refl _, hij', AS, rfl⟩
                      case round =>
                        clear AS
                        obtain ⟨j', rfl, hjj, hij2, AS, hsd⟩ := hrel
                        have cw := SR.cells AS.out R (by rw [HS.out, HD0.out]) HS.out HG.out
                        have fw := SR.free AS.out R (by rw [HS.out, HD0.out]) HS.out
                        by_cases hle2 : i' ≤ j'
                        · go_wp2_with fail
                          go_big_quiet (first | (go_at_call 156; refine Calls.quiet_of_same (cmpless_any _ _ _)))
                          go_wp2
                          · have ht : (!ltInt (G j') (G a)) = true := by assumption
                            go_roundw
                            case rel => exact ⟨j' - 1, by go_num, by omega, by omega, SW.drewN AS.out nq, (show _ = _ from (scanDown_go (fun x => !ltInt x dk[a]!) dk i' j' hle2 (by omega) (by rw [← HG.out a, ← HG.out j']; exact ht)).symm.trans hsd.out)⟩
                            case measure => simp [intOf]; omega
                          · have ht : (!ltInt (G j') (G a)) = false := by assumption
                            have hj2 : Hid (j' = scanDown (fun x => !ltInt x dk[a]!) dk i' j) := (scanDown_end (fun x => !ltInt x dk[a]!) dk i' j' (Or.inr (by rw [← HG.out a, ← HG.out j']; exact ht))).symm.trans hsd.out
                            have AS3 := Lib.hid (SW.drewN AS.out nq)
                            clear cw fw hsd ht AS
                            have AS := AS3
                            clear AS3
                            generalize wr.drewN nq = W3 at AS ⊢
                            have cw := SR.cells AS.out R (by rw [HS.out, HD0.out]) HS.out HG.out
                            have fw := SR.free AS.out R (by rw [HS.out, HD0.out]) HS.out
                            have hlt3 := part_scans_lt ltInt a i j dk (by omega) hi2.out hj2.out hle2
                            obtain ⟨u3, cu3⟩ := SW.c2 AS.out R (by rw [HS.out, HD0.out]) i' j' (by rw [HS.out]; omega) (by rw [HS.out]; omega) (.int .i32 (G j'))
                            go_wp2
                            go_region
                            all_goals go_wp2
                            have SX : SR w0 blk off (swp dk i' j') _ := SW.swapped AS.out R i' j' (by rw [HS.out]; omega) (by rw [HS.out]; omega)
                            rw [← HG.out, ← HG.out] at SX
                            have AX := Lib.hid SX
                            clear SX
                            go_roundw
                            case rel => exact ⟨i' + 1, j' - 1, swp dk i' j', by go_num, by go_num, by omega, by omega, by omega, (show _ = _ from by rw [size_swp]; exact HS.out), AX, (show _ = _ from by rw [← AE.out]; exact (part_go ltInt a i j dk hi2.out hj2.out (by omega)).symm)⟩
                            case measure => simp [intOf]; omega
                        · go_wp2_with fail
                          go_big_quiet (first | (go_at_call 156; refine Calls.quiet_of_same (cmpless_any _ _ _)))
                          have hj2 : Hid (j' = scanDown (fun x => !ltInt x dk[a]!) dk i' j) := (scanDown_end (fun x => !ltInt x dk[a]!) dk i' j' (Or.inl hle2)).symm.trans hsd.out
                          have AS3 := Lib.hid (SW.drewN AS.out nq)
                          clear cw fw hsd AS
                          have AS := AS3
                          clear AS3
                          generalize wr.drewN nq = W3 at AS ⊢
                          have cw := SR.cells AS.out R (by rw [HS.out, HD0.out]) HS.out HG.out
                          have fw := SR.free AS.out R (by rw [HS.out, HD0.out]) HS.out
                          obtain ⟨u4, cu4⟩ := SW.c2 AS.out R (by rw [HS.out, HD0.out]) j' a (by rw [HS.out]; omega) (by rw [HS.out]; omega) (.int .i32 (G a))
                          go_wp2
                          go_region
                          all_goals go_wp2
                          have SX : SR w0 blk off (swp dk j' a) _ := SW.swapped AS.out R j' a (by rw [HS.out]; omega) (by rw [HS.out]; omega)
                          rw [← HG.out a, ← HG.out j'] at SX
                          go_ret2
                          have e := part_break ltInt a i j dk hi2.out hj2.out (by omega)
                          rw [HRR.out]
                          rw [← AE.out, e]
                          exact ⟨rfl, SX⟩
                  · go_wp2_with fail
                    go_big_quiet (first | (go_at_call 156; refine Calls.quiet_of_same (cmpless_any _ _ _)))
                    go_wp2
                    have hi2 : Hid (i' = scanUp (fun x => ltInt x dk[a]!) dk j i) := (scanUp_end (fun x => ltInt x dk[a]!) dk j i' (Or.inl hle)).symm.trans hsc.out
                    have AS2 := Lib.hid (SW.drewN AS.out nq)
                    clear cw fw AS hsc
                    have AS := AS2
                    clear AS2
                    go_loopw [11] (fun vj w2 => ∃ (j' : Nat), vj = .int .i64 j' ∧ j' ≤ j ∧ i' ≤ j' + 1 ∧ Hid (SR w0 blk off dk w2) ∧ Hid (scanDown (fun x => !ltInt x dk[a]!) dk i' j' = scanDown (fun x => !ltInt x dk[a]!) dk i' j)) (fun vj _ => (intOf vj).toNat)
                    case atStart => exact ⟨j, rfl, Nat.le_refl _, hij', AS, rfl⟩
                    case round =>
                      clear AS
                      obtain ⟨j', rfl, hjj, hij2, AS, hsd⟩ := hrel
                      have cw := SR.cells AS.out R (by rw [HS.out, HD0.out]) HS.out HG.out
                      have fw := SR.free AS.out R (by rw [HS.out, HD0.out]) HS.out
                      by_cases hle2 : i' ≤ j'
                      · exfalso; omega
                      · go_wp2_with fail
                        go_big_quiet (first | (go_at_call 156; refine Calls.quiet_of_same (cmpless_any _ _ _)))
                        have hj2 : Hid (j' = scanDown (fun x => !ltInt x dk[a]!) dk i' j) := (scanDown_end (fun x => !ltInt x dk[a]!) dk i' j' (Or.inl hle2)).symm.trans hsd.out
                        have AS3 := Lib.hid (SW.drewN AS.out nq)
                        clear cw fw hsd AS
                        have AS := AS3
                        clear AS3
                        generalize wr.drewN nq = W3 at AS ⊢
                        have cw := SR.cells AS.out R (by rw [HS.out, HD0.out]) HS.out HG.out
                        have fw := SR.free AS.out R (by rw [HS.out, HD0.out]) HS.out
                        obtain ⟨u4, cu4⟩ := SW.c2 AS.out R (by rw [HS.out, HD0.out]) j' a (by rw [HS.out]; omega) (by rw [HS.out]; omega) (.int .i32 (G a))
                        go_wp2
                        go_region
                        all_goals go_wp2
                        have SX : SR w0 blk off (swp dk j' a) _ := SW.swapped AS.out R j' a (by rw [HS.out]; omega) (by rw [HS.out]; omega)
                        rw [← HG.out a, ← HG.out j'] at SX
                        go_ret2
                        have e := part_break ltInt a i j dk hi2.out hj2.out (by omega)
                        rw [HRR.out]
                        rw [← AE.out, e]
                        exact ⟨rfl, SX⟩
          · go_wp2_with fail
            go_big_quiet (first | (go_at_call 156; refine Calls.quiet_of_same (cmpless_any _ _ _)))
            have hj2 : Hid (j' = scanDown (fun x => !ltInt x dk[a]!) dk i' j) := (scanDown_end (fun x => !ltInt x dk[a]!) dk i' j' (Or.inl hle2)).symm.trans hsd.out
            have AS3 := Lib.hid (SW.drewN AS.out nq)
            clear cw fw hsd AS
            have AS := AS3
            clear AS3
            generalize wr.drewN nq = W3 at AS ⊢
            have cw := SR.cells AS.out R (by rw [HS.out, HD0.out]) HS.out HG.out
            have fw := SR.free AS.out R (by rw [HS.out, HD0.out]) HS.out
            obtain ⟨u4, cu4⟩ := SW.c2 AS.out R (by rw [HS.out, HD0.out]) j' a (by rw [HS.out]; omega) (by rw [HS.out]; omega) (.int .i32 (G a))
            go_wp2
            go_region
            all_goals go_wp2
            have SX : SR w0 blk off (swp dk j' a) _ := SW.swapped AS.out R j' a (by rw [HS.out]; omega) (by rw [HS.out]; omega)
            rw [← HG.out a, ← HG.out j'] at SX
            go_ret2
            have e := part_first_break ltInt d a b pivot HI.out HJ.out HDK.out hi2.out hj2.out (by omega)
            rw [e]
            exact ⟨rfl, SX⟩
    · go_wp2_with fail
      go_big_quiet (first | (go_at_call 156; refine Calls.quiet_of_same (cmpless_any _ _ _)))
      go_wp2
      have hi2 : Hid (i' = scanUp (fun x => ltInt x dk[a]!) dk j i) := (scanUp_end (fun x => ltInt x dk[a]!) dk j i' (Or.inl hle)).symm.trans hsc.out
      have AS2 := Lib.hid (SW.drewN AS.out nq)
      clear cw fw AS hsc
      have AS := AS2
      clear AS2
      go_loopw [11] (fun vj w2 => ∃ (j' : Nat), vj = .int .i64 j' ∧ j' ≤ j ∧ i' ≤ j' + 1 ∧ Hid (SR w0 blk off dk w2) ∧ Hid (scanDown (fun x => !ltInt x dk[a]!) dk i' j' = scanDown (fun x => !ltInt x dk[a]!) dk i' j)) (fun vj _ => (intOf vj).toNat)
      case atStart => exact ⟨j, rfl, Nat.le_refl _, hij', AS, rfl⟩
      case round =>
        clear AS
        obtain ⟨j', rfl, hjj, hij2, AS, hsd⟩ := hrel
        have cw := SR.cells AS.out R (by rw [HS.out, HD0.out]) HS.out HG.out
        have fw := SR.free AS.out R (by rw [HS.out, HD0.out]) HS.out
        by_cases hle2 : i' ≤ j'
        · exfalso; omega
        · go_wp2_with fail
          go_big_quiet (first | (go_at_call 156; refine Calls.quiet_of_same (cmpless_any _ _ _)))
          have hj2 : Hid (j' = scanDown (fun x => !ltInt x dk[a]!) dk i' j) := (scanDown_end (fun x => !ltInt x dk[a]!) dk i' j' (Or.inl hle2)).symm.trans hsd.out
          have AS3 := Lib.hid (SW.drewN AS.out nq)
          clear cw fw hsd AS
          have AS := AS3
          clear AS3
          generalize wr.drewN nq = W3 at AS ⊢
          have cw := SR.cells AS.out R (by rw [HS.out, HD0.out]) HS.out HG.out
          have fw := SR.free AS.out R (by rw [HS.out, HD0.out]) HS.out
          obtain ⟨u4, cu4⟩ := SW.c2 AS.out R (by rw [HS.out, HD0.out]) j' a (by rw [HS.out]; omega) (by rw [HS.out]; omega) (.int .i32 (G a))
          go_wp2
          go_region
          all_goals go_wp2
          have SX : SR w0 blk off (swp dk j' a) _ := SW.swapped AS.out R j' a (by rw [HS.out]; omega) (by rw [HS.out]; omega)
          rw [← HG.out a, ← HG.out j'] at SX
          go_ret2
          have e := part_first_break ltInt d a b pivot HI.out HJ.out HDK.out hi2.out hj2.out (by omega)
          rw [e]
          exact ⟨rfl, SX⟩

end Go.Proofs.YtcibjgkifafohaaDoor
