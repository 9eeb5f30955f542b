/-
  slices.Sort AT []rune: partialInsertionSortOrdered. (Laid by program.)
-/
import Derived.Test.YtcibjgkifafohaaDoorSort3
namespace Go.Proofs.YtcibjgkifafohaaDoor
open Go.RowKit Go.Lib Go.Sort
set_option linter.unusedVariables false

set_option maxHeartbeats 12800000 in
set_option maxRecDepth 100000 in
theorem pins_any (blk off cap a b n : Nat) (d0 d : Array Int) (w0 w : World) (R : RowR w0 blk off d0) (S : SR w0 blk off d w) (hd0 : d0.size = n) (hd : d.size = n) (hab : a < b) (hb : b ≤ n) (hsz : n < 4611686018427387904) :
    Calls Tryd.prog 155 #[.slice (some ⟨blk, off, none⟩) n cap, .int .i64 a, .int .i64 b] w fun e w' => e = .returned (.bool (partialInsertionSort ltInt d a b).2) ∧ SR w0 blk off (partialInsertionSort ltInt d a b).1 w' := by
  have HD := Lib.hid hd; have HD0 := Lib.hid hd0; have S0 := Lib.hid S
  clear hd hd0 S
  go_enter Tryd.func155, Tryd.ntmps155
  go_wp2
  go_loopw [7, 8] (fun vi vs wr => ∃ (i s : Nat) (dk : Array Int), vi = .int .i64 i ∧ vs = .int .i64 s ∧ s ≤ 5 ∧ a < i ∧ i ≤ b ∧ Hid (dk.size = n) ∧ Hid (SR w0 blk off dk wr) ∧ Hid (partialIns ltInt a b (5 - s) i dk = partialIns ltInt a b 5 (a + 1) d)) (fun _ vs _ => 5 - (intOf vs).toNat)
  case atStart => exact ⟨a + 1, 0, d, by go_num, rfl, by omega, by omega, by omega, HD, S0, rfl⟩
  case round =>
    clear S0
    obtain ⟨i, s, dk, rfl, rfl, hs5, hai, hib, HS, AS, HO⟩ := hrel
    by_cases hs5' : s < 5
    · have hs5d : decide ((s : Int) < 5) = true := decide_eq_true (by omega)
      go_wp2
      go_loopw [7] (fun vi w2 => ∃ (k : Nat), vi = .int .i64 k ∧ i ≤ k ∧ k ≤ b ∧ Hid (SR w0 blk off dk w2) ∧ Hid (scanSorted ltInt dk b k = scanSorted ltInt dk b i)) (fun vi _ => b - (intOf vi).toNat)
      case atStart => exact ⟨i, rfl, Nat.le_refl _, hib, AS, rfl⟩
      case round =>
        clear AS
        obtain ⟨k, rfl, hik, hkb, AS, HSc⟩ := hrel
        obtain ⟨G, hG⟩ : ∃ G : Nat → Int, ∀ t, G t = dk[t]! := ⟨fun t => dk[t]!, fun _ => rfl⟩
        have HG := Lib.hid hG
        clear hG
        have cw := SR.cells AS.out R (by rw [HS.out, HD0.out]) HS.out HG.out
        have fw := SR.free AS.out R (by rw [HS.out, HD0.out]) HS.out
        by_cases hkb' : k < b
        · have hkbz : ((k : Int) == (b : Int)) = false := by simp; omega
          by_cases h50 : b - a < 50
          · have h50z : (b : Int) - (a : Int) < 50 := by omega
            go_wp2_with fail
            go_big_quiet (first | (go_at_call 156; refine Calls.quiet_of_same (cmpless_any _ _ _)))
            go_wp2_with fail
            · have hl : ltInt (G k) (G (k - 1)) = false := by
                have h : (!ltInt (G k) (G (k - 1))) = true := by assumption
                simpa using h
              rw [HG.out, HG.out] at hl
              go_roundw
              case rel => exact ⟨k + 1, by go_num, by omega, by omega, SW.drewN AS.out nq, (show _ = _ from by rw [← HSc.out, scanSorted_go ltInt dk b k hkb' hl])⟩
              case measure => simp [intOf]; omega
            · have hl : ltInt (G k) (G (k - 1)) = true := by
                have h : (!ltInt (G k) (G (k - 1))) = false := by assumption
                simpa using h
              rw [HG.out, HG.out] at hl
              have hv : partialInsertionSort ltInt d a b = (dk, false) := by
                unfold partialInsertionSort
                rw [← HO.out, pi_short ltInt a b s i dk hs5' (by rw [← HSc.out, scanSorted_stop ltInt dk b k (Or.inr hl)]; omega) h50]
              rw [hv]
              go_ret
              exact ⟨rfl, SW.drewN AS.out nq⟩
          · have h50z : ¬ (b : Int) - (a : Int) < 50 := by omega
            have h50d : decide ((b : Int) - (a : Int) < 50) = false := decide_eq_false h50z
            go_wp2_with fail
            go_big_quiet (first | (go_at_call 156; refine Calls.quiet_of_same (cmpless_any _ _ _)))
            go_wp2_with fail
            · have hl : ltInt (G k) (G (k - 1)) = false := by
                have h : (!ltInt (G k) (G (k - 1))) = true := by assumption
                simpa using h
              rw [HG.out, HG.out] at hl
              go_roundw
              case rel => exact ⟨k + 1, by go_num, by omega, by omega, SW.drewN AS.out nq, (show _ = _ from by rw [← HSc.out, scanSorted_go ltInt dk b k hkb' hl])⟩
              case measure => simp [intOf]; omega
            · have hl : ltInt (G k) (G (k - 1)) = true := by
                have h : (!ltInt (G k) (G (k - 1))) = false := by assumption
                simpa using h
              rw [HG.out, HG.out] at hl
              have HK : Hid (scanSorted ltInt dk b i = k) := (show _ = _ from by rw [← HSc.out, scanSorted_stop ltInt dk b k (Or.inr hl)])
              clear hl
              by_cases hbk : 2 ≤ b - k
              · have hbkz : (2 : Int) ≤ (b : Int) - (k : Int) := by omega
                have hbkd : decide ((2 : Int) ≤ (b : Int) - (k : Int)) = true := decide_eq_true hbkz
                go_region
                have SX := SW.swapped (SW.drewN AS.out nq) R k (k - 1) (by rw [HS.out]; omega) (by rw [HS.out]; omega)
                rw [← HG.out, ← HG.out] at SX
                have AX := Lib.hid SX
                clear SX AS cw fw
                have AS := AX
                clear AX
                obtain ⟨dj0, hdj0⟩ : ∃ x, x = swp dk k (k - 1) := ⟨_, rfl⟩
                have hsj0 : dj0.size = n := by rw [hdj0, size_swp]; exact HS.out
                rw [← hdj0] at AS
                have HS0 := Lib.hid hsj0
                have HDJ := Lib.hid hdj0
                clear hsj0 hdj0
                by_cases hka : 2 ≤ k - a
                · have hkaz : (2 : Int) ≤ (k : Int) - (a : Int) := by omega
                  have hkad : decide ((2 : Int) ≤ (k : Int) - (a : Int)) = true := decide_eq_true hkaz
                  go_wp2
                  go_loopw [9] (fun vj w2 => ∃ (j : Nat) (dj : Array Int), vj = .int .i64 j ∧ j ≤ k - 1 ∧ Hid (dj.size = n) ∧ Hid (SR w0 blk off dj w2) ∧ Hid (shiftDown ltInt j dj = shiftDown ltInt (k - 1) dj0)) (fun vj _ => (intOf vj).toNat)
                  case atStart => exact ⟨k - 1, dj0, by congr 1; omega, Nat.le_refl _, HS0, AS, rfl⟩
                  case round =>
                    clear AS HG
                    obtain ⟨j, dj, rfl, hjk, HSj, AS, HDw⟩ := hrel
                    by_cases hj1 : 1 ≤ j
                    · obtain ⟨G, hG⟩ : ∃ G : Nat → Int, ∀ t, G t = dj[t]! := ⟨fun t => dj[t]!, fun _ => rfl⟩
                      have HG := Lib.hid hG
                      clear hG
                      have cw := SR.cells AS.out R (by rw [HSj.out, HD0.out]) HSj.out HG.out
                      have fw := SR.free AS.out R (by rw [HSj.out, HD0.out]) HSj.out
                      go_wp2_with fail
                      go_big_quiet (first | (go_at_call 156; refine Calls.quiet_of_same (cmpless_any _ _ _)))
                      go_wp2_with fail
                      · have hl : ltInt (G j) (G (j - 1)) = false := by
                          have h : (!ltInt (G j) (G (j - 1))) = true := by assumption
                          simpa using h
                        rw [HG.out, HG.out] at hl
                        have AS2 := Lib.hid (SW.drewN AS.out nq)
                        have HDn : Hid (fixDown ltInt a k (swp dk k (k - 1)) = dj) := (show _ = _ from by rw [← HDJ.out]; unfold fixDown; rw [if_pos (by omega), ← HDw.out, shiftDown_stop ltInt j dj (Or.inr hl)])
                        clear cw fw AS HG hl
                        have AS := AS2
                        clear AS2
                        go_wp2
                        go_loopw [10] (fun vj w2 => ∃ (j : Nat) (du : Array Int), vj = .int .i64 j ∧ k + 1 ≤ j ∧ j ≤ b ∧ Hid (du.size = n) ∧ Hid (SR w0 blk off du w2) ∧ Hid (shiftUp ltInt b j du = shiftUp ltInt b (k + 1) dj)) (fun vj _ => b - (intOf vj).toNat)
                        case atStart => exact ⟨k + 1, dj, by go_num, Nat.le_refl _, by omega, HSj, AS, rfl⟩
                        case round =>
                          clear AS
                          obtain ⟨j, du, rfl, hkj, hjb, HSu, AS, HU⟩ := hrel
                          by_cases hjb2 : j < b
                          · obtain ⟨G, hG⟩ : ∃ G : Nat → Int, ∀ t, G t = du[t]! := ⟨fun t => du[t]!, fun _ => rfl⟩
                            have HG := Lib.hid hG
                            clear hG
                            have cw := SR.cells AS.out R (by rw [HSu.out, HD0.out]) HSu.out HG.out
                            have fw := SR.free AS.out R (by rw [HSu.out, HD0.out]) HSu.out
                            go_wp2_with fail
                            go_big_quiet (first | (go_at_call 156; refine Calls.quiet_of_same (cmpless_any _ _ _)))
                            go_wp2_with fail
                            · have hl : ltInt (G j) (G (j - 1)) = false := by
                                have h : (!ltInt (G j) (G (j - 1))) = true := by assumption
                                simpa using h
                              rw [HG.out, HG.out] at hl
                              have AS2 := Lib.hid (SW.drewN AS.out nq)
                              clear cw fw AS
                              go_roundw
                              case rel =>
                                exact ⟨k, s + 1, du, rfl, by go_num, by omega, by omega, by omega, HSu, AS2, (show _ = _ from by rw [← HO.out, pi_go ltInt a b s i k dk hs5' HK.out (by omega) (by omega), HDn.out, show fixUp ltInt b k dj = du from by unfold fixUp; rw [if_pos (by omega), ← HU.out, shiftUp_stop ltInt b j du (Or.inr hl)]])⟩
                              case measure => simp [intOf]; omega
                            · have hl : ltInt (G j) (G (j - 1)) = true := by
                                have h : (!ltInt (G j) (G (j - 1))) = false := by assumption
                                simpa using h
                              go_region
                              all_goals go_wp2
                              rw [HG.out, HG.out] at hl
                              have SX := SW.swapped (SW.drewN AS.out nq) R j (j - 1) (by rw [HSu.out]; omega) (by rw [HSu.out]; omega)
                              rw [← HG.out, ← HG.out] at SX
                              have AX := Lib.hid SX
                              clear SX
                              go_roundw
                              case rel => exact ⟨j + 1, swp du j (j - 1), by go_num, by omega, by omega, (show _ = _ from by rw [size_swp]; exact HSu.out), AX, (show _ = _ from by rw [← HU.out, shiftUp_go ltInt b j du (by omega) hl])⟩
                              case measure => simp [intOf]; omega
                          · go_wp2
                            go_roundw
                            case rel =>
                              exact ⟨k, s + 1, du, rfl, by go_num, by omega, by omega, by omega, HSu, AS, (show _ = _ from by rw [← HO.out, pi_go ltInt a b s i k dk hs5' HK.out (by omega) (by omega), HDn.out, show fixUp ltInt b k dj = du from by unfold fixUp; rw [if_pos (by omega), ← HU.out, shiftUp_stop ltInt b j du (Or.inl (by omega))]])⟩
                            case measure => simp [intOf]; omega
                      · have hl : ltInt (G j) (G (j - 1)) = true := by
                          have h : (!ltInt (G j) (G (j - 1))) = false := by assumption
                          simpa using h
                        go_region
                        all_goals go_wp2
                        rw [HG.out, HG.out] at hl
                        have SX := SW.swapped (SW.drewN AS.out nq) R j (j - 1) (by rw [HSj.out]; omega) (by rw [HSj.out]; omega)
                        rw [← HG.out, ← HG.out] at SX
                        have AX := Lib.hid SX
                        clear SX
                        go_roundw
                        case rel => exact ⟨j - 1, swp dj j (j - 1), by congr 1; omega, by omega, (show _ = _ from by rw [size_swp]; exact HSj.out), AX, (show _ = _ from by rw [← HDw.out, shiftDown_go ltInt j dj (by omega) hl])⟩
                        case measure => simp [intOf]; omega
                    · have hj1z : ¬ (1 : Int) ≤ (j : Int) := by omega
                      have HDn : Hid (fixDown ltInt a k (swp dk k (k - 1)) = dj) := (show _ = _ from by rw [← HDJ.out]; unfold fixDown; rw [if_pos (by omega), ← HDw.out, shiftDown_stop ltInt j dj (Or.inl (by omega))])
                      go_wp2
                      go_loopw [10] (fun vj w2 => ∃ (j : Nat) (du : Array Int), vj = .int .i64 j ∧ k + 1 ≤ j ∧ j ≤ b ∧ Hid (du.size = n) ∧ Hid (SR w0 blk off du w2) ∧ Hid (shiftUp ltInt b j du = shiftUp ltInt b (k + 1) dj)) (fun vj _ => b - (intOf vj).toNat)
                      case atStart => exact ⟨k + 1, dj, by go_num, Nat.le_refl _, by omega, HSj, AS, rfl⟩
                      case round =>
                        clear AS
                        obtain ⟨j, du, rfl, hkj, hjb, HSu, AS, HU⟩ := hrel
                        by_cases hjb2 : j < b
                        · obtain ⟨G, hG⟩ : ∃ G : Nat → Int, ∀ t, G t = du[t]! := ⟨fun t => du[t]!, fun _ => rfl⟩
                          have HG := Lib.hid hG
                          clear hG
                          have cw := SR.cells AS.out R (by rw [HSu.out, HD0.out]) HSu.out HG.out
                          have fw := SR.free AS.out R (by rw [HSu.out, HD0.out]) HSu.out
                          go_wp2_with fail
                          go_big_quiet (first | (go_at_call 156; refine Calls.quiet_of_same (cmpless_any _ _ _)))
                          go_wp2_with fail
                          · have hl : ltInt (G j) (G (j - 1)) = false := by
                              have h : (!ltInt (G j) (G (j - 1))) = true := by assumption
                              simpa using h
                            rw [HG.out, HG.out] at hl
                            have AS2 := Lib.hid (SW.drewN AS.out nq)
                            clear cw fw AS
                            go_roundw
                            case rel =>
                              exact ⟨k, s + 1, du, rfl, by go_num, by omega, by omega, by omega, HSu, AS2, (show _ = _ from by rw [← HO.out, pi_go ltInt a b s i k dk hs5' HK.out (by omega) (by omega), HDn.out, show fixUp ltInt b k dj = du from by unfold fixUp; rw [if_pos (by omega), ← HU.out, shiftUp_stop ltInt b j du (Or.inr hl)]])⟩
                            case measure => simp [intOf]; omega
                          · have hl : ltInt (G j) (G (j - 1)) = true := by
                              have h : (!ltInt (G j) (G (j - 1))) = false := by assumption
                              simpa using h
                            go_region
                            all_goals go_wp2
                            rw [HG.out, HG.out] at hl
                            have SX := SW.swapped (SW.drewN AS.out nq) R j (j - 1) (by rw [HSu.out]; omega) (by rw [HSu.out]; omega)
                            rw [← HG.out, ← HG.out] at SX
                            have AX := Lib.hid SX
                            clear SX
                            go_roundw
                            case rel => exact ⟨j + 1, swp du j (j - 1), by go_num, by omega, by omega, (show _ = _ from by rw [size_swp]; exact HSu.out), AX, (show _ = _ from by rw [← HU.out, shiftUp_go ltInt b j du (by omega) hl])⟩
                            case measure => simp [intOf]; omega
                        · go_wp2
                          go_roundw
                          case rel =>
                            exact ⟨k, s + 1, du, rfl, by go_num, by omega, by omega, by omega, HSu, AS, (show _ = _ from by rw [← HO.out, pi_go ltInt a b s i k dk hs5' HK.out (by omega) (by omega), HDn.out, show fixUp ltInt b k dj = du from by unfold fixUp; rw [if_pos (by omega), ← HU.out, shiftUp_stop ltInt b j du (Or.inl (by omega))]])⟩
                          case measure => simp [intOf]; omega
                · have hkaz : ¬ (2 : Int) ≤ (k : Int) - (a : Int) := by omega
                  have hkad : decide ((2 : Int) ≤ (k : Int) - (a : Int)) = false := decide_eq_false hkaz
                  obtain ⟨dj, hdj⟩ : ∃ x, x = dj0 := ⟨_, rfl⟩
                  have HSj : Hid (dj.size = n) := (show _ = _ from by rw [hdj]; exact HS0.out)
                  have HDn : Hid (fixDown ltInt a k (swp dk k (k - 1)) = dj) := (show _ = _ from by rw [← HDJ.out]; unfold fixDown; rw [if_neg (by omega), hdj])
                  rw [← hdj] at AS
                  clear hdj
                  go_wp2
                  go_loopw [10] (fun vj w2 => ∃ (j : Nat) (du : Array Int), vj = .int .i64 j ∧ k + 1 ≤ j ∧ j ≤ b ∧ Hid (du.size = n) ∧ Hid (SR w0 blk off du w2) ∧ Hid (shiftUp ltInt b j du = shiftUp ltInt b (k + 1) dj)) (fun vj _ => b - (intOf vj).toNat)
                  case atStart => exact ⟨k + 1, dj, by go_num, Nat.le_refl _, by omega, HSj, AS, rfl⟩
                  case round =>
                    clear AS
                    obtain ⟨j, du, rfl, hkj, hjb, HSu, AS, HU⟩ := hrel
                    by_cases hjb2 : j < b
                    · obtain ⟨G, hG⟩ : ∃ G : Nat → Int, ∀ t, G t = du[t]! := ⟨fun t => du[t]!, fun _ => rfl⟩
                      have HG := Lib.hid hG
                      clear hG
                      have cw := SR.cells AS.out R (by rw [HSu.out, HD0.out]) HSu.out HG.out
                      have fw := SR.free AS.out R (by rw [HSu.out, HD0.out]) HSu.out
                      go_wp2_with fail
                      go_big_quiet (first | (go_at_call 156; refine Calls.quiet_of_same (cmpless_any _ _ _)))
                      go_wp2_with fail
                      · have hl : ltInt (G j) (G (j - 1)) = false := by
                          have h : (!ltInt (G j) (G (j - 1))) = true := by assumption
                          simpa using h
                        rw [HG.out, HG.out] at hl
                        have AS2 := Lib.hid (SW.drewN AS.out nq)
                        clear cw fw AS
                        go_roundw
                        case rel =>
                          exact ⟨k, s + 1, du, rfl, by go_num, by omega, by omega, by omega, HSu, AS2, (show _ = _ from by rw [← HO.out, pi_go ltInt a b s i k dk hs5' HK.out (by omega) (by omega), HDn.out, show fixUp ltInt b k dj = du from by unfold fixUp; rw [if_pos (by omega), ← HU.out, shiftUp_stop ltInt b j du (Or.inr hl)]])⟩
                        case measure => simp [intOf]; omega
                      · have hl : ltInt (G j) (G (j - 1)) = true := by
                          have h : (!ltInt (G j) (G (j - 1))) = false := by assumption
                          simpa using h
                        go_region
                        all_goals go_wp2
                        rw [HG.out, HG.out] at hl
                        have SX := SW.swapped (SW.drewN AS.out nq) R j (j - 1) (by rw [HSu.out]; omega) (by rw [HSu.out]; omega)
                        rw [← HG.out, ← HG.out] at SX
                        have AX := Lib.hid SX
                        clear SX
                        go_roundw
                        case rel => exact ⟨j + 1, swp du j (j - 1), by go_num, by omega, by omega, (show _ = _ from by rw [size_swp]; exact HSu.out), AX, (show _ = _ from by rw [← HU.out, shiftUp_go ltInt b j du (by omega) hl])⟩
                        case measure => simp [intOf]; omega
                    · go_wp2
                      go_roundw
                      case rel =>
                        exact ⟨k, s + 1, du, rfl, by go_num, by omega, by omega, by omega, HSu, AS, (show _ = _ from by rw [← HO.out, pi_go ltInt a b s i k dk hs5' HK.out (by omega) (by omega), HDn.out, show fixUp ltInt b k dj = du from by unfold fixUp; rw [if_pos (by omega), ← HU.out, shiftUp_stop ltInt b j du (Or.inl (by omega))]])⟩
                      case measure => simp [intOf]; omega
              · have hbkz : ¬ (2 : Int) ≤ (b : Int) - (k : Int) := by omega
                have hbkd : decide ((2 : Int) ≤ (b : Int) - (k : Int)) = false := decide_eq_false hbkz
                go_region
                have SX := SW.swapped (SW.drewN AS.out nq) R k (k - 1) (by rw [HS.out]; omega) (by rw [HS.out]; omega)
                rw [← HG.out, ← HG.out] at SX
                have AX := Lib.hid SX
                clear SX AS cw fw
                have AS := AX
                clear AX
                obtain ⟨dj0, hdj0⟩ : ∃ x, x = swp dk k (k - 1) := ⟨_, rfl⟩
                have hsj0 : dj0.size = n := by rw [hdj0, size_swp]; exact HS.out
                rw [← hdj0] at AS
                have HS0 := Lib.hid hsj0
                have HDJ := Lib.hid hdj0
                clear hsj0 hdj0
                by_cases hka : 2 ≤ k - a
                · have hkaz : (2 : Int) ≤ (k : Int) - (a : Int) := by omega
                  have hkad : decide ((2 : Int) ≤ (k : Int) - (a : Int)) = true := decide_eq_true hkaz
                  go_wp2
                  go_loopw [9] (fun vj w2 => ∃ (j : Nat) (dj : Array Int), vj = .int .i64 j ∧ j ≤ k - 1 ∧ Hid (dj.size = n) ∧ Hid (SR w0 blk off dj w2) ∧ Hid (shiftDown ltInt j dj = shiftDown ltInt (k - 1) dj0)) (fun vj _ => (intOf vj).toNat)
                  case atStart => exact ⟨k - 1, dj0, by congr 1; omega, Nat.le_refl _, HS0, AS, rfl⟩
                  case round =>
                    clear AS HG
                    obtain ⟨j, dj, rfl, hjk, HSj, AS, HDw⟩ := hrel
                    by_cases hj1 : 1 ≤ j
                    · obtain ⟨G, hG⟩ : ∃ G : Nat → Int, ∀ t, G t = dj[t]! := ⟨fun t => dj[t]!, fun _ => rfl⟩
                      have HG := Lib.hid hG
                      clear hG
                      have cw := SR.cells AS.out R (by rw [HSj.out, HD0.out]) HSj.out HG.out
                      have fw := SR.free AS.out R (by rw [HSj.out, HD0.out]) HSj.out
                      go_wp2_with fail
                      go_big_quiet (first | (go_at_call 156; refine Calls.quiet_of_same (cmpless_any _ _ _)))
                      go_wp2_with fail
                      · have hl : ltInt (G j) (G (j - 1)) = false := by
                          have h : (!ltInt (G j) (G (j - 1))) = true := by assumption
                          simpa using h
                        rw [HG.out, HG.out] at hl
                        have AS2 := Lib.hid (SW.drewN AS.out nq)
                        have HDn : Hid (fixDown ltInt a k (swp dk k (k - 1)) = dj) := (show _ = _ from by rw [← HDJ.out]; unfold fixDown; rw [if_pos (by omega), ← HDw.out, shiftDown_stop ltInt j dj (Or.inr hl)])
                        clear cw fw AS HG hl
                        have AS := AS2
                        clear AS2
                        go_wp2
                        go_roundw
                        case rel =>
                          exact ⟨k, s + 1, dj, rfl, by go_num, by omega, by omega, by omega, HSj, AS, (show _ = _ from by rw [← HO.out, pi_go ltInt a b s i k dk hs5' HK.out (by omega) (by omega), HDn.out, show fixUp ltInt b k dj = dj from by unfold fixUp; rw [if_neg (by omega)]])⟩
                        case measure => simp [intOf]; omega
                      · have hl : ltInt (G j) (G (j - 1)) = true := by
                          have h : (!ltInt (G j) (G (j - 1))) = false := by assumption
                          simpa using h
                        go_region
                        all_goals go_wp2
                        rw [HG.out, HG.out] at hl
                        have SX := SW.swapped (SW.drewN AS.out nq) R j (j - 1) (by rw [HSj.out]; omega) (by rw [HSj.out]; omega)
                        rw [← HG.out, ← HG.out] at SX
                        have AX := Lib.hid SX
                        clear SX
                        go_roundw
                        case rel => exact ⟨j - 1, swp dj j (j - 1), by congr 1; omega, by omega, (show _ = _ from by rw [size_swp]; exact HSj.out), AX, (show _ = _ from by rw [← HDw.out, shiftDown_go ltInt j dj (by omega) hl])⟩
                        case measure => simp [intOf]; omega
                    · have hj1z : ¬ (1 : Int) ≤ (j : Int) := by omega
                      have HDn : Hid (fixDown ltInt a k (swp dk k (k - 1)) = dj) := (show _ = _ from by rw [← HDJ.out]; unfold fixDown; rw [if_pos (by omega), ← HDw.out, shiftDown_stop ltInt j dj (Or.inl (by omega))])
                      go_wp2
                      go_roundw
                      case rel =>
                        exact ⟨k, s + 1, dj, rfl, by go_num, by omega, by omega, by omega, HSj, AS, (show _ = _ from by rw [← HO.out, pi_go ltInt a b s i k dk hs5' HK.out (by omega) (by omega), HDn.out, show fixUp ltInt b k dj = dj from by unfold fixUp; rw [if_neg (by omega)]])⟩
                      case measure => simp [intOf]; omega
                · have hkaz : ¬ (2 : Int) ≤ (k : Int) - (a : Int) := by omega
                  have hkad : decide ((2 : Int) ≤ (k : Int) - (a : Int)) = false := decide_eq_false hkaz
                  obtain ⟨dj, hdj⟩ : ∃ x, x = dj0 := ⟨_, rfl⟩
                  have HSj : Hid (dj.size = n) := (show _ = _ from by rw [hdj]; exact HS0.out)
                  have HDn : Hid (fixDown ltInt a k (swp dk k (k - 1)) = dj) := (show _ = _ from by rw [← HDJ.out]; unfold fixDown; rw [if_neg (by omega), hdj])
                  rw [← hdj] at AS
                  clear hdj
                  go_wp2
                  go_roundw
                  case rel =>
                    exact ⟨k, s + 1, dj, rfl, by go_num, by omega, by omega, by omega, HSj, AS, (show _ = _ from by rw [← HO.out, pi_go ltInt a b s i k dk hs5' HK.out (by omega) (by omega), HDn.out, show fixUp ltInt b k dj = dj from by unfold fixUp; rw [if_neg (by omega)]])⟩
                  case measure => simp [intOf]; omega
        · obtain rfl : k = b := by omega
          have hv : partialInsertionSort ltInt d a k = (dk, true) := by
            unfold partialInsertionSort
            rw [← HO.out, pi_true ltInt a k s i dk hs5' (by rw [← HSc.out, scanSorted_stop ltInt dk k k (Or.inl (by omega))])]
          have HV := Lib.hid hv
          clear hv
          go_wp2_with fail
          go_big_quiet (first | (go_at_call 156; refine Calls.quiet_of_same (cmpless_any _ _ _)))
          go_wp2
          rw [HV.out]
          go_ret
          exact ⟨rfl, SW.drewN AS.out nq⟩
    · obtain rfl : s = 5 := by omega
      have hv : partialInsertionSort ltInt d a b = (dk, false) := by
        unfold partialInsertionSort
        rw [← HO.out, pi_end]
      have HV := Lib.hid hv
      clear hv
      go_wp2
      rw [HV.out]
      go_ret
      exact ⟨rfl, AS.out⟩

end Go.Proofs.YtcibjgkifafohaaDoor
