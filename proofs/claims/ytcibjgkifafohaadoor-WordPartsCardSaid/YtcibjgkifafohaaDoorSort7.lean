/-
  slices.Sort AT []rune: pdqsortOrdered: it returns, the part is sorted, a permutation of what it was; all else is as it was but for new blocks.
-/
import Derived.Test.YtcibjgkifafohaaDoorSort6
import Derived.Test.YtcibjgkifafohaaDoorSortP
import Derived.Deep.Cut
namespace Go.Proofs.YtcibjgkifafohaaDoor
open Go.RowKit Go.Lib Go.Sort
set_option linter.unusedVariables false

def PdqPost (w0 : World) (blk off n a b : Nat) (d : Array Int) (e : Ending) (w' : World) : Prop :=
  ∃ d' : Array Int, e = .returned (.tuple #[]) ∧ d'.size = n ∧ PermIn a b d d' ∧ SortedIn ltInt a b d' ∧ SR w0 blk off d' w'

set_option maxHeartbeats 6400000 in
set_option maxRecDepth 1000000 in
theorem pdq_any : ∀ (N blk off cap a b limit n : Nat) (d0 d : Array Int) (w0 w : World), b - a < N → RowR w0 blk off d0 → SR w0 blk off d w → d0.size = n → d.size = n → a ≤ b → b ≤ n → n < 4611686018427387904 → limit < 4611686018427387904 → Ahead a b d →
    Calls Tryd.prog 145 #[.slice (some ⟨blk, off, none⟩) n cap, .int .i64 a, .int .i64 b, .int .i64 limit] w (PdqPost w0 blk off n a b d) := by
  intro N
  induction N with
  | zero => intro _ _ _ _ _ _ _ _ _ _ _ h; exact absurd h (Nat.not_lt_zero _)
  | succ N ih =>
    intro blk off cap a b limit n d0 d w0 w hN R S hd0 hd hab hb hsz hlimit hA
    have HD := Lib.hid hd; have HD0 := Lib.hid hd0; have S0 := Lib.hid S; have HA0 := Lib.hid hA
    have F0 : Hid (Fin' a b d a b d) := (show Fin' _ _ _ _ _ _ from fun d' h1 h2 => ⟨h1, h2⟩)
    have IH := Lib.hid ih
    clear hd hd0 S hA ih
    go_enter Tryd.func145, Tryd.ntmps145
    go_wp2
    go_loopg [1, 2, 3, 8, 9] (b - a) (fun k s1 s2 s3 s8 s9 wr => ∃ (a' b' lim : Nat) (wb wp : Bool) (dk : Array Int), s1 = .int .i64 a' ∧ s2 = .int .i64 b' ∧ s3 = .int .i64 lim ∧ s8 = .bool wb ∧ s9 = .bool wp ∧
      a' ≤ b' ∧ b' ≤ n ∧ b' - a' ≤ k ∧ k ≤ b - a ∧ lim ≤ limit ∧ Hid (dk.size = n) ∧ Hid (Ahead a' b' dk) ∧ Hid (SR w0 blk off dk wr) ∧ Hid (Fin' a b d a' b' dk))
    case atStart => exact ⟨a, b, limit, true, true, d, rfl, rfl, rfl, rfl, rfl, hab, hb, Nat.le_refl _, Nat.le_refl _, Nat.le_refl _, HD, HA0, S0, F0⟩
    case round =>
      clear S0 HA0 F0
      obtain ⟨a', b', lim, wb, wp, dk, rfl, rfl, rfl, rfl, rfl, hab', hb', hk, hkN, hlim, HS, HA, AS, HF⟩ := hrel
      by_cases h12 : b' - a' ≤ 12
      · have h12z : (b' : Int) - (a' : Int) ≤ 12 := by omega
        go_wp2_with fail
        refine (ins_any blk off cap a' b' n d0 dk w0 _ R AS.out HD0.out HS.out hab' hb' hsz).mono ?_
        rintro e w1 ⟨rfl, S1⟩
        have AS1 := Lib.hid S1
        clear S1
        go_wp2_with fail
        (try simp only [Exit.inBlock, Exit.then]); refine bodyPost_ret (results_none rfl _ _ _) rfl ?_
        obtain ⟨p1, p2⟩ := insertionSort_holds swo_ltInt dk a' b' hab' (by rw [HS.out]; exact hb')
        obtain ⟨q1, q2⟩ := HF.out _ p1 p2
        exact ⟨_, rfl, by rw [p1.1]; exact HS.out, q1, q2, AS1.out⟩
      · have h12z : ¬ ((b' : Int) - (a' : Int) ≤ 12) := by omega
        by_cases hl0 : lim = 0
        · subst hl0
          go_wp2_with fail
          refine (heap_any blk off cap a' b' n d0 dk w0 _ R AS.out HD0.out HS.out hab' hb' hsz).mono ?_
          rintro e w1 ⟨rfl, S1⟩
          have AS1 := Lib.hid S1
          clear S1
          go_wp2_with fail
          (try simp only [Exit.inBlock, Exit.then]); refine bodyPost_ret (results_none rfl _ _ _) rfl ?_
          obtain ⟨p1, p2⟩ := heapSort_holds swo_ltInt dk a' b' hab' (by rw [HS.out]; exact hb')
          obtain ⟨q1, q2⟩ := HF.out _ p1 p2
          exact ⟨_, rfl, by rw [p1.1]; exact HS.out, q1, q2, AS1.out⟩
        · have hl0z : ¬ ((lim : Int) = 0) := by omega
          -- 'if !wasBalanced { breakPatterns; limit-- }'
          go_upto_if 35 with fail
          go_cut [3] from 19 (fun s3 wc => ∃ (lim2 : Nat) (d1 : Array Int), s3 = .int .i64 lim2 ∧ lim2 ≤ lim ∧ Hid (d1.size = n) ∧ Hid (PermIn a' b' dk d1) ∧ Hid (SR w0 blk off d1 wc))
          case first =>
            cases wb
            · go_wp2_with fail
              refine (brk_any blk off cap a' b' n d0 dk w0 _ R AS.out HD0.out HS.out (by omega) hb' hsz).mono ?_
              rintro e w1 ⟨d1, rfl, hs1, hp1, S1⟩
              have AS1 := Lib.hid S1; have HS1 := Lib.hid hs1; have HP1 := Lib.hid hp1
              clear S1 hs1 hp1 AS
              go_wp2_with fail
              go_meet
              case rel => exact ⟨lim - 1, d1, by congr 1; omega, by omega, HS1, HP1, AS1⟩
            · go_wp2_with fail
              go_meet
              case rel => exact ⟨lim, dk, rfl, Nat.le_refl _, HS, permIn_refl _ _ _, AS⟩
          case rest =>
            clear AS
            obtain ⟨lim2, d1, rfl, hlim2, HS1, HP1, AS1⟩ := hcut
            go_upto_if 50 with (go_at_call 153; refine (piv_any blk off cap a' b' n d0 d1 w0 _ R AS1.out HD0.out HS1.out (by omega) hb' hsz).mono ?_; rintro e w2 ⟨p, hh, rfl, hpl, hph, S2⟩)
            have AS2 := Lib.hid S2
            clear S2 AS1
            -- 'if hint == decreasingHint { reverseRange; .. }'
            go_cut [11, 12] from 19 (fun s11 s12 wc => ∃ (pv : Nat) (h2 : Int) (d2 : Array Int), s11 = .int .i64 pv ∧ s12 = .int .i64 h2 ∧ a' ≤ pv ∧ pv < b' ∧ Hid (d2.size = n) ∧ Hid (PermIn a' b' dk d2) ∧ Hid (SR w0 blk off d2 wc))
            case first =>
              by_cases hh2 : hh = 2
              · subst hh2
                go_wp2_with fail
                refine (rev_any blk off cap a' b' n d0 d1 w0 _ R AS2.out HD0.out HS1.out hab' hb' hsz).mono ?_
                rintro e w3 ⟨rfl, S3⟩
                have AS3 := Lib.hid S3
                have hp3 := reverseRange_holds d1 a' b' hab' (by rw [HS1.out]; exact hb')
                have HS3 : Hid ((reverseRange d1 a' b').size = n) := (show _ = _ from by rw [hp3.1]; exact HS1.out)
                have HP3 : Hid (PermIn a' b' dk (reverseRange d1 a' b')) := (show PermIn _ _ _ _ from permIn_trans _ _ _ _ _ HP1.out hp3)
                clear S3 hp3 AS2
                go_wp2_with fail
                go_meet
                case rel => exact ⟨(b' - 1) - (p - a'), _, _, by congr 1; omega, rfl, by omega, by omega, HS3, HP3, AS3⟩
              · go_wp2_with fail
                go_meet
                case rel => exact ⟨p, hh, d1, rfl, rfl, hpl, hph, HS1, HP1, AS2⟩
            case rest =>
              clear AS2
              obtain ⟨pv, h2, d2, rfl, rfl, hpv1, hpv2, HS2, HP2, AS2⟩ := hcut
              -- the test of the three flags
              go_upto_region 15 with fail
              go_cut [12, 68] from 19 (fun s12 s68 wx => ∃ bb : Bool, s12 = .int .i64 h2 ∧ s68 = .bool bb ∧ Hid (SR w0 blk off d2 wx))
              case first =>
                by_cases hh1 : h2 = 1
                · subst hh1
                  cases wb <;> cases wp <;> (go_wp2_with fail; go_meet; exact ⟨_, rfl, rfl, AS2⟩)
                · cases wb <;> cases wp <;> (go_wp2_with fail; go_meet; exact ⟨_, rfl, rfl, AS2⟩)
              case rest =>
                clear AS2
                obtain ⟨bb, rfl, rfl, AS2⟩ := hcut
                go_upto_if 68 with fail
                go_cut [] from 19 (fun wx => ∃ d3 : Array Int, Hid (d3.size = n) ∧ Hid (PermIn a' b' dk d3) ∧ Hid (SR w0 blk off d3 wx))
                case first =>
                  cases bb
                  · go_wp2_with fail
                    go_meet
                    case rel => exact ⟨d2, HS2, HP2, AS2⟩
                  · obtain ⟨p1, p2⟩ := partialInsertionSort_holds swo_ltInt d2 a' b' (by omega) (by rw [HS2.out]; exact hb') (HA.out.perm (by rw [HS.out]; exact hb') HP2.out)
                    have P1 := Lib.hid p1; have P2 := Lib.hid p2
                    clear p1 p2
                    go_wp2_with fail
                    refine (pins_any blk off cap a' b' n d0 d2 w0 _ R AS2.out HD0.out HS2.out (by omega) hb' hsz).mono ?_
                    rintro e w4 ⟨rfl, S4⟩
                    have AS4 := Lib.hid S4
                    clear S4 AS2
                    cases hr : (partialInsertionSort ltInt d2 a' b').2 with
                    | true =>
                      have HR := Lib.hid hr
                      clear hr
                      go_wp2_with fail
                      (try simp only [Exit.inBlock, Exit.then]); refine bodyPost_ret (results_none rfl _ _ _) rfl ?_
                      obtain ⟨q1, q2⟩ := HF.out _ (permIn_trans _ _ _ _ _ HP2.out P1.out) (P2.out HR.out)
                      exact ⟨_, rfl, by rw [P1.out.1]; exact HS2.out, q1, q2, AS4.out⟩
                    | false =>
                      clear hr
                      go_wp2_with fail
                      go_meet
                      case rel => exact ⟨_, (show _ = _ from by rw [P1.out.1]; exact HS2.out), (show PermIn _ _ _ _ from permIn_trans _ _ _ _ _ HP2.out P1.out), AS4⟩
                case rest =>
                  clear AS2
                  obtain ⟨d3, HS3, HP3, AS3⟩ := hcut
                  obtain ⟨G, hG⟩ : ∃ G : Nat → Int, ∀ t, G t = d3[t]! := ⟨fun t => d3[t]!, fun _ => rfl⟩
                  have HG := Lib.hid hG
                  have cw := SR.cells AS3.out R (by rw [HS3.out, HD0.out]) HS3.out hG
                  have fw := SR.free AS3.out R (by rw [HS3.out, HD0.out]) HS3.out
                  clear hG
                  -- 'a > 0 && !cmp.Less(data[a-1], data[pivot])'
                  go_upto_region 17 with fail
                  go_cut [87] from 19 (fun s87 wx => ∃ q : Bool, s87 = .bool q ∧ Hid (q = true → 0 < a' ∧ ltInt d3[a' - 1]! d3[pv]! = false) ∧ Hid (SR w0 blk off d3 wx))
                  case first =>
                    rcases Nat.eq_zero_or_pos a' with ha0 | ha0
                    · have ha0z : decide ((a' : Int) > 0) = false := decide_eq_false (by omega)
                      go_big_quiet (first | (go_at_call 156; refine Calls.quiet_of_same (cmpless_any _ _ _)))
                      go_wp2_with fail
                      go_meet
                      case rel => exact ⟨false, rfl, (show false = true → _ from fun h => by cases h), SW.drewN AS3.out nq⟩
                    · have ha0z : (a' : Int) > 0 := by omega
                      go_big_quiet (first | (go_at_call 156; refine Calls.quiet_of_same (cmpless_any _ _ _)))
                      go_wp2_with fail
                      go_meet
                      case rel => exact ⟨_, rfl, (show _ → _ from fun h => ⟨ha0, by rw [← HG.out, ← HG.out]; simpa using h⟩), SW.drewN AS3.out nq⟩
                  case rest =>
                    clear cw fw AS3
                    obtain ⟨q, rfl, HQ, AS3⟩ := hcut
                    have HA3 : Hid (Ahead a' b' d3) := (show Ahead _ _ _ from HA.out.perm (by rw [HS.out]; exact hb') HP3.out)
                    have HF3 : Hid (Fin' a b d a' b' d3) := (show Fin' _ _ _ _ _ _ from HF.out.perm HP3.out)
                    clear HA HF HP3 HP2 HP1 HG
                    cases q with
                    | false =>
                      obtain ⟨mid, ap, d4, hx⟩ : ∃ mid ap d4, partition ltInt d3 a' b' pv = (mid, ap, d4) := ⟨(partition ltInt d3 a' b' pv).1, (partition ltInt d3 a' b' pv).2.1, (partition ltInt d3 a' b' pv).2.2, rfl⟩
                      obtain ⟨r1, r2, r3, rL, rR, f1, f2⟩ := part_round hpv1 hpv2 (by rw [HS3.out]; exact hb') HA3.out HF3.out hx
                      have hc := prt_any blk off cap a' b' pv n d0 d3 w0 _ R AS3.out HD0.out HS3.out hpv1 hpv2 hb' hsz
                      rw [hx] at hc
                      simp only [] at hc
                      have HC := Lib.hid hc; have HRL := Lib.hid rL; have HRR := Lib.hid rR; have HF1 := Lib.hid f1; have HF2 := Lib.hid f2
                      have HS4 : Hid (d4.size = n) := (show _ = _ from by rw [r3]; exact HS3.out)
                      clear hc hx rL rR f1 f2 r3
                      go_upto_if 113 with (go_at_call 158; refine HC.out.mono ?_; rintro e w7 ⟨rfl, S7⟩)
                      have AS7 := Lib.hid S7
                      clear S7 AS3 HC
                      by_cases h4 : mid - a' < b' - mid
                      · have h4z : (mid : Int) - (a' : Int) < (b' : Int) - (mid : Int) := by omega
                        go_wp2_with fail
                        refine (IH.out blk off cap a' mid lim2 n d0 d4 w0 _ (by omega) R AS7.out HD0.out HS4.out r1 (by omega) hsz (by omega) HRL.out).mono ?_
                        rintro e w8 ⟨d5, rfl, hs5, hp5, hso5, S8⟩
                        obtain ⟨g1, g2⟩ := HF1.out d5 hp5 hso5
                        have AS8 := Lib.hid S8; have HS5 := Lib.hid hs5; have G1 := Lib.hid g1; have G2 := Lib.hid g2
                        clear S8 hs5 g1 g2 hp5 hso5 AS7
                        go_wp2_with fail
                        go_roundg (b' - (mid + 1))
                        case measure => omega
                        case rel => exact ⟨mid + 1, b', lim2, _, ap, d5, by go_num, rfl, rfl, rfl, rfl, by omega, hb', Nat.le_refl _, by omega, by omega, HS5, G1, AS8, G2⟩
                      · have h4z : ¬ ((mid : Int) - (a' : Int) < (b' : Int) - (mid : Int)) := by omega
                        have hih := IH.out blk off cap (mid + 1) b' lim2 n d0 d4 w0 w7 (by omega) R AS7.out HD0.out HS4.out (by omega) hb' hsz (by omega) HRR.out
                        rw [show ((mid + 1 : Nat) : Int) = (mid : Int) + 1 by omega] at hih
                        have HIH := Lib.hid hih
                        clear hih
                        go_wp2_with fail
                        refine HIH.out.mono ?_
                        rintro e w8 ⟨d5, rfl, hs5, hp5, hso5, S8⟩
                        obtain ⟨g1, g2⟩ := HF2.out d5 hp5 hso5
                        have AS8 := Lib.hid S8; have HS5 := Lib.hid hs5; have G1 := Lib.hid g1; have G2 := Lib.hid g2
                        clear S8 hs5 g1 g2 hp5 hso5 AS7 HIH
                        go_wp2_with fail
                        go_roundg (mid - a')
                        case measure => omega
                        case rel => exact ⟨a', mid, lim2, _, ap, d5, rfl, rfl, rfl, rfl, rfl, r1, by omega, Nat.le_refl _, by omega, by omega, HS5, G1, AS8, G2⟩
                    | true =>
                      obtain ⟨q1, q2⟩ := HQ.out rfl
                      obtain ⟨mid, d4, hx⟩ : ∃ mid d4, partitionEqual ltInt d3 a' b' pv = (mid, d4) := ⟨(partitionEqual ltInt d3 a' b' pv).1, (partitionEqual ltInt d3 a' b' pv).2, rfl⟩
                      obtain ⟨r1, r2, r3, rA, rF⟩ := eq_round q1 hpv1 hpv2 (by rw [HS3.out]; exact hb') HA3.out HF3.out q2 hx
                      have hc := peq_any blk off cap a' b' pv n d0 d3 w0 _ R AS3.out HD0.out HS3.out hpv1 hpv2 hb' hsz
                      rw [hx] at hc
                      simp only [] at hc
                      have HC := Lib.hid hc; have HRA := Lib.hid rA; have HRF := Lib.hid rF
                      have HS4 : Hid (d4.size = n) := (show _ = _ from by rw [r3]; exact HS3.out)
                      clear hc hx rA rF r3 q2
                      go_wp2_with fail
                      refine HC.out.mono ?_
                      rintro e w7 ⟨rfl, S7⟩
                      have AS7 := Lib.hid S7
                      clear S7 AS3 HC
                      go_wp2_with fail
                      go_roundg (b' - mid)
                      case measure => omega
                      case rel => exact ⟨mid, b', lim2, wb, wp, d4, rfl, rfl, rfl, rfl, rfl, r2, hb', Nat.le_refl _, by omega, by omega, HS4, HRA, AS7, HRF⟩

end Go.Proofs.YtcibjgkifafohaaDoor
