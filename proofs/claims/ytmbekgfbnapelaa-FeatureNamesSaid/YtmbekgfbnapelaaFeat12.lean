/-
  WALKS: feature.Least.
-/
import Derived.Test.YtmbekgfbnapelaaRsP
import Derived.Test.YtmbekgfbnapelaaFeat11
import Derived.Deep.Cut
namespace Go.Proofs.Ytmbekgfbnapelaa
open Go.RowKit Go.Lib
set_option linter.unusedVariables false

def lstS (ls : List Ltr) : List Int → Nat → Nat → Nat × Nat × Int
  | [], P, M => (P, M, 0)
  | r :: l, P, M => if (lofR ls r).2 = 0 then lstS ls l (P &&& (lofR ls r).1.p) (M &&& (lofR ls r).1.m) else (0, 0, (lofR ls r).2)
def leastR (A : Al) (l : List Int) : Nat × Nat × Int := if A.ok then (if 128 < l.length then (0, 0, 4) else if l.length = 0 then (0, 0, 8) else lstS A.ls l (allN A.fs.length) (allN A.fs.length)) else (0, 0, 7)
def LstPost (x : Nat × Nat × Int) (w : World) (e : Ending) (w' : World) : Prop := e = .returned (.tuple #[.int .u32 x.1, .int .u32 x.2.1, .int .i64 x.2.2]) ∧ Below w.heap.size w w'
theorem lstS_yes (ls : List Ltr) (l : List Int) (k P M : Nat) (hk : k < l.length) (h : (lofR ls (l.getD k 0)).2 = 0) :
    lstS ls (l.drop k) P M = lstS ls (l.drop (k + 1)) (P &&& (lofR ls (l.getD k 0)).1.p) (M &&& (lofR ls (l.getD k 0)).1.m) := by
  rw [List.getD_eq_getElem?_getD, List.getElem?_eq_getElem hk] at h ⊢
  simp only [Option.getD_some] at h ⊢
  rw [List.drop_eq_getElem_cons hk, lstS, if_pos h]
theorem lstS_no (ls : List Ltr) (l : List Int) (k P M : Nat) (hk : k < l.length) (h : ¬ (lofR ls (l.getD k 0)).2 = 0) :
    lstS ls (l.drop k) P M = (0, 0, (lofR ls (l.getD k 0)).2) := by
  rw [List.getD_eq_getElem?_getD, List.getElem?_eq_getElem hk] at h ⊢
  simp only [Option.getD_some] at h ⊢
  rw [List.drop_eq_getElem_cons hk, lstS, if_neg h]

set_option maxHeartbeats 400000 in
theorem featuresOf_eq (pf pl : Option Addr) (cf n nl cl : Nat) (w : World) (hn : n ≤ 24) :
    Calls Try.prog 58 #[.agg #[.slice pf n cf, .slice pl nl cl]] w fun e w' => e = .returned (.int .u32 (allN n)) ∧ w' = w.alloc (.cells #[.slice pf n cf, .slice pl nl cl] 26) := by
  have e := allN_int n hn
  have HE := Lib.hid e
  clear e
  go_enter Try.func58, Try.ntmps58
  go_wp2
  go_ret
  exact ⟨by rw [← HE.out] <;> rfl, rfl⟩

set_option maxHeartbeats 2000000 in
set_option maxRecDepth 100000 in
theorem least_any (A : Al) (pr : Option Addr) (br r0 cr : Nat) (l : List Int) (w : World) (hA : A.In w) (hR : RsIn pr br r0 l w) :
    Calls Try.prog 10 #[A.v, .slice pr l.length cr] w (LstPost (leastR A l) w) := by
  obtain ⟨pf, pl, nf, cf, nl, cl, hv, hnf, hnl, hpl, hcl, hpf, hcf⟩ := A.parts
  have hch := check_any A
  have hlo := fun r => letterOf_any A.pl A.bl A.l0 A.cl A.ls r
  rw [← hnl, ← hpl, ← hcl] at hlo
  rw [hv] at hch ⊢
  have hbig := hR.big
  obtain ⟨n, hn⟩ : ∃ n, n = l.length := ⟨_, rfl⟩
  have HA := Lib.hid hA; have HCH := Lib.hid hch; have HLO := Lib.hid hlo; have HPL := Lib.hid hpl; have HR := Lib.hid hR; have HN := Lib.hid hn; have HNF := Lib.hid hnf
  rw [← hn] at hbig ⊢
  clear hA hch hlo hv hnf hnl hpl hcl hpf hcf hR
  cases hok : A.ok with
  | false =>
    have hx : leastR A l = (0, 0, 7) := by unfold leastR; rw [hok]; rfl
    rw [hx]
    have HC := Lib.hid (chk_no hok)
    clear hx hok hn
    go_enter Try.func10, Try.ntmps10
    go_wp2_with fail
    refine (HCH.out _ (HA.out.alloc _)).mono ?_
    rintro e w1 ⟨rfl, hb1⟩
    rw [HC.out]
    have HB1 := Lib.hid hb1
    clear hb1
    go_wp2_with fail
    go_ret3
    exact ⟨rfl, ((Below.refl _ _).alloc (Nat.le_refl _) _).trans (HB1.out.mono (by simp))⟩
  | true =>
    have h24 : nf ≤ 24 := by rw [HNF.out]; exact Al.ok24 hok
    by_cases h128 : 128 < n
    · have hx : leastR A l = (0, 0, 4) := by unfold leastR; rw [hok, ← hn]; simp [h128]
      rw [hx]
      have HC := Lib.hid (chk_ok hok)
      clear hx hok hn
      go_enter Try.func10, Try.ntmps10
      go_wp2_with fail
      refine (HCH.out _ (HA.out.alloc _)).mono ?_
      rintro e w1 ⟨rfl, hb1⟩
      rw [HC.out]
      have HB1 := Lib.hid hb1
      clear hb1
      go_wp2_with fail
      go_ret3
      exact ⟨rfl, ((Below.refl _ _).alloc (Nat.le_refl _) _).trans (HB1.out.mono (by simp))⟩
    · by_cases h0 : n = 0
      · have hx : leastR A l = (0, 0, 8) := by unfold leastR; rw [hok, ← hn]; simp [h0]
        rw [hx]
        have HC := Lib.hid (chk_ok hok)
        clear hx hok hn
        subst h0
        go_enter Try.func10, Try.ntmps10
        go_wp2_with fail
        refine (HCH.out _ (HA.out.alloc _)).mono ?_
        rintro e w1 ⟨rfl, hb1⟩
        rw [HC.out]
        have HB1 := Lib.hid hb1
        clear hb1
        go_wp2_with fail
        go_ret3
        exact ⟨rfl, ((Below.refl _ _).alloc (Nat.le_refl _) _).trans (HB1.out.mono (by simp))⟩
      · have hx : leastR A l = lstS A.ls l (allN nf) (allN nf) := by unfold leastR; rw [hok, ← hn, ← HNF.out]; simp [h128, h0]
        rw [hx]
        have hat := HR.out.at_ (by rw [← hn]; omega)
        subst hat
        have hnz : ((n : Int) == 0) = false := by simp; omega
        have HC := Lib.hid (chk_ok hok)
        have hAl := allN_lt h24
        have HFO := Lib.hid (fun w => featuresOf_eq pf pl cf nf nl cl w h24)
        obtain ⟨AN, hAN⟩ : ∃ a, a = allN nf := ⟨_, rfl⟩
        rw [← hAN] at HFO hAl ⊢
        clear hx hok hn h0 hAN
        go_enter Try.func10, Try.ntmps10
        go_wp2_with fail
        refine (HCH.out _ (HA.out.alloc _)).mono ?_
        rintro e w1 ⟨rfl, hb1⟩
        rw [HC.out]
        obtain ⟨hcc, hff⟩ := bcell hb1
        have hz1 := hb1.size
        simp only [World.size_alloc] at hz1
        have hlt0 : w.heap.size < w1.heap.size := by omega
        have hne0 : ¬ w.heap.size = w1.heap.size := by omega
        have cb0 : w1.cell? ⟨w.heap.size, 0, none⟩ = some (.slice pf nf cf) := by rw [hcc _ _ (by simp)]; simp
        have cb1 : w1.cell? ⟨w.heap.size, 1, none⟩ = some (.slice pl nl cl) := by rw [hcc _ _ (by simp)]; simp
        have HB1 := Lib.hid hb1
        clear hb1 hcc hff
        go_upto_region 8 with fail
        go_cut [4, 5] from 12 (fun s4 s5 wc => s4 = .int .u32 AN ∧ s5 = .int .u32 AN ∧ Hid (Below w1.heap.size w1 wc))
        case first =>
          go_region_with (go_at_call 58; refine (HFO.out _).mono ?_; rintro e w' ⟨rfl, rfl⟩)
          all_goals
            go_wp2_with fail
            go_meet
            exact ⟨rfl, rfl, (((Below.refl _ _).alloc (Nat.le_refl _) _).alloc (by simp) _).drew⟩
        case rest =>
          obtain ⟨rfl, rfl, HBc⟩ := hcut
          have hzc := HBc.out.size
          have hbw0 : Below w.heap.size w wc := (((Below.refl _ _).alloc (Nat.le_refl _) _).trans (HB1.out.mono (by simp))).trans (HBc.out.mono (by omega))
          have hcc := HBc.out.cell (p := ⟨w.heap.size, 1, none⟩) hlt0
          have cb2 : wc.cell? ⟨w.heap.size, 1, none⟩ = some (.slice pl nl cl) := by rw [hcc]; exact cb1
          have hltc : w.heap.size < wc.heap.size := by omega
          have HBW0 := Lib.hid hbw0
          clear hcc cb0 cb1 hbw0
          go_wp2_with fail
          go_loopw [4, 5, 29] (fun s4 s5 i wr => ∃ k P M : Nat, s4 = .int .u32 P ∧ s5 = .int .u32 M ∧ i = .int .i64 k ∧ k ≤ n ∧ P < 4294967296 ∧ M < 4294967296 ∧ Hid (lstS A.ls (l.drop k) P M = lstS A.ls l AN AN) ∧ Hid (Below wc.heap.size wc wr)) (fun _ _ i _ => n - (intOf i).toNat)
          case atStart => exact ⟨0, AN, AN, rfl, rfl, rfl, Nat.zero_le _, by omega, by omega, rfl, Below.refl _ _⟩
          case round =>
            obtain ⟨k, P, M, rfl, rfl, rfl, hk, hP, hM, HS, HB⟩ := hrel
            have hzr := HB.out.size
            have hcr := HB.out.cell (p := ⟨w.heap.size, 1, none⟩) hltc
            have cb3 : wr.cell? ⟨w.heap.size, 1, none⟩ = some (.slice pl nl cl) := by rw [hcr]; exact cb2
            have hltr : w.heap.size < wr.heap.size := by omega
            have hbw : Below w.heap.size w wr := HBW0.out.trans (HB.out.mono (by omega))
            have HBW := Lib.hid hbw
            clear hcr hbw
            by_cases hkn : k < n
            · have hR2 := (HR.out.next HBW.out).cells k (by rw [← HN.out]; exact hkn)
              have hyes := lstS_yes A.ls l k P M (by rw [← HN.out]; exact hkn)
              have hno := lstS_no A.ls l k P M (by rw [← HN.out]; exact hkn)
              have hlo := HLO.out (l.getD k 0)
              obtain ⟨r, hr⟩ : ∃ r, r = l.getD k 0 := ⟨_, rfl⟩
              rw [← hr] at hR2 hyes hno hlo
              have hmem := fun h => Al.In.ltr HA.out (lofR_mem (ls := A.ls) (r := r) h).1
              obtain ⟨x, hx⟩ : ∃ x, x = lofR A.ls r := ⟨_, rfl⟩
              rw [← hx] at hyes hno hlo hmem
              obtain ⟨⟨q, u, v⟩, c⟩ := x
              simp only [] at hyes hno hmem
              have HLO2 := Lib.hid hlo
              by_cases hc0 : c = 0
              · subst hc0
                obtain ⟨hu, hv⟩ := hmem rfl
                simp only [] at hu hv
                have e1 := u32_and_nat P u hP hu
                have e2 := u32_and_nat M v hM hv
                have hst := hyes rfl
                have l1 : P &&& u < 4294967296 := Nat.and_lt_two_pow (n := 32) _ (by omega)
                have l2 : M &&& v < 4294967296 := Nat.and_lt_two_pow (n := 32) _ (by omega)
                obtain ⟨X, hX⟩ : ∃ X, X = P &&& u := ⟨_, rfl⟩
                obtain ⟨Y, hY⟩ : ∃ X, X = M &&& v := ⟨_, rfl⟩
                rw [← hX] at e1 hst l1
                rw [← hY] at e2 hst l2
                have HST := Lib.hid hst
                clear hyes hno hmem hlo hr hx hst hX hY
                go_wp2_with fail
                refine (HLO2.out _ (by rw [HPL.out]; exact (HA.out.next HBW.out).L)).mono ?_
                rintro e w3 ⟨rfl, hb3⟩
                unfold Ltr.v
                have hz3 := hb3.size
                have HB3 := Lib.hid hb3
                clear hb3
                go_wp2_with fail
                go_roundw
                case rel => exact ⟨k + 1, X, Y, rfl, rfl, by go_num, by omega, l1, l2, (show _ = _ from by rw [← HS.out, HST.out]), (HB.out.trans (HB3.out.mono hzr)).alloc (by omega) _⟩
                case measure => simp [intOf]; omega
              · have hk1 : (c == 0) = false := by simp [hc0]
                have hk2 : (c != 0) = true := by simp [hc0]
                have HST := Lib.hid (hno hc0)
                clear hyes hno hmem hlo hr hx hc0
                go_wp2_with fail
                refine (HLO2.out _ (by rw [HPL.out]; exact (HA.out.next HBW.out).L)).mono ?_
                rintro e w3 ⟨rfl, hb3⟩
                unfold Ltr.v
                have hz3 := hb3.size
                have HB3 := Lib.hid hb3
                clear hb3
                go_wp2_with fail
                go_ret3
                refine ⟨by rw [← HS.out, HST.out] <;> rfl, ?_⟩
                exact ((HBW.out.trans (HB3.out.mono (by omega)))).alloc (by omega) _
            · obtain rfl : k = n := by omega
              go_wp2_with fail
              go_ret3
              refine ⟨?_, HBW.out⟩
              rw [← HS.out, HN.out, List.drop_length, lstS] <;> rfl

end Go.Proofs.Ytmbekgfbnapelaa
