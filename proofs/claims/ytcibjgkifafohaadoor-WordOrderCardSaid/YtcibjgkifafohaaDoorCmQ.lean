/-
  WALKS: word.common, word.compare once more: they only draw (for slices.SortFunc).
-/
import Derived.Test.YtcibjgkifafohaaDoorCut
namespace Go.Proofs.YtcibjgkifafohaaDoor
open Go.RowKit Go.Lib
set_option linter.unusedVariables false

/-- Only draws lie between. -/
def QB (w w' : World) : Prop := ∃ q, w' = w.drewN q
theorem QB.refl (w : World) : QB w w := ⟨0, rfl⟩
theorem QB.drew {w w' : World} (h : QB w w') (n : Nat) : QB w (w'.drewN n) := by
  obtain ⟨q, rfl⟩ := h
  exact ⟨q + n, by rw [World.drewN_drewN]⟩
theorem QB.below {w w' : World} (h : QB w w') : Below w.heap.size w w' := by
  obtain ⟨q, rfl⟩ := h
  exact below_drewN (Below.refl _ _) q

set_option maxHeartbeats 4000000 in
set_option maxRecDepth 100000 in
theorem commonq_any (pr qr : Option Addr) (br r0 cr ur s0 cs : Nat) (l m : List Int) (w : World) (hR : RsIn pr br r0 l w) (hS : RsIn qr ur s0 m w) :
    Calls Tryd.prog 67 #[.slice pr l.length cr, .slice qr m.length cs] w fun e w' => e = .returned (.int .i64 (comI l m : Nat)) ∧ QB w w' := by
  have hb1 := hR.big
  have hb2 := hS.big
  obtain ⟨n, hn⟩ : ∃ n, n = l.length := ⟨_, rfl⟩
  obtain ⟨j, hj⟩ : ∃ n, n = m.length := ⟨_, rfl⟩
  rw [← hn] at hb1 ⊢
  rw [← hj] at hb2 ⊢
  obtain ⟨C, hC⟩ : ∃ C, C = comI l m := ⟨_, rfl⟩
  rw [← hC]
  have HR := Lib.hid hR; have HS := Lib.hid hS; have HN := Lib.hid hn; have HJ := Lib.hid hj; have HC := Lib.hid hC
  clear hR hS hn hj hC
  go_enter Tryd.func67, Tryd.ntmps67
  go_wp2_with fail
  go_loopw [5] (fun iv wr => ∃ k : Nat, iv = .int .i64 k ∧ k ≤ n ∧ k ≤ j ∧ Hid (C = k + comI (l.drop k) (m.drop k)) ∧ Hid (QB w wr)) (fun iv _ => n - (intOf iv).toNat)
  case atStart => exact ⟨0, rfl, Nat.zero_le _, Nat.zero_le _, by show _ = _; rw [HC.out]; simp, QB.refl _⟩
  case round =>
    obtain ⟨k, rfl, hk1, hk2, HK, HB⟩ := hrel
    by_cases hkn : k < n
    · have hkl : k < l.length := by rw [← HN.out]; exact hkn
      have hz1 : (k : Int) < (n : Int) := by omega
      obtain rfl := HR.out.at_ (by omega)
      have a0 := (HR.out.next HB.out.below).cells k hkl
      by_cases hkj : k < j
      · have hkm : k < m.length := by rw [← HJ.out]; exact hkj
        have hz2 : (k : Int) < (j : Int) := by omega
        obtain rfl := HS.out.at_ (by omega)
        have b0 := (HS.out.next HB.out.below).cells k hkm
        have hy := comI_yes hkl hkm
        have hno := comI_no hkl hkm
        obtain ⟨q, hq⟩ : ∃ q, q = l.getD k 0 := ⟨_, rfl⟩
        obtain ⟨u, hu⟩ : ∃ q, q = m.getD k 0 := ⟨_, rfl⟩
        rw [← hq] at a0 hy hno
        rw [← hu] at b0 hy hno
        by_cases hqu : q = u
        · have HY := Lib.hid (hy hqu)
          clear hy hno hq hkl hkm hu
          subst hqu
          go_wp2_with fail
          go_quiet (fail)
          go_wp2_with fail
          go_roundw
          case rel => exact ⟨k + 1, by go_num, by omega, by omega, by show _ = _; rw [HK.out]; exact HY.out, HB.out.drew _⟩
          case measure => simp [intOf]; omega
        · have HNo := Lib.hid (hno hqu)
          have e1 : (q == u) = false := by simp [hqu]
          clear hy hno hq hkl hkm hu
          go_wp2_with fail
          go_quiet (fail)
          go_wp2_with fail
          go_ret
          exact ⟨by rw [HK.out, HNo.out] <;> rfl, HB.out.drew _⟩
      · have hz2 : decide ((k : Int) < (j : Int)) = false := by simp; omega
        have HE := Lib.hid (comI_end2 (l := l) (m := m) (k := k) (by rw [← HJ.out]; omega))
        go_wp2_with fail
        go_quiet (fail)
        go_wp2_with fail
        go_ret
        exact ⟨by rw [HK.out, HE.out] <;> rfl, HB.out.drew _⟩
    · have hz2 : decide ((k : Int) < (n : Int)) = false := by simp; omega
      have HE := Lib.hid (comI_end1 (l := l) (m := m) (k := k) (by rw [← HN.out]; omega))
      go_wp2_with fail
      go_quiet (fail)
      go_wp2_with fail
      go_ret
      exact ⟨by rw [HK.out, HE.out] <;> rfl, HB.out.drew _⟩


set_option maxHeartbeats 4000000 in
set_option maxRecDepth 100000 in
theorem wcompareq_any (pr qr tr : Option Addr) (br r0 cr ur s0 cs vr t0 ct : Nat) (row l m : List Int) (w : World) (hW : RsIn pr br r0 row w) (hR : RsIn qr ur s0 l w) (hS : RsIn tr vr t0 m w) :
    Calls Tryd.prog 60 #[.slice pr row.length cr, .slice qr l.length cs, .slice tr m.length ct] w fun e w' => e = .returned (.int .i64 (cmpI row l m)) ∧ QB w w' := by
  have k1 := fun W (hb : QB w W) => commonq_any qr tr ur s0 cs vr t0 ct l m W (hR.next hb.below) (hS.next hb.below)
  have k2 := fun x W (hb : QB w W) => idx_any pr br r0 cr row x W (hW.next hb.below)
  have hle := comI_both l m
  have hcm : cmpI row l m = if comI l m = l.length ∨ comI l m = m.length then compareInt l.length m.length
      else compareInt (idxI row (l.getD (comI l m) 0) 0) (idxI row (m.getD (comI l m) 0) 0) := rfl
  obtain ⟨R, hR'⟩ : ∃ n, n = cmpI row l m := ⟨_, rfl⟩
  obtain ⟨C, hC⟩ : ∃ n, n = comI l m := ⟨_, rfl⟩
  rw [← hR', ← hC] at hcm
  rw [← hR']
  rw [← hC] at hle k1
  have hbl := hR.big
  have hbm := hS.big
  obtain ⟨nr, hnr⟩ : ∃ n, n = row.length := ⟨_, rfl⟩
  obtain ⟨nl, hnl⟩ : ∃ n, n = l.length := ⟨_, rfl⟩
  obtain ⟨nm, hnm⟩ : ∃ n, n = m.length := ⟨_, rfl⟩
  rw [← hnr] at k2 ⊢
  rw [← hnl, ← hnm] at hle k1 hcm ⊢
  rw [← hnl] at hbl
  rw [← hnm] at hbm
  have hlc : C < nl → qr = some ⟨ur, s0, none⟩ ∧ ∀ W, QB w W → W.cell? ⟨ur, s0 + C, none⟩ = some (.int .i32 (l.getD C 0)) := fun h => ⟨hR.at_ (by omega), fun W hb => (hR.next hb.below).cells C (by omega)⟩
  have hmc : C < nm → tr = some ⟨vr, t0, none⟩ ∧ ∀ W, QB w W → W.cell? ⟨vr, t0 + C, none⟩ = some (.int .i32 (m.getD C 0)) := fun h => ⟨hS.at_ (by omega), fun W hb => (hS.next hb.below).cells C (by omega)⟩
  obtain ⟨q, hq⟩ : ∃ n, n = l.getD C 0 := ⟨_, rfl⟩
  obtain ⟨u, hu⟩ : ∃ n, n = m.getD C 0 := ⟨_, rfl⟩
  rw [← hq] at hlc hcm
  rw [← hu] at hmc hcm
  obtain ⟨I, hI⟩ : ∃ n, n = idxI row q 0 := ⟨_, rfl⟩
  obtain ⟨J, hJ⟩ : ∃ n, n = idxI row u 0 := ⟨_, rfl⟩
  have kq := k2 q
  have ku := k2 u
  rw [← hI] at kq hcm
  rw [← hJ] at ku hcm
  have K1 := Lib.hid k1; have K3 := Lib.hid ccmp_any; have HCM := Lib.hid hcm; have HLC := Lib.hid hlc; have HMC := Lib.hid hmc; have KQ := Lib.hid kq; have KU := Lib.hid ku
  clear k1 k2 hcm hlc hmc kq ku hI hJ hq hu hnr hnl hnm hC hR' hW hR hS
  go_enter Tryd.func60, Tryd.ntmps60
  go_wp2_with fail
  refine (K1.out _ (QB.refl _)).mono ?_
  rintro _ w1 ⟨rfl, hb⟩
  have HB := Lib.hid hb
  clear hb
  by_cases h1 : C = nl
  · have hr := HCM.out
    rw [if_pos (Or.inl h1)] at hr
    have HR := Lib.hid hr
    subst h1
    clear hr
    go_wp2_with fail
    refine (K3.out _ _ _).mono ?_
    rintro _ _ ⟨rfl, rfl⟩
    go_wp2_with fail
    go_ret
    exact ⟨by rw [HR.out] <;> rfl, HB.out⟩
  · have e1 : ((C : Int) == (nl : Int)) = false := by simp; omega
    have e1' : decide (C = nl) = false := by simp; omega
    by_cases h2 : C = nm
    · have hr := HCM.out
      rw [if_pos (Or.inr h2)] at hr
      have HR := Lib.hid hr
      subst h2
      clear hr
      go_wp2_with fail
      refine (K3.out _ _ _).mono ?_
      rintro _ _ ⟨rfl, rfl⟩
      go_wp2_with fail
      go_ret
      exact ⟨by rw [HR.out] <;> rfl, HB.out⟩
    · have hr := HCM.out
      rw [if_neg (by omega)] at hr
      have HR := Lib.hid hr
      have e2 : ((C : Int) == (nm : Int)) = false := by simp; omega
      have e2' : decide (C = nm) = false := by simp; omega
      obtain ⟨rfl, a0⟩ := HLC.out (by omega)
      obtain ⟨rfl, b0⟩ := HMC.out (by omega)
      have y1 : (C : Int) < (nl : Int) := by omega
      have y2 : (C : Int) < (nm : Int) := by omega
      have A0 := a0 _ HB.out
      have B0 := b0 _ HB.out
      have HA0 := Lib.hid a0; have HB0 := Lib.hid b0
      clear hr a0 b0
      have C2 := Lib.hid (fun n => KQ.out (w1.drewN n) (HB.out.drew n))
      have C3 := Lib.hid (fun n => KU.out (w1.drewN n) (HB.out.drew n))
      go_upto_region 4 with fail
      clear HLC HMC HCM K1 HA0 HB0 e1 e1' e2 e2' h1 h2 hle hbl hbm KQ KU
      go_quiet (first | (go_at_call 85; with_reducible exact Calls.quiet_of_same (C2.out _)) | (go_at_call 85; with_reducible exact Calls.quiet_of_same (C3.out _)) | (go_at_call 88; with_reducible exact Calls.quiet_of_same (K3.out _ _ _)))
      go_wp2_with fail
      go_ret
      exact ⟨by rw [HR.out] <;> rfl, HB.out.drew _⟩

end Go.Proofs.YtcibjgkifafohaaDoor
