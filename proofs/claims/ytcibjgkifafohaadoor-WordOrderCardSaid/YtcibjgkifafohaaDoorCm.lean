/-
  WALKS: cmp.Compare at int, word.compare, word.Cmp.
-/
import Derived.Test.YtcibjgkifafohaaDoorPrt
namespace Go.Proofs.YtcibjgkifafohaaDoor
open Go.RowKit Go.Lib
set_option linter.unusedVariables false

set_option maxHeartbeats 1000000 in
theorem nan_any (x : Int) (w : World) : Calls Tryd.prog 105 #[.int .i64 x] w fun e w' => e = .returned (.bool false) ∧ w' = w := by
  go_enter Tryd.func105, Tryd.ntmps105
  go_wp2_with fail
  go_ret
  exact ⟨by simp, rfl⟩
set_option maxHeartbeats 1000000 in
theorem ccmp_any (x y : Int) (w : World) : Calls Tryd.prog 88 #[.int .i64 x, .int .i64 y] w fun e w' => e = .returned (.int .i64 (compareInt x y)) ∧ w' = w := by
  have K := Lib.hid nan_any
  obtain ⟨R, hR⟩ : ∃ R, R = compareInt x y := ⟨_, rfl⟩
  rw [← hR]
  have HR := Lib.hid hR
  clear hR
  go_enter Tryd.func88, Tryd.ntmps88
  go_wp2_with fail
  refine (K.out _ _).mono ?_
  rintro _ _ ⟨rfl, rfl⟩
  go_wp2_with fail
  refine (K.out _ _).mono ?_
  rintro _ _ ⟨rfl, rfl⟩
  by_cases h : x < y
  · obtain rfl : R = -1 := by rw [HR.out]; unfold compareInt; rw [if_pos h]
    go_wp2_with fail
    go_ret
    exact ⟨rfl, rfl⟩
  · by_cases h2 : x > y
    · obtain rfl : R = 1 := by rw [HR.out]; unfold compareInt; rw [if_neg h, if_pos h2]
      go_wp2_with fail
      go_ret
      exact ⟨rfl, rfl⟩
    · obtain rfl : R = 0 := by rw [HR.out]; unfold compareInt; rw [if_neg h, if_neg h2]
      go_wp2_with fail
      go_ret
      exact ⟨rfl, rfl⟩

theorem comI_both : ∀ (l m : List Int), comI l m ≤ l.length ∧ comI l m ≤ m.length
  | [], m => by simp [comI]
  | x :: l, [] => by simp [comI]
  | x :: l, y :: m => by
    have := comI_both l m
    unfold comI
    simp only [List.length_cons]
    split <;> omega
/-- The order of two rows of letters. -/
def cmpI (row l m : List Int) : Int :=
  if comI l m = l.length ∨ comI l m = m.length then compareInt l.length m.length
  else compareInt (idxI row (l.getD (comI l m) 0) 0) (idxI row (m.getD (comI l m) 0) 0)

set_option maxHeartbeats 4000000 in
set_option maxRecDepth 100000 in
theorem wcompare_any (pr qr tr : Option Addr) (br r0 cr ur s0 cs vr t0 ct : Nat) (row l m : List Int) (w : World) (hW : RsIn pr br r0 row w) (hR : RsIn qr ur s0 l w) (hS : RsIn tr vr t0 m w) :
    Calls Tryd.prog 60 #[.slice pr row.length cr, .slice qr l.length cs, .slice tr m.length ct] w fun e w' => e = .returned (.int .i64 (cmpI row l m)) ∧ Below w.heap.size w w' := by
  have k1 := fun W (hb : Below w.heap.size w W) => common_any qr tr ur s0 cs vr t0 ct l m W (hR.next hb) (hS.next hb)
  have k2 := fun x W (hb : Below w.heap.size w W) => idx_any pr br r0 cr row x W (hW.next hb)
  have hle := comI_both l m
  have hcm : cmpI row l m = if comI l m = l.length ∨ comI l m = m.length then compareInt l.length m.length
      else compareInt (idxI row (l.getD (comI l m) 0) 0) (idxI row (m.getD (comI l m) 0) 0) := rfl
  obtain ⟨R, hR'⟩ : ∃ n, n = cmpI row l m := ⟨_, rfl⟩
  obtain ⟨C, hC⟩ : ∃ n, n = comI l m := ⟨_, rfl⟩
  rw [← hR', ← hC] at hcm
  rw [← hR']
  rw [← hC] at hle k1
  have hbl := hR.big
  have hbm := hS.big
  obtain ⟨nr, hnr⟩ : ∃ n, n = row.length := ⟨_, rfl⟩
  obtain ⟨nl, hnl⟩ : ∃ n, n = l.length := ⟨_, rfl⟩
  obtain ⟨nm, hnm⟩ : ∃ n, n = m.length := ⟨_, rfl⟩
  rw [← hnr] at k2 ⊢
  rw [← hnl, ← hnm] at hle k1 hcm ⊢
  rw [← hnl] at hbl
  rw [← hnm] at hbm
  have hlc : C < nl → qr = some ⟨ur, s0, none⟩ ∧ ∀ W, Below w.heap.size w W → W.cell? ⟨ur, s0 + C, none⟩ = some (.int .i32 (l.getD C 0)) := fun h => ⟨hR.at_ (by omega), fun W hb => (hR.next hb).cells C (by omega)⟩
  have hmc : C < nm → tr = some ⟨vr, t0, none⟩ ∧ ∀ W, Below w.heap.size w W → W.cell? ⟨vr, t0 + C, none⟩ = some (.int .i32 (m.getD C 0)) := fun h => ⟨hS.at_ (by omega), fun W hb => (hS.next hb).cells C (by omega)⟩
  obtain ⟨q, hq⟩ : ∃ n, n = l.getD C 0 := ⟨_, rfl⟩
  obtain ⟨u, hu⟩ : ∃ n, n = m.getD C 0 := ⟨_, rfl⟩
  rw [← hq] at hlc hcm
  rw [← hu] at hmc hcm
  obtain ⟨I, hI⟩ : ∃ n, n = idxI row q 0 := ⟨_, rfl⟩
  obtain ⟨J, hJ⟩ : ∃ n, n = idxI row u 0 := ⟨_, rfl⟩
  have kq := k2 q
  have ku := k2 u
  rw [← hI] at kq hcm
  rw [← hJ] at ku hcm
  have K1 := Lib.hid k1; have K3 := Lib.hid ccmp_any; have HCM := Lib.hid hcm; have HLC := Lib.hid hlc; have HMC := Lib.hid hmc; have KQ := Lib.hid kq; have KU := Lib.hid ku
  clear k1 k2 hcm hlc hmc kq ku hI hJ hq hu hnr hnl hnm hC hR' hW hR hS
  go_enter Tryd.func60, Tryd.ntmps60
  go_wp2_with fail
  refine (K1.out _ (by first | exact Below.refl _ _ | exact (Below.refl _ _).alloc (Nat.le_refl _) _)).mono ?_
  rintro _ w1 ⟨rfl, hb⟩
  have HB := Lib.hid hb
  clear hb
  by_cases h1 : C = nl
  · have hr := HCM.out
    rw [if_pos (Or.inl h1)] at hr
    have HR := Lib.hid hr
    subst h1
    clear hr
    go_wp2_with fail
    refine (K3.out _ _ _).mono ?_
    rintro _ _ ⟨rfl, rfl⟩
    go_wp2_with fail
    go_ret
    exact ⟨by rw [HR.out] <;> rfl, HB.out⟩
  · have e1 : ((C : Int) == (nl : Int)) = false := by simp; omega
    have e1' : decide (C = nl) = false := by simp; omega
    by_cases h2 : C = nm
    · have hr := HCM.out
      rw [if_pos (Or.inr h2)] at hr
      have HR := Lib.hid hr
      subst h2
      clear hr
      go_wp2_with fail
      refine (K3.out _ _ _).mono ?_
      rintro _ _ ⟨rfl, rfl⟩
      go_wp2_with fail
      go_ret
      exact ⟨by rw [HR.out] <;> rfl, HB.out⟩
    · have hr := HCM.out
      rw [if_neg (by omega)] at hr
      have HR := Lib.hid hr
      have e2 : ((C : Int) == (nm : Int)) = false := by simp; omega
      have e2' : decide (C = nm) = false := by simp; omega
      obtain ⟨rfl, a0⟩ := HLC.out (by omega)
      obtain ⟨rfl, b0⟩ := HMC.out (by omega)
      have y1 : (C : Int) < (nl : Int) := by omega
      have y2 : (C : Int) < (nm : Int) := by omega
      have A0 := a0 _ HB.out
      have B0 := b0 _ HB.out
      have HA0 := Lib.hid a0; have HB0 := Lib.hid b0
      clear hr a0 b0
      have C2 := Lib.hid (fun n => KQ.out (w1.drewN n) (below_drewN HB.out n))
      have C3 := Lib.hid (fun n => KU.out (w1.drewN n) (below_drewN HB.out n))
      go_upto_region 4 with fail
      clear HLC HMC HCM K1 HA0 HB0 e1 e1' e2 e2' h1 h2 hle hbl hbm KQ KU
      go_quiet (first | (go_at_call 85; with_reducible exact Calls.quiet_of_same (C2.out _)) | (go_at_call 85; with_reducible exact Calls.quiet_of_same (C3.out _)) | (go_at_call 88; with_reducible exact Calls.quiet_of_same (K3.out _ _ _)))
      go_wp2_with fail
      go_ret
      exact ⟨by rw [HR.out] <;> rfl, below_drewN HB.out _⟩

/-- What word.Cmp answers. -/
def cmpR (A : Al) (x y : ByteArray) : Int := if bothE A x y = 0 then cmpI (rowL A) (runesL (cutW x)) (runesL (cutW y)) else 0
def CmpPost (A : Al) (x y : ByteArray) (w : World) (e : Ending) (w' : World) : Prop := e = .returned (.tuple #[.int .i64 (cmpR A x y), .int .i64 (bothE A x y)]) ∧ Below w.heap.size w w'
set_option maxHeartbeats 2000000 in
set_option maxRecDepth 100000 in
theorem wcmp_any (A : Al) (x y : ByteArray) (w : World) (hA : A.In w) (hT : Tabs w) : Calls Tryd.prog 34 #[A.v, .string x, .string y] w (CmpPost A x y w) := by
  unfold CmpPost
  by_cases h : bothE A x y = 0
  · obtain ⟨hok, hx, hy⟩ := bothE_yes h
    have k1 := fun W hA hT => both_yes A x y W hA hT hok hx hy
    have hc : cmpR A x y = cmpI (rowL A) (runesL (cutW x)) (runesL (cutW y)) := by unfold cmpR; rw [if_pos h]
    rw [h, hc]
    have k2 := fun pr br cr qr ur cs tr vr ct w => wcompare_any pr qr tr br 0 cr ur 0 cs vr 0 ct (rowL A) (runesL (cutW x)) (runesL (cutW y)) w
    unfold BothYes at k1
    obtain ⟨n, hn⟩ : ∃ n, n = (rowL A).length := ⟨_, rfl⟩
    obtain ⟨nx, hnx⟩ : ∃ n, n = (runesL (cutW x)).length := ⟨_, rfl⟩
    obtain ⟨ny, hny⟩ : ∃ n, n = (runesL (cutW y)).length := ⟨_, rfl⟩
    obtain ⟨pf, pl, nf, cf, nl, cl, hv, hnf, hnl, hpl, hcl, hpf, hcf⟩ := A.parts
    rw [hv] at k1 ⊢
    rw [← hn] at k1 k2
    rw [← hnx, ← hny] at k1 k2
    obtain ⟨C, hC⟩ : ∃ C, C = cmpI (rowL A) (runesL (cutW x)) (runesL (cutW y)) := ⟨_, rfl⟩
    rw [← hC] at k2 ⊢
    have K1 := Lib.hid k1; have K2 := Lib.hid k2; have HA := Lib.hid hA; have HT := Lib.hid hT
    clear k1 k2 hn hnx hny hA hT hv hnf hnl hpl hcl hpf hcf hx hy hC hc h
    go_enter Tryd.func34, Tryd.ntmps34
    go_wp2_with fail
    refine (K1.out _ (HA.out.alloc _) (HT.out.next ((Below.refl _ _).alloc (Nat.le_refl _) _))).mono ?_
    rintro e w1 ⟨pr, br, cr, qr, ur, cs, tr, vr, ct, rfl, h1, h2, h3, hb1⟩
    have H1 := Lib.hid h1; have H2 := Lib.hid h2; have H3 := Lib.hid h3
    have HB := Lib.hid (show Below w.heap.size w w1 from ((Below.refl _ _).alloc (Nat.le_refl _) _).trans (hb1.mono (by simp)))
    clear h1 h2 h3 hb1
    go_wp2_with fail
    refine (K2.out pr br cr qr ur cs tr vr ct _ H1.out H2.out H3.out).mono ?_
    rintro e w2 ⟨rfl, hb2⟩
    have HB2 := Lib.hid (HB.out.trans (hb2.mono HB.out.size))
    clear hb2
    go_wp2_with fail
    go_ret2
    exact ⟨rfl, HB2.out⟩
  · have k1 := fun W hA hT => both_no A x y W hA hT h
    have hc : cmpR A x y = 0 := by unfold cmpR; rw [if_neg h]
    rw [hc]
    unfold BothNo at k1
    obtain ⟨E, hE⟩ : ∃ E, E = bothE A x y := ⟨_, rfl⟩
    obtain ⟨pf, pl, nf, cf, nl, cl, hv, hnf, hnl, hpl, hcl, hpf, hcf⟩ := A.parts
    rw [hv] at k1 ⊢
    rw [← hE] at k1 h ⊢
    have e1 : (E == 0) = false := by simp [h]
    have e2 : (E != 0) = true := by simp [h]
    have K1 := Lib.hid k1; have HA := Lib.hid hA; have HT := Lib.hid hT
    clear k1 hA hT hv hnf hnl hpl hcl hpf hcf hE hc h
    go_enter Tryd.func34, Tryd.ntmps34
    go_wp2_with fail
    refine (K1.out _ (HA.out.alloc _) (HT.out.next ((Below.refl _ _).alloc (Nat.le_refl _) _))).mono ?_
    rintro e w1 ⟨rfl, hb1⟩
    have HB := Lib.hid (show Below w.heap.size w w1 from ((Below.refl _ _).alloc (Nat.le_refl _) _).trans (hb1.mono (by simp)))
    clear hb1
    go_wp2_with fail
    go_ret2
    exact ⟨rfl, HB.out⟩
end Go.Proofs.YtcibjgkifafohaaDoor
