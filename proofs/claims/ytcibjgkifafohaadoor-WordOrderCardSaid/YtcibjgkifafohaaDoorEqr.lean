/-
  WALKS: slices.Equal at rows of runes (it only draws).
-/
import Derived.Test.YtcibjgkifafohaaDoorSfn
namespace Go.Proofs.YtcibjgkifafohaaDoor
open Go.RowKit Go.Lib
set_option linter.unusedVariables false

theorem drop_yes {l m : List Int} {k : Nat} (h1 : k < l.length) (h2 : k < m.length) (h : l.getD k 0 = m.getD k 0) : decide (l.drop k = m.drop k) = decide (l.drop (k + 1) = m.drop (k + 1)) := by
  rw [getD_at h1, getD_at h2] at h
  have e1 : l.drop k = l[k] :: l.drop (k + 1) := List.drop_eq_getElem_cons h1
  have e2 : m.drop k = m[k] :: m.drop (k + 1) := List.drop_eq_getElem_cons h2
  rw [e1, e2, h]
  apply decide_eq_decide.2
  rw [List.cons.injEq]
  exact ⟨fun x => x.2, fun x => ⟨rfl, x⟩⟩
theorem drop_no {l m : List Int} {k : Nat} (h1 : k < l.length) (h2 : k < m.length) (h : ¬ l.getD k 0 = m.getD k 0) : decide (l.drop k = m.drop k) = false := by
  rw [getD_at h1, getD_at h2] at h
  have e1 : l.drop k = l[k] :: l.drop (k + 1) := List.drop_eq_getElem_cons h1
  have e2 : m.drop k = m[k] :: m.drop (k + 1) := List.drop_eq_getElem_cons h2
  rw [e1, e2, decide_eq_false_iff_not, List.cons.injEq]
  exact fun x => h x.1
theorem drop_end {l m : List Int} {k : Nat} (h1 : l.length ≤ k) (h2 : m.length ≤ k) : decide (l.drop k = m.drop k) = true := by
  rw [List.drop_eq_nil_of_le h1, List.drop_eq_nil_of_le h2]
  rfl

set_option maxHeartbeats 4000000 in
set_option maxRecDepth 100000 in
theorem eqr_any (pr qr : Option Addr) (br r0 cr ur s0 cs : Nat) (l m : List Int) (w : World) (hR : RsIn pr br r0 l w) (hS : RsIn qr ur s0 m w) :
    Calls Tryd.prog 66 #[.slice pr l.length cr, .slice qr m.length cs] w fun e w' => e = .returned (.bool (decide (l = m))) ∧ QB w w' := by
  have hb1 := hR.big
  have hb2 := hS.big
  obtain ⟨X, hX⟩ : ∃ X, X = decide (l = m) := ⟨_, rfl⟩
  have hX0 : X = decide (l.drop 0 = m.drop 0) := hX
  have hXn : ¬ l.length = m.length → X = false := fun h => by rw [hX, decide_eq_false_iff_not]; intro e; exact h (by rw [e])
  rw [← hX]
  obtain ⟨n, hn⟩ : ∃ n, n = l.length := ⟨_, rfl⟩
  obtain ⟨j, hj⟩ : ∃ n, n = m.length := ⟨_, rfl⟩
  rw [← hn] at hb1 hXn ⊢
  rw [← hj] at hb2 hXn ⊢
  have HR := Lib.hid hR; have HS := Lib.hid hS; have HN := Lib.hid hn; have HJ := Lib.hid hj; have HX := Lib.hid hX0
  by_cases hnj : n = j
  · subst hnj
    clear hR hS hn hj hX hX0 hXn
    go_enter Tryd.func66, Tryd.ntmps66
    go_wp2_with fail
    go_loopw [13] (fun iv wr => ∃ k : Nat, iv = .int .i64 k ∧ k ≤ n ∧ Hid (X = decide (l.drop k = m.drop k)) ∧ Hid (QB w wr)) (fun iv _ => n - (intOf iv).toNat)
    case atStart => exact ⟨0, rfl, Nat.zero_le _, HX, QB.refl _⟩
    case round =>
      obtain ⟨k, rfl, hk, HK, HB⟩ := hrel
      by_cases hkn : k < n
      · have hkl : k < l.length := by rw [← HN.out]; exact hkn
        have hkm : k < m.length := by rw [← HJ.out]; exact hkn
        have hz1 : (k : Int) < (n : Int) := by omega
        obtain rfl := HR.out.at_ (by omega)
        obtain rfl := HS.out.at_ (by omega)
        have a0 := (HR.out.next HB.out.below).cells k hkl
        have b0 := (HS.out.next HB.out.below).cells k hkm
        have hy := drop_yes hkl hkm
        have hno := drop_no hkl hkm
        obtain ⟨q, hq⟩ : ∃ q, q = l.getD k 0 := ⟨_, rfl⟩
        obtain ⟨u, hu⟩ : ∃ q, q = m.getD k 0 := ⟨_, rfl⟩
        rw [← hq] at a0 hy hno
        rw [← hu] at b0 hy hno
        by_cases hqu : q = u
        · have HY := Lib.hid (hy hqu)
          clear hy hno hq hkl hkm hu
          subst hqu
          go_wp2_with fail
          go_quiet (fail)
          have HB2 := Lib.hid (HB.out.drew nq)
          go_wp2_with fail
          go_roundw
          case rel => exact ⟨k + 1, by go_num, by omega, by show _ = _; rw [HK.out]; exact HY.out, HB2⟩
          case measure => simp [intOf]; omega
        · have hxf : X = false := by rw [HK.out]; exact hno hqu
          have e1 : (q == u) = false := by simp [hqu]
          have e2 : (q != u) = true := by simp [hqu]
          clear hy hno hq hkl hkm hu HK HX
          subst hxf
          go_wp2_with fail
          go_quiet (fail)
          have HB2 := Lib.hid (HB.out.drew nq)
          go_wp2_with fail
          go_ret
          exact ⟨rfl, HB2.out⟩
      · have hxt : X = true := by rw [HK.out]; exact drop_end (by rw [← HN.out]; omega) (by rw [← HJ.out]; omega)
        clear HK HX
        subst hxt
        go_wp2_with fail
        go_ret
        exact ⟨rfl, HB.out⟩
  · have hxf := hXn hnj
    have e1 : ((n : Int) == (j : Int)) = false := by simp; omega
    have e2 : ((n : Int) != (j : Int)) = true := by simp; omega
    clear hR hS hn hj hX hX0 hXn HX
    subst hxf
    go_enter Tryd.func66, Tryd.ntmps66
    go_wp2_with fail
    go_ret
    exact ⟨rfl, QB.refl _⟩
end Go.Proofs.YtcibjgkifafohaaDoor
