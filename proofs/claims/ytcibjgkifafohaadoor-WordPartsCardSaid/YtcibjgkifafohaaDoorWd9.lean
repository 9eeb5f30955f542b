/-
  WALKS: word.Part.
-/
import Derived.Test.YtcibjgkifafohaaDoorWd8
namespace Go.Proofs.YtcibjgkifafohaaDoor
open Go.RowKit Go.Lib
set_option linter.unusedVariables false

def subL (l : List Int) (a b : Nat) : List Int := (l.drop a).take (b - a)
theorem subL_len (l : List Int) (a b : Nat) (h : b ≤ l.length) : (subL l a b).length = b - a := by
  unfold subL
  rw [List.length_take, List.length_drop]
  omega
theorem subL_at (l : List Int) (a b j : Nat) (h : b ≤ l.length) (hj : j < b - a) : (subL l a b).getD j 0 = l.getD (a + j) 0 := by
  unfold subL
  rw [List.getD_eq_getElem?_getD, List.getD_eq_getElem?_getD, List.getElem?_take_of_lt hj, List.getElem?_drop]
theorem subL_same (l : List Int) (a : Nat) : subL l a a = [] := by unfold subL; simp
def SubPost (l : List Int) (a b : Nat) (w : World) (e : Ending) (w' : World) : Prop :=
  ∃ pr br r0 cr, e = .returned (.slice pr (subL l a b).length cr) ∧ RsIn pr br r0 (subL l a b) w ∧ w' = w
theorem part_any (B : Nat) (v : Value) (l : List Int) (a b : Nat) (w : World) (ho : w.ownsRow B 21 1 v l.length (l.map E32)) (hl : l.length ≤ 260) (hab : a ≤ b) (hb : b ≤ l.length) :
    Calls Tryd.prog 52 #[v, .int .i64 a, .int .i64 b] w (SubPost l a b w) := by
  rcases ho.2 with ⟨rfl, h0⟩ | ⟨g, cap, cur, rfl, hB, hg, hc, hm, hsz, ht⟩
  · obtain rfl : b = 0 := by omega
    obtain rfl : a = 0 := by omega
    refine (part_nil w).mono ?_
    rintro e w' ⟨rfl, rfl⟩
    rw [SubPost, subL_same]
    exact ⟨none, 0, 0, 0, rfl, ⟨fun h => absurd h (by decide), fun j hj => absurd hj (by simp), by decide⟩, rfl⟩
  · have hcap : cap ≤ 9223372036854775807 := by unfold maxLen at hm; omega
    by_cases hlt : a < b
    · refine (part_some g l.length cap a b w hlt hb hc hcap).mono ?_
      rintro e w' ⟨rfl, rfl⟩
      refine ⟨some ⟨g, a, none⟩, g, a, b - a, by rw [subL_len l a b hb], ⟨fun _ => rfl, fun j hj => ?_, by rw [subL_len l a b hb]; omega⟩, rfl⟩
      rw [subL_len l a b hb] at hj
      rw [subL_at l a b j hb hj, ho.cellAt (a + j) (by omega), List.getElem?_map, List.getElem?_eq_getElem (by omega), getD_at (by omega)]
      rfl
    · obtain rfl : a = b := by omega
      refine (part_none g l.length cap a w hb hc hcap).mono ?_
      rintro e w' ⟨rfl, rfl⟩
      rw [SubPost, subL_same]
      exact ⟨some ⟨g, 0, none⟩, g, 0, 0, rfl, ⟨fun h => absurd h (by decide), fun j hj => absurd hj (by simp), by decide⟩, rfl⟩

def prtE (A : Al) (s : ByteArray) (a b : Int) : Int := if letE A s = 0 then (if 0 ≤ a ∧ a ≤ b ∧ b ≤ (letL A s).length then 0 else 2) else letE A s
def prtR (A : Al) (s : ByteArray) (a b : Int) : ByteArray := if prtE A s a b = 0 then strOf (textL (subL (letL A s) a.toNat b.toNat)) else ByteArray.empty
def PrtPost (A : Al) (s : ByteArray) (a b : Int) (w : World) (e : Ending) (w' : World) : Prop := e = .returned (.tuple #[.string (prtR A s a b), .int .i64 (prtE A s a b)]) ∧ Below w.heap.size w w'

set_option maxHeartbeats 4000000 in
set_option maxRecDepth 100000 in
theorem wpart_any (A : Al) (s : ByteArray) (a b : Int) (w : World) (hA : A.In w) (hT : Tabs w) : Calls Tryd.prog 21 #[A.v, .string s, .int .i64 a, .int .i64 b] w (PrtPost A s a b w) := by
  unfold PrtPost
  by_cases h : letE A s = 0
  · have k1 := fun W hA hT => let_yes (A := A) (s := s) (w := W) hA hT h
    unfold LetYes at k1
    have hl := letL_len A s
    by_cases hr : 0 ≤ a ∧ a ≤ b ∧ b ≤ (letL A s).length
    · have he : prtE A s a b = 0 := by unfold prtE; rw [if_pos h, if_pos hr]
      have ht : prtR A s a b = strOf (textL (subL (letL A s) a.toNat b.toNat)) := by unfold prtR; rw [if_pos he]
      rw [he, ht]
      obtain ⟨h1, h2, h3⟩ := hr
      obtain ⟨na, rfl⟩ := Int.eq_ofNat_of_zero_le h1
      obtain ⟨nb, rfl⟩ := Int.eq_ofNat_of_zero_le (Int.le_trans h1 h2)
      rw [Int.toNat_natCast, Int.toNat_natCast]
      have k2 := fun B v w ho => part_any B v (letL A s) na nb w ho hl (by omega) (by omega)
      unfold SubPost at k2
      obtain ⟨l, hll⟩ : ∃ l, l = letL A s := ⟨_, rfl⟩
      rw [← hll] at k1 k2 hl h3 ⊢
      obtain ⟨u, hu⟩ : ∃ u, u = subL l na nb := ⟨_, rfl⟩
      rw [← hu] at k2 ⊢
      have k3 := fun pr br r0 cr w hR => text_row pr br r0 cr u w hR
      obtain ⟨n, hn⟩ : ∃ n, n = l.length := ⟨_, rfl⟩
      obtain ⟨m, hm⟩ : ∃ n, n = u.length := ⟨_, rfl⟩
      rw [← hn] at k1 k2 h3
      rw [← hm] at k2 k3
      obtain ⟨pf, pl, nf, cf, nl, cl, hv, hnf, hnl, hpl, hcl, hpf, hcf⟩ := A.parts
      rw [hv] at k1 ⊢
      obtain ⟨T, hT'⟩ : ∃ T, T = strOf (textL u) := ⟨_, rfl⟩
      rw [← hT'] at k3 ⊢
      have z1 : ¬ (na : Int) < 0 := by omega
      have z2 : ¬ (nb : Int) < (na : Int) := by omega
      have z3 : ¬ (n : Int) < (nb : Int) := by omega
      have K1 := Lib.hid k1; have K2 := Lib.hid k2; have K3 := Lib.hid k3; have HA := Lib.hid hA; have HT := Lib.hid hT
      clear k1 k2 k3 hn hl hll hT' hA hT hv hnf hnl hpl hcl hpf hcf h ht he hu hm h1 h2 h3
      go_enter Tryd.func21, Tryd.ntmps21
      go_wp2_with fail
      refine (K1.out _ (HA.out.alloc _) (HT.out.next ((Below.refl _ _).alloc (Nat.le_refl _) _))).mono ?_
      rintro e w1 ⟨v, rfl, ho, hb1⟩
      have HO := Lib.hid ho
      obtain ⟨o, c, rfl⟩ := own_shape ho
      have HB := Lib.hid (show Below w.heap.size w w1 from ((Below.refl _ _).alloc (Nat.le_refl _) _).trans (hb1.mono (by simp)))
      clear ho hb1
      go_wp2_with fail
      refine (K2.out _ _ _ HO.out).mono ?_
      rintro e w2 ⟨pr, br, r0, cr, rfl, hR, rfl⟩
      have HR := Lib.hid hR
      clear hR
      go_wp2_with fail
      refine (K3.out pr br r0 cr _ HR.out).mono ?_
      rintro e w3 ⟨rfl, rfl⟩
      go_wp2_with fail
      go_ret2
      exact ⟨rfl, HB.out⟩
    · have he : prtE A s a b = 2 := by unfold prtE; rw [if_pos h, if_neg hr]
      have ht : prtR A s a b = ByteArray.empty := by unfold prtR; rw [he]; rfl
      rw [he, ht]
      obtain ⟨n, hn⟩ : ∃ n, n = (letL A s).length := ⟨_, rfl⟩
      rw [← hn] at k1 hl hr
      obtain ⟨pf, pl, nf, cf, nl, cl, hv, hnf, hnl, hpl, hcl, hpf, hcf⟩ := A.parts
      rw [hv] at k1 ⊢
      have K1 := Lib.hid k1; have HA := Lib.hid hA; have HT := Lib.hid hT
      clear k1 hn hA hT hv hnf hnl hpl hcl hpf hcf h ht he
      have hcase : (a < 0) ∨ (¬ a < 0 ∧ b < a) ∨ (¬ a < 0 ∧ ¬ b < a ∧ (n : Int) < b) := by omega
      rcases hcase with z1 | ⟨z1, z2⟩ | ⟨z1, z2, z3⟩
      all_goals
        go_enter Tryd.func21, Tryd.ntmps21
        go_wp2_with fail
        refine (K1.out _ (HA.out.alloc _) (HT.out.next ((Below.refl _ _).alloc (Nat.le_refl _) _))).mono ?_
        rintro e w1 ⟨v, rfl, ho, hb1⟩
        obtain ⟨o, c, rfl⟩ := own_shape ho
        have HB := Lib.hid (show Below w.heap.size w w1 from ((Below.refl _ _).alloc (Nat.le_refl _) _).trans (hb1.mono (by simp)))
        clear ho hb1
        go_wp2_with fail
        go_ret2
        exact ⟨rfl, HB.out⟩
  · have k1 := fun W hA hT => let_no (A := A) (s := s) (w := W) hA hT h
    have he : prtE A s a b = letE A s := by unfold prtE; rw [if_neg h]
    have ht : prtR A s a b = ByteArray.empty := by unfold prtR; rw [he, if_neg h]
    rw [he, ht]
    unfold LetNo at k1
    obtain ⟨E, hE⟩ : ∃ E, E = letE A s := ⟨_, rfl⟩
    obtain ⟨pf, pl, nf, cf, nl, cl, hv, hnf, hnl, hpl, hcl, hpf, hcf⟩ := A.parts
    rw [hv] at k1 ⊢
    rw [← hE] at k1 h ⊢
    have e1 : (E == 0) = false := by simp [h]
    have e2 : (E != 0) = true := by simp [h]
    have K1 := Lib.hid k1; have HA := Lib.hid hA; have HT := Lib.hid hT
    clear k1 hA hT hv hnf hnl hpl hcl hpf hcf hE h ht he
    go_enter Tryd.func21, Tryd.ntmps21
    go_wp2_with fail
    refine (K1.out _ (HA.out.alloc _) (HT.out.next ((Below.refl _ _).alloc (Nat.le_refl _) _))).mono ?_
    rintro e w1 ⟨o, c, rfl, hb1⟩
    have HB := Lib.hid (show Below w.heap.size w w1 from ((Below.refl _ _).alloc (Nat.le_refl _) _).trans (hb1.mono (by simp)))
    clear hb1
    go_wp2_with fail
    go_ret2
    exact ⟨rfl, HB.out⟩
end Go.Proofs.YtcibjgkifafohaaDoor
