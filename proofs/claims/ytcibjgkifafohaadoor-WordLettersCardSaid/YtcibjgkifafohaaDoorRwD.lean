/-
  WALKS OF THE DOCUMENT's ANSWER: cognateref03.Part.
-/
import Derived.Test.YtcibjgkifafohaaDoorRwC
namespace Go.Proofs.YtcibjgkifafohaaDoor
open Go.RowKit Go.Lib
set_option linter.unusedVariables false

/-- A part of a row, as the row's own slice. -/
theorem sub_rs {B : Nat} {g cap a b : Nat} {l : List Int} {w : World} (ho : w.ownsRow B 21 1 (.slice (some ⟨g, 0, none⟩) l.length cap) l.length (l.map E32)) (hl : l.length ≤ 260) (hab : a ≤ b) (hb : b ≤ l.length) :
    RsIn (some ⟨g, a, none⟩) g a (subL l a b) w :=
  ⟨fun _ => rfl, fun j hj => by
    rw [subL_len l a b hb] at hj
    rw [subL_at l a b j hb hj, ho.cellAt (a + j) (by omega), List.getElem?_map, List.getElem?_eq_getElem (by omega), getD_at (by omega)]
    rfl, by rw [subL_len l a b hb]; omega⟩
set_option maxHeartbeats 4000000 in
set_option maxRecDepth 100000 in
theorem rpart_any (A : Al) (s : ByteArray) (a b : Int) (w : World) (hA : A.In w) (hT : Tabs w) (hs : s.size ≤ 9223372036854775807) : Calls Tryd.prog 22 #[A.v, .string s, .int .i64 a, .int .i64 b] w (PrtPost A s a b w) := by
  unfold PrtPost
  have k1 := fun W hA hT => rletters_any A s W hA hT hs
  unfold LetPost at k1
  by_cases h : letE A s = 0
  · rw [h] at k1
    have hl := letL_len A s
    by_cases hr : 0 ≤ a ∧ a ≤ b ∧ b ≤ (letL A s).length
    · have he : prtE A s a b = 0 := by unfold prtE; rw [if_pos h, if_pos hr]
      have ht : prtR A s a b = strOf (textL (subL (letL A s) a.toNat b.toNat)) := by unfold prtR; rw [if_pos he]
      rw [he, ht]
      obtain ⟨h1, h2, h3⟩ := hr
      obtain ⟨na, rfl⟩ := Int.eq_ofNat_of_zero_le h1
      obtain ⟨nb, rfl⟩ := Int.eq_ofNat_of_zero_le (Int.le_trans h1 h2)
      rw [Int.toNat_natCast, Int.toNat_natCast]
      obtain ⟨l, hll⟩ : ∃ l, l = letL A s := ⟨_, rfl⟩
      rw [← hll] at k1 hl h3 ⊢
      have hab : na ≤ nb := by omega
      have hbn : nb ≤ l.length := by omega
      have hlen := subL_len l na nb hbn
      have hsub := fun (B g cap : Nat) (w : World) ho => sub_rs (B := B) (g := g) (cap := cap) (a := na) (b := nb) (l := l) (w := w) ho hl hab hbn
      have hnil : l.length = 0 → strOf (textL (subL l na nb)) = strOf (textL []) := fun h0 => by
        obtain rfl : l = [] := List.eq_nil_of_length_eq_zero h0
        unfold subL; simp
      have hemp : na = nb → strOf (textL (subL l na nb)) = strOf (textL []) := fun h0 => by rw [h0, subL_same]
      have kcv := fun pr br r0 cr (W : World) (h : RsIn pr br r0 (subL l na nb) W) => conv_row (cr := cr) h
      rw [hlen] at kcv
      obtain ⟨T, hT'⟩ : ∃ T, T = strOf (textL (subL l na nb)) := ⟨_, rfl⟩
      rw [← hT'] at kcv hnil hemp ⊢
      obtain ⟨n, hn⟩ : ∃ n, n = l.length := ⟨_, rfl⟩
      rw [← hn] at k1 hl h3 hbn hsub hnil
      obtain ⟨pf, pl, nf, cf, nl, cl, hv, hnf, hnl, hpl, hcl, hpf, hcf⟩ := A.parts
      rw [hv] at k1 ⊢
      have z1 : ¬ (na : Int) < 0 := by omega
      have z2 : ¬ (nb : Int) < (na : Int) := by omega
      have z3 : ¬ (n : Int) < (nb : Int) := by omega
      have K1 := Lib.hid k1; have HSUB := Lib.hid hsub; have KCV := Lib.hid kcv; have HA := Lib.hid hA; have HT := Lib.hid hT; have HNIL := Lib.hid hnil; have HEMP := Lib.hid hemp
      clear k1 hsub kcv hn hll hT' hA hT hv hnf hnl hpl hcl hpf hcf h ht he h1 h2 h3 hlen hnil hemp
      go_enter Tryd.func22, Tryd.ntmps22
      go_wp2_with fail
      refine (K1.out _ (HA.out.alloc _) (HT.out.next ((Below.refl _ _).alloc (Nat.le_refl _) _))).mono ?_
      rintro e w1 ⟨v, rfl, ho, hb1⟩
      have HB := Lib.hid (show Below w.heap.size w w1 from ((Below.refl _ _).alloc (Nat.le_refl _) _).trans (hb1.mono (by simp)))
      have HO := Lib.hid ho
      rcases ho.2 with ⟨rfl, h0⟩ | ⟨g, cap, cur, rfl, hBg, hg, hc, hm, hsz, htk⟩
      · obtain rfl : nb = 0 := by omega
        obtain rfl : na = 0 := by omega
        have hcv := conv_runes_nil w1 0 0
        rw [← HNIL.out h0] at hcv
        clear ho hb1 h0
        go_wp2_with fail
        go_ret2
        exact ⟨rfl, HB.out⟩
      · have hcap : cap ≤ 9223372036854775807 := by unfold maxLen at hm; omega
        clear hBg hg hsz htk hm ho hb1
        by_cases hac : na < cap
        · have hcv := fun cr => KCV.out (some ⟨g, na, none⟩) g na cr w1 (HSUB.out _ _ _ _ HO.out)
          have h0 : ¬ cap - na = 0 := by omega
          go_wp2_with fail
          go_ret2
          exact ⟨rfl, HB.out⟩
        · obtain rfl : na = cap := by omega
          obtain rfl : nb = na := by omega
          have hcv := conv_runes w1 ⟨g, 0, none⟩ 0 0 [] rfl (fun j v hj => by simp at hj)
          rw [← HEMP.out rfl] at hcv
          go_wp2_with fail
          go_ret2
          exact ⟨rfl, HB.out⟩
    · have he : prtE A s a b = 2 := by unfold prtE; rw [if_pos h, if_neg hr]
      have ht : prtR A s a b = ByteArray.empty := by unfold prtR; rw [he]; rfl
      rw [he, ht]
      obtain ⟨n, hn⟩ : ∃ n, n = (letL A s).length := ⟨_, rfl⟩
      rw [← hn] at k1 hl hr
      obtain ⟨pf, pl, nf, cf, nl, cl, hv, hnf, hnl, hpl, hcl, hpf, hcf⟩ := A.parts
      rw [hv] at k1 ⊢
      have K1 := Lib.hid k1; have HA := Lib.hid hA; have HT := Lib.hid hT
      clear k1 hn hA hT hv hnf hnl hpl hcl hpf hcf h ht he
      have hcase : (a < 0) ∨ (¬ a < 0 ∧ b < a) ∨ (¬ a < 0 ∧ ¬ b < a ∧ (n : Int) < b) := by omega
      rcases hcase with z1 | ⟨z1, z2⟩ | ⟨z1, z2, z3⟩
      all_goals
        go_enter Tryd.func22, Tryd.ntmps22
        go_wp2_with fail
        refine (K1.out _ (HA.out.alloc _) (HT.out.next ((Below.refl _ _).alloc (Nat.le_refl _) _))).mono ?_
        rintro e w1 ⟨v, rfl, ho, hb1⟩
        obtain ⟨o, c, rfl⟩ := own_shape ho
        have HB := Lib.hid (show Below w.heap.size w w1 from ((Below.refl _ _).alloc (Nat.le_refl _) _).trans (hb1.mono (by simp)))
        clear ho hb1
        go_wp2_with fail
        go_ret2
        exact ⟨rfl, HB.out⟩
  · have he : prtE A s a b = letE A s := by unfold prtE; rw [if_neg h]
    have ht : prtR A s a b = ByteArray.empty := by unfold prtR; rw [he, if_neg h]
    rw [he, ht]
    obtain ⟨E, hE⟩ : ∃ E, E = letE A s := ⟨_, rfl⟩
    obtain ⟨pf, pl, nf, cf, nl, cl, hv, hnf, hnl, hpl, hcl, hpf, hcf⟩ := A.parts
    rw [hv] at k1 ⊢
    rw [← hE] at k1 h ⊢
    have e1 : (E == 0) = false := by simp [h]
    have e2 : (E != 0) = true := by simp [h]
    have K1 := Lib.hid k1; have HA := Lib.hid hA; have HT := Lib.hid hT
    clear k1 hA hT hv hnf hnl hpl hcl hpf hcf hE h ht he
    go_enter Tryd.func22, Tryd.ntmps22
    go_wp2_with fail
    refine (K1.out _ (HA.out.alloc _) (HT.out.next ((Below.refl _ _).alloc (Nat.le_refl _) _))).mono ?_
    rintro e w1 ⟨v, rfl, ho, hb1⟩
    obtain ⟨o, c, rfl⟩ := own_shape ho
    have HB := Lib.hid (show Below w.heap.size w w1 from ((Below.refl _ _).alloc (Nat.le_refl _) _).trans (hb1.mono (by simp)))
    clear hb1 ho
    go_wp2_with fail
    go_ret2
    exact ⟨rfl, HB.out⟩
end Go.Proofs.YtcibjgkifafohaaDoor
