/-
  WALKS: word.Turned, Part, Text, Check.
-/
import Derived.Test.YtcibjgkifafohaaDoorWd5
namespace Go.Proofs.YtcibjgkifafohaaDoor
open Go.RowKit Go.Lib
set_option linter.unusedVariables false

theorem letL_len (A : Al) (s : ByteArray) : (letL A s).length ≤ 260 := by
  unfold letL rdL
  have h1 := starts_le (cutW s)
  have h2 := cutW_size s
  split
  · split
    · rw [runesL_length]; omega
    · simp
  · simp
def LetYes (l : List Int) (w : World) (e : Ending) (w' : World) : Prop := ∃ v : Value, e = .returned (.tuple #[v, .int .i64 0]) ∧ w'.ownsRow w.heap.size 21 1 v l.length (l.map E32) ∧ Below w.heap.size w w'
theorem let_yes {A : Al} {s : ByteArray} {w : World} (hA : A.In w) (hT : Tabs w) (h : letE A s = 0) : Calls Tryd.prog 17 #[A.v, .string s] w (LetYes (letL A s) w) := by
  refine (letters_any A s w hA hT).mono ?_
  rintro e w' ⟨v, he, ho, hb⟩
  rw [h] at he
  exact ⟨v, he, ho, hb⟩
theorem letL_no {A : Al} {s : ByteArray} (h : ¬ letE A s = 0) : letL A s = [] := by
  unfold letE at h
  unfold letL rdL
  cases hok : A.ok with
  | false => simp
  | true => rw [hok, if_pos rfl] at h; rw [if_pos rfl, if_neg h]
def LetNo (E : Int) (w : World) (e : Ending) (w' : World) : Prop := ∃ o c, e = .returned (.tuple #[.slice o 0 c, .int .i64 E]) ∧ Below w.heap.size w w'
theorem let_no {A : Al} {s : ByteArray} {w : World} (hA : A.In w) (hT : Tabs w) (h : ¬ letE A s = 0) : Calls Tryd.prog 17 #[A.v, .string s] w (LetNo (letE A s) w) := by
  refine (letters_any A s w hA hT).mono ?_
  rintro e w' ⟨v, he, ho, hb⟩
  rw [letL_no h] at ho
  obtain ⟨o, c, rfl⟩ := own_shape ho
  exact ⟨o, c, he, hb⟩

/-! ### Turned -/
def turR (A : Al) (s : ByteArray) : ByteArray := if letE A s = 0 then strOf (textL (letL A s).reverse) else ByteArray.empty
def TurPost (A : Al) (s : ByteArray) (w : World) (e : Ending) (w' : World) : Prop := e = .returned (.tuple #[.string (turR A s), .int .i64 (letE A s)]) ∧ Below w.heap.size w w'
set_option maxHeartbeats 2000000 in
set_option maxRecDepth 100000 in
theorem turned_any (A : Al) (s : ByteArray) (w : World) (hA : A.In w) (hT : Tabs w) : Calls Tryd.prog 23 #[A.v, .string s] w (TurPost A s w) := by
  unfold TurPost
  by_cases h : letE A s = 0
  · have k1 := fun W hA hT => let_yes (A := A) (s := s) (w := W) hA hT h
    have ht : turR A s = strOf (textL (letL A s).reverse) := by unfold turR; rw [if_pos h]
    rw [h, ht]
    unfold LetYes at k1
    have hl := letL_len A s
    obtain ⟨l, hll⟩ : ∃ l, l = letL A s := ⟨_, rfl⟩
    rw [← hll] at k1 hl ⊢
    have k2 := fun B v w ho => reverse_any B v l w ho (by omega)
    have k3 := fun pr br cr w hR => text_row pr br 0 cr l.reverse w hR
    rw [List.length_reverse] at k3
    obtain ⟨n, hn⟩ : ∃ n, n = l.length := ⟨_, rfl⟩
    rw [← hn] at k1 k2 k3
    obtain ⟨pf, pl, nf, cf, nl, cl, hv, hnf, hnl, hpl, hcl, hpf, hcf⟩ := A.parts
    rw [hv] at k1 ⊢
    obtain ⟨T, hT'⟩ : ∃ T, T = strOf (textL l.reverse) := ⟨_, rfl⟩
    rw [← hT'] at k3 ⊢
    have K1 := Lib.hid k1; have K2 := Lib.hid k2; have K3 := Lib.hid k3; have HA := Lib.hid hA; have HT := Lib.hid hT
    clear k1 k2 k3 hn hl hll hT' hA hT hv hnf hnl hpl hcl hpf hcf h ht
    go_enter Tryd.func23, Tryd.ntmps23
    go_wp2_with fail
    refine (K1.out _ (HA.out.alloc _) (HT.out.next ((Below.refl _ _).alloc (Nat.le_refl _) _))).mono ?_
    rintro e w1 ⟨v, rfl, ho, hb1⟩
    have HO := Lib.hid ho
    obtain ⟨o, c, rfl⟩ := own_shape ho
    have HB := Lib.hid (show Below w.heap.size w w1 from ((Below.refl _ _).alloc (Nat.le_refl _) _).trans (hb1.mono (by simp)))
    clear ho hb1
    go_wp2_with fail
    refine (K2.out _ _ _ HO.out).mono ?_
    rintro e w2 ⟨rfl, ⟨pr, br, cr, he, hr⟩, hb2⟩
    simp only [Value.slice.injEq] at he
    obtain ⟨rfl, _, rfl⟩ := he
    have HR := Lib.hid hr
    have HB2 := Lib.hid (HB.out.trans (hb2.mono (by simp)))
    clear hr hb2
    go_wp2_with fail
    refine (K3.out _ br _ _ HR.out).mono ?_
    rintro e w3 ⟨rfl, rfl⟩
    go_wp2_with fail
    go_ret2
    exact ⟨rfl, HB2.out⟩
  · have k1 := fun W hA hT => let_no (A := A) (s := s) (w := W) hA hT h
    have ht : turR A s = ByteArray.empty := by unfold turR; rw [if_neg h]
    rw [ht]
    unfold LetNo at k1
    obtain ⟨E, hE⟩ : ∃ E, E = letE A s := ⟨_, rfl⟩
    obtain ⟨pf, pl, nf, cf, nl, cl, hv, hnf, hnl, hpl, hcl, hpf, hcf⟩ := A.parts
    rw [hv] at k1 ⊢
    rw [← hE] at k1 h ⊢
    have e1 : (E == 0) = false := by simp [h]
    have e2 : (E != 0) = true := by simp [h]
    have K1 := Lib.hid k1; have HA := Lib.hid hA; have HT := Lib.hid hT
    clear k1 hA hT hv hnf hnl hpl hcl hpf hcf hE h ht
    go_enter Tryd.func23, Tryd.ntmps23
    go_wp2_with fail
    refine (K1.out _ (HA.out.alloc _) (HT.out.next ((Below.refl _ _).alloc (Nat.le_refl _) _))).mono ?_
    rintro e w1 ⟨o, c, rfl, hb1⟩
    have HB := Lib.hid (show Below w.heap.size w w1 from ((Below.refl _ _).alloc (Nat.le_refl _) _).trans (hb1.mono (by simp)))
    clear hb1
    go_wp2_with fail
    go_ret2
    exact ⟨rfl, HB.out⟩

/-! ### Check -/
set_option maxHeartbeats 2000000 in
set_option maxRecDepth 100000 in
theorem wcheck_any (A : Al) (s : ByteArray) (w : World) (hA : A.In w) (hT : Tabs w) : Calls Tryd.prog 25 #[A.v, .string s] w fun e w' => e = .returned (.int .i64 (letE A s)) ∧ Below w.heap.size w w' := by
  have k1 := fun W hA hT => letters_any A s W hA hT
  unfold LetPost at k1
  obtain ⟨E, hE⟩ : ∃ E, E = letE A s := ⟨_, rfl⟩
  obtain ⟨pf, pl, nf, cf, nl, cl, hv, hnf, hnl, hpl, hcl, hpf, hcf⟩ := A.parts
  rw [hv] at k1 ⊢
  rw [← hE] at k1 ⊢
  have K1 := Lib.hid k1; have HA := Lib.hid hA; have HT := Lib.hid hT
  clear k1 hA hT hv hnf hnl hpl hcl hpf hcf hE
  go_enter Tryd.func25, Tryd.ntmps25
  go_wp2_with fail
  refine (K1.out _ (HA.out.alloc _) (HT.out.next ((Below.refl _ _).alloc (Nat.le_refl _) _))).mono ?_
  rintro e w1 ⟨v, rfl, ho, hb1⟩
  obtain ⟨o, c, rfl⟩ := own_shape ho
  have HB := Lib.hid (show Below w.heap.size w w1 from ((Below.refl _ _).alloc (Nat.le_refl _) _).trans (hb1.mono (by simp)))
  clear ho hb1
  go_wp2_with fail
  go_ret
  exact ⟨rfl, HB.out⟩

/-! ### Text -/
def txtE (A : Al) (l : List Int) : Int := if A.ok then (if 256 < l.length then 4 else if ∀ r ∈ l, r ∈ rowL A then 0 else 5) else 7
def txtR (A : Al) (l : List Int) : ByteArray := if txtE A l = 0 then strOf (textL l) else ByteArray.empty
def TxtPost (A : Al) (l : List Int) (w : World) (e : Ending) (w' : World) : Prop := e = .returned (.tuple #[.string (txtR A l), .int .i64 (txtE A l)]) ∧ Below w.heap.size w w'
def allIn (row : List Int) (l : List Int) : Bool := l.all fun r => decide (r ∈ row)
theorem allIn_iff (row l : List Int) : allIn row l = true ↔ ∀ r ∈ l, r ∈ row := by unfold allIn; simp
theorem allIn_step {row l : List Int} {k : Nat} (h : k < l.length) : allIn row (l.drop k) = (decide (l.getD k 0 ∈ row) && allIn row (l.drop (k + 1))) := by
  rw [List.drop_eq_getElem_cons h, getD_at h]; rfl
set_option maxHeartbeats 4000000 in
set_option maxRecDepth 100000 in
theorem wtext_any (A : Al) (pr : Option Addr) (br r0 cr : Nat) (l : List Int) (w : World) (hA : A.In w) (hR : RsIn pr br r0 l w) : Calls Tryd.prog 19 #[A.v, .slice pr l.length cr] w (TxtPost A l w) := by
  unfold TxtPost
  cases hok : A.ok with
  | false =>
    have he : txtE A l = 7 := by unfold txtE; rw [hok]; rfl
    have ht : txtR A l = ByteArray.empty := by unfold txtR; rw [he]; rfl
    rw [he, ht]
    have hr := fun W h => rowOf_no A W h hok
    unfold RowNo at hr
    obtain ⟨pf, pl, nf, cf, nl, cl, hv, hnf, hnl, hpl, hcl, hpf, hcf⟩ := A.parts
    rw [hv] at hr ⊢
    have HR := Lib.hid hr; have HA := Lib.hid hA
    clear hr hA hR hv hnf hnl hpl hcl hpf hcf he ht
    go_enter Tryd.func19, Tryd.ntmps19
    go_wp2_with fail
    refine (HR.out _ (HA.out.alloc _)).mono ?_
    rintro e w1 ⟨o, c, rfl, hb1⟩
    have HB := Lib.hid (show Below w.heap.size w w1 from ((Below.refl _ _).alloc (Nat.le_refl _) _).trans (hb1.mono (by simp)))
    clear hb1
    go_wp2_with fail
    go_ret2
    exact ⟨rfl, HB.out⟩
  | true =>
    have hr := fun W h => rowOf_yes A W h hok
    unfold RowYes at hr
    have hbig := hR.big
    by_cases h256 : 256 < l.length
    · have he : txtE A l = 4 := by unfold txtE; rw [hok, if_pos rfl, if_pos h256]
      have ht : txtR A l = ByteArray.empty := by unfold txtR; rw [he]; rfl
      rw [he, ht]
      obtain ⟨n, hn⟩ : ∃ n, n = l.length := ⟨_, rfl⟩
      obtain ⟨m, hm⟩ : ∃ m, m = (rowL A).length := ⟨_, rfl⟩
      obtain ⟨pf, pl, nf, cf, nl, cl, hv, hnf, hnl, hpl, hcl, hpf, hcf⟩ := A.parts
      rw [hv] at hr ⊢
      rw [← hm] at hr
      rw [← hn] at h256 hbig ⊢
      have HR := Lib.hid hr; have HA := Lib.hid hA
      clear hr hA hR hv hnf hnl hpl hcl hpf hcf he ht hn hm
      go_enter Tryd.func19, Tryd.ntmps19
      go_wp2_with fail
      refine (HR.out _ (HA.out.alloc _)).mono ?_
      rintro e w1 ⟨qr, ur, cs, rfl, hrs, hbr, hb1⟩
      have HB := Lib.hid (show Below w.heap.size w w1 from ((Below.refl _ _).alloc (Nat.le_refl _) _).trans (hb1.mono (by simp)))
      clear hb1 hrs
      go_wp2_with fail
      go_ret2
      exact ⟨rfl, HB.out⟩
    · have he : txtE A l = if allIn (rowL A) l = true then 0 else 5 := by unfold txtE; rw [hok, if_pos rfl, if_neg h256]; simp only [allIn_iff]
      have ht : txtR A l = if allIn (rowL A) l = true then strOf (textL l) else ByteArray.empty := by unfold txtR; rw [he]; split <;> simp
      rw [he, ht]
      have hcon := fun qr ur cs x w hR => has_rune qr ur 0 cs (rowL A) x w hR
      have ktx := fun W h => text_row pr br r0 cr l W h
      obtain ⟨n, hn⟩ : ∃ n, n = l.length := ⟨_, rfl⟩
      obtain ⟨m, hm⟩ : ∃ m, m = (rowL A).length := ⟨_, rfl⟩
      obtain ⟨B, hB⟩ : ∃ B, B = allIn (rowL A) l := ⟨_, rfl⟩
      obtain ⟨T, hT⟩ : ∃ T, T = strOf (textL l) := ⟨_, rfl⟩
      obtain ⟨pf, pl, nf, cf, nl, cl, hv, hnf, hnl, hpl, hcl, hpf, hcf⟩ := A.parts
      rw [hv] at hr ⊢
      rw [← hm] at hr hcon
      rw [← hn] at h256 hbig ktx ⊢
      rw [← hB]
      rw [← hT] at ktx ⊢
      obtain ⟨X, hX⟩ : ∃ X, X = (if B = true then T else ByteArray.empty) := ⟨_, rfl⟩
      obtain ⟨Y, hY⟩ : ∃ Y : Int, Y = (if B = true then 0 else 5) := ⟨_, rfl⟩
      rw [← hX, ← hY]
      have HXX := Lib.hid hX; have HYY := Lib.hid hY
      clear hX hY
      have hnl' : ¬ (256 : Int) < (n : Int) := by omega
      have HRW := Lib.hid hr; have HA := Lib.hid hA; have HR := Lib.hid hR; have HCON := Lib.hid hcon; have HTX := Lib.hid ktx; have HN := Lib.hid hn; have HB0 := Lib.hid hB
      clear hr hA hR hcon ktx hv hnf hnl hpl hcl hpf hcf he ht hn hm hB hT
      go_enter Tryd.func19, Tryd.ntmps19
      go_wp2_with fail
      refine (HRW.out _ (HA.out.alloc _)).mono ?_
      rintro e w1 ⟨qr, ur, cs, rfl, hrs, hbr, hb1⟩
      have HS := Lib.hid hrs
      have hbw : Below w.heap.size w w1 := ((Below.refl _ _).alloc (Nat.le_refl _) _).trans (hb1.mono (by simp))
      have HR1 := Lib.hid (HR.out.next hbw)
      have HB := Lib.hid hbw
      clear hb1 hrs hbw HR
      go_wp2_with fail
      go_loop [23] (fun iv => ∃ k : Nat, iv = .int .i64 k ∧ k ≤ n ∧ Hid (B = allIn (rowL A) (l.drop k))) (fun iv => n - (intOf iv).toNat)
      case atStart => exact ⟨0, rfl, Nat.zero_le _, HB0⟩
      case round =>
        obtain ⟨k, rfl, hk, HK⟩ := hrel
        by_cases hkn : k < n
        · have hkl : k < l.length := by rw [← HN.out]; exact hkn
          obtain rfl := HR1.out.at_ (by omega)
          have a0 := HR1.out.cells k hkl
          have hst := allIn_step (row := rowL A) hkl
          obtain ⟨q, hq⟩ : ∃ q, q = l.getD k 0 := ⟨_, rfl⟩
          rw [← hq] at a0 hst
          have hC := HCON.out qr ur cs q w1 HS.out
          by_cases hm : q ∈ rowL A
          · rw [decide_eq_true hm] at hC hst
            have HC := Lib.hid hC; have HST := Lib.hid hst
            clear hC hst hq hm hkl
            go_wp2_with fail
            refine HC.out.mono ?_
            rintro e w2 ⟨rfl, rfl⟩
            go_wp2_with fail
            go_round
            case rel => exact ⟨k + 1, by go_num, by omega, by show _ = _; rw [HK.out, HST.out]; rfl⟩
            case measure => simp [intOf]; omega
          · rw [decide_eq_false hm] at hC hst
            have hB5 : B = false := by rw [HK.out, hst]; rfl
            have HC := Lib.hid hC; have HB5 := Lib.hid hB5
            clear hC hst hq hm hkl hB5
            go_wp2_with fail
            refine HC.out.mono ?_
            rintro e w2 ⟨rfl, rfl⟩
            go_wp2_with fail
            go_ret2
            exact ⟨by rw [HXX.out, HYY.out, HB5.out] <;> rfl, HB.out⟩
        · have hB5 : B = true := by rw [HK.out, List.drop_eq_nil_of_le (by rw [← HN.out]; omega)]; rfl
          have HB5 := Lib.hid hB5
          clear hB5
          go_wp2_with fail
          refine (HTX.out _ HR1.out).mono ?_
          rintro e w2 ⟨rfl, rfl⟩
          go_wp2_with fail
          go_ret2
          exact ⟨by rw [HXX.out, HYY.out, HB5.out] <;> rfl, HB.out⟩
end Go.Proofs.YtcibjgkifafohaaDoor
