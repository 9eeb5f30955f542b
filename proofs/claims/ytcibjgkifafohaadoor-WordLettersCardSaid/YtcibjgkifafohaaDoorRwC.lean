/-
  WALKS OF THE DOCUMENT's ANSWER: cognateref03.Text, Turned, Part.
-/
import Derived.Test.YtcibjgkifafohaaDoorRwB
import Derived.Test.YtcibjgkifafohaaDoorPrtP
namespace Go.Proofs.YtcibjgkifafohaaDoor
open Go.RowKit Go.Lib
set_option linter.unusedVariables false

/-! ### Text -/
set_option maxHeartbeats 4000000 in
set_option maxRecDepth 100000 in
theorem rtext_any (A : Al) (pr : Option Addr) (br r0 cr : Nat) (l : List Int) (w : World) (hA : A.In w) (hR : RsIn pr br r0 l w) : Calls Tryd.prog 20 #[A.v, .slice pr l.length cr] w (TxtPost A l w) := by
  unfold TxtPost
  have kc := fun W h => rcheck_any A W h
  unfold RchkPost at kc
  have hbig := hR.big
  cases hok : A.ok with
  | false =>
    have he : txtE A l = 7 := by unfold txtE; rw [hok]; rfl
    have ht : txtR A l = ByteArray.empty := by unfold txtR; rw [he]; rfl
    rw [he, ht]
    rw [chk_no hok] at kc
    obtain ⟨pf, pl, nf, cf, nl, cl, hv, hnf, hnl, hpl, hcl, hpf, hcf⟩ := A.parts
    rw [hv] at kc ⊢
    have KC := Lib.hid kc; have HA := Lib.hid hA
    clear kc hA hR hv hnf hnl hpl hcl hpf hcf he ht hok
    go_enter Tryd.func20, Tryd.ntmps20
    go_wp2_with fail
    refine (KC.out _ (HA.out.alloc _)).mono ?_
    rintro e w1 ⟨rfl, hb1⟩
    have HB := Lib.hid (show Below w.heap.size w w1 from ((Below.refl _ _).alloc (Nat.le_refl _) _).trans (hb1.mono (by simp)))
    clear hb1
    go_wp2_with fail
    go_ret2
    exact ⟨rfl, HB.out⟩
  | true =>
    rw [chk_ok hok] at kc
    by_cases h256 : 256 < l.length
    · have he : txtE A l = 4 := by unfold txtE; rw [hok, if_pos rfl, if_pos h256]
      have ht : txtR A l = ByteArray.empty := by unfold txtR; rw [he]; rfl
      rw [he, ht]
      obtain ⟨n, hn⟩ : ∃ n, n = l.length := ⟨_, rfl⟩
      obtain ⟨pf, pl, nf, cf, nl, cl, hv, hnf, hnl, hpl, hcl, hpf, hcf⟩ := A.parts
      rw [hv] at kc ⊢
      rw [← hn] at h256 hbig ⊢
      have h256z : (256 : Int) < (n : Int) := by omega
      have KC := Lib.hid kc; have HA := Lib.hid hA
      clear kc hA hR hv hnf hnl hpl hcl hpf hcf he ht hok hn
      go_enter Tryd.func20, Tryd.ntmps20
      go_wp2_with fail
      refine (KC.out _ (HA.out.alloc _)).mono ?_
      rintro e w1 ⟨rfl, hb1⟩
      have HB := Lib.hid (show Below w.heap.size w w1 from ((Below.refl _ _).alloc (Nat.le_refl _) _).trans (hb1.mono (by simp)))
      clear hb1
      go_wp2_with fail
      go_ret2
      exact ⟨rfl, HB.out⟩
    · have he : txtE A l = if allIn (rowL A) l = true then 0 else 5 := by unfold txtE; rw [hok, if_pos rfl, if_neg h256]; simp only [allIn_iff]
      have ht : txtR A l = if allIn (rowL A) l = true then strOf (textL l) else ByteArray.empty := by unfold txtR; rw [he]; split <;> simp
      rw [he, ht]
      have kn := fun r w h => number_any A r w h
      have hng := fun r => fnd_neg A r
      have kcv := fun W h => conv_row (pr := pr) (br := br) (r0 := r0) (cr := cr) (l := l) (w := W) h
      obtain ⟨row, hrow⟩ : ∃ x, x = rowL A := ⟨_, rfl⟩
      simp only [← hrow] at hng
      rw [← hrow]
      obtain ⟨fd, hfd⟩ : ∃ f : Int → Int, ∀ r, f r = fnd A.ls r 0 := ⟨_, fun _ => rfl⟩
      simp only [← hfd] at kn hng
      obtain ⟨n, hn⟩ : ∃ n, n = l.length := ⟨_, rfl⟩
      obtain ⟨B, hB⟩ : ∃ B, B = allIn row l := ⟨_, rfl⟩
      obtain ⟨T, hT⟩ : ∃ T, T = strOf (textL l) := ⟨_, rfl⟩
      obtain ⟨pf, pl, nf, cf, nl, cl, hv, hnf, hnl, hpl, hcl, hpf, hcf⟩ := A.parts
      rw [hv] at kc kn ⊢
      rw [← hn] at h256 hbig kcv ⊢
      rw [← hB]
      rw [← hT] at kcv ⊢
      obtain ⟨X, hX⟩ : ∃ X, X = (if B = true then T else ByteArray.empty) := ⟨_, rfl⟩
      obtain ⟨Y, hY⟩ : ∃ Y : Int, Y = (if B = true then 0 else 5) := ⟨_, rfl⟩
      rw [← hX, ← hY]
      have HXX := Lib.hid hX; have HYY := Lib.hid hY
      have hnl' : ¬ (256 : Int) < (n : Int) := by omega
      have hs := Bx.start (F := .slice pf nf cf) (L := .slice pl nl cl) hA
      have HS := Lib.hid hs; have KC := Lib.hid kc; have KN := Lib.hid kn; have HNG := Lib.hid hng; have KCV := Lib.hid kcv; have HR := Lib.hid hR; have HN := Lib.hid hn; have HB0 := Lib.hid hB
      clear hX hY hs kc kn hng kcv hA hR hv hnf hnl hpl hcl hpf hcf he ht hn hB hT hrow hfd hok
      go_enter Tryd.func20, Tryd.ntmps20
      go_wp2_with fail
      refine (KC.out _ HS.out.i).mono ?_
      rintro e w1 ⟨rfl, hb1⟩
      have HX1 := Lib.hid (HS.out.next hb1)
      clear hb1 HS
      go_wp2_with fail
      go_loopw [7] (fun iv wr => ∃ k : Nat, iv = .int .i64 k ∧ k ≤ n ∧ Hid (B = allIn row (l.drop k)) ∧ Hid (Bx A (.slice pf nf cf) (.slice pl nl cl) w w.heap.size wr)) (fun iv _ => n - (intOf iv).toNat)
      case atStart => exact ⟨0, rfl, Nat.zero_le _, HB0, HX1⟩
      case round =>
        clear HX1
        obtain ⟨k, rfl, hk, HK, HX⟩ := hrel
        obtain ⟨c0, c1, hlt⟩ : wr.cell? ⟨w.heap.size, 0, none⟩ = some (.slice pf nf cf) ∧ wr.cell? ⟨w.heap.size, 1, none⟩ = some (.slice pl nl cl) ∧ w.heap.size < wr.heap.size := ⟨HX.out.c0, HX.out.c1, HX.out.lt⟩
        by_cases hkn : k < n
        · have hkl : k < l.length := by rw [← HN.out]; exact hkn
          obtain rfl := HR.out.at_ (by omega)
          have a0 := (HR.out.next HX.out.below).cells k hkl
          have hst := allIn_step (row := row) hkl
          obtain ⟨q, hq⟩ : ∃ q, q = l.getD k 0 := ⟨_, rfl⟩
          rw [← hq] at a0 hst
          have hngq := HNG.out q
          have KNq := Lib.hid (fun W h => KN.out q W h)
          obtain ⟨b, hb⟩ : ∃ b, b = decide (fd q < 0) := ⟨_, rfl⟩
          have hbm : decide (q ∈ row) = !b := by rw [hb, hngq, Bool.not_not]
          rw [hbm] at hst
          have hbs := hb.symm
          have HST := Lib.hid hst
          clear hst hq hkl hngq hbm hb
          go_upto_region 9 with fail
          go_cut [28] from 16 to 28 (fun s28 wc => s28 = .bool b ∧ Hid (Below wr.heap.size wr wc))
          case first =>
            go_region_with (go_at_call 51; refine (KNq.out _ (HX.out.i.next (by first | exact Below.refl _ _ | exact (Below.refl _ _).drew))).mono ?_; rintro e w' ⟨rfl, hb⟩; have HBq := Lib.hid hb; clear hb)
            all_goals
              go_wp2_with fail
              go_meet
              exact ⟨rfl, by first | exact HBq.out | exact (Below.refl _ _).drew.trans HBq.out⟩
          case rest =>
            obtain ⟨rfl, HBc⟩ := hcut
            have HX2 := Lib.hid (HX.out.next HBc.out)
            clear c0 c1 hlt a0 HX HBc hbs
            cases b with
            | true =>
              have hB5 : B = false := by rw [HK.out, HST.out]; rfl
              have HB5 := Lib.hid hB5
              clear hB5
              go_wp2_with fail
              go_ret2
              exact ⟨by rw [HXX.out, HYY.out, HB5.out] <;> rfl, HX2.out.below⟩
            | false =>
              go_wp2_with fail
              go_roundw
              case rel => exact ⟨k + 1, by go_num, by omega, (show _ = _ by rw [HK.out, HST.out]; rfl), HX2⟩
              case measure => simp [intOf]; omega
        · have hB5 : B = true := by rw [HK.out, List.drop_eq_nil_of_le (by rw [← HN.out]; omega)]; rfl
          have HB5 := Lib.hid hB5
          have hcv := KCV.out wr (HR.out.next HX.out.below)
          clear hB5
          go_wp2_with fail
          go_ret2
          exact ⟨by rw [HXX.out, HYY.out, HB5.out] <;> rfl, HX.out.below⟩

/-! ### Turned -/
theorem rev_snoc {l : List Int} {k j : Nat} (h : j + k + 1 = l.length) : l.reverse.take (k + 1) = l.reverse.take k ++ [l.getD j 0] := by
  rw [List.take_succ_eq_append_getElem (by rw [List.length_reverse]; omega), List.getElem_reverse, getD_at (show j < l.length by omega)]
  congr 3
  omega
set_option maxHeartbeats 4000000 in
set_option maxRecDepth 100000 in
theorem rturned_any (A : Al) (s : ByteArray) (w : World) (hA : A.In w) (hT : Tabs w) (hs : s.size ≤ 9223372036854775807) : Calls Tryd.prog 24 #[A.v, .string s] w (TurPost A s w) := by
  unfold TurPost
  have k1 := fun W hA hT => rletters_any A s W hA hT hs
  unfold LetPost at k1
  by_cases h : letE A s = 0
  · have ht : turR A s = strOf (textL (letL A s).reverse) := by unfold turR; rw [if_pos h]
    rw [h, ht]
    rw [h] at k1
    have hl := letL_len A s
    obtain ⟨l, hll⟩ : ∃ l, l = letL A s := ⟨_, rfl⟩
    rw [← hll] at k1 hl ⊢
    have hors := fun (W : World) (B : Nat) (v : Value) (h : W.ownsRow B 21 1 v l.length (l.map E32)) => own_rs h (by omega)
    have kcv := fun (W : World) (B : Nat) (v : Value) (h : W.ownsRow B 21 1 v l.length (l.reverse.map E32)) => (show (convert 22 9 v).run Tryd.prog W = .ok (.string (strOf (textL l.reverse))) W from by
      obtain ⟨pr, br, cr, rfl, hr⟩ := own_rs (l := l.reverse) (by rw [List.length_reverse]; exact h) (by rw [List.length_reverse]; omega)
      exact conv_row hr)
    obtain ⟨n, hn⟩ : ∃ n, n = l.length := ⟨_, rfl⟩
    rw [← hn] at k1 hl hors kcv
    obtain ⟨pf, pl, nf, cf, nl, cl, hv, hnf, hnl, hpl, hcl, hpf, hcf⟩ := A.parts
    rw [hv] at k1 ⊢
    obtain ⟨T, hT'⟩ : ∃ T, T = strOf (textL l.reverse) := ⟨_, rfl⟩
    rw [← hT'] at kcv ⊢
    obtain ⟨i0, hi, hz0, hz1, hz2⟩ := info_parts rune_info32
    have HI0 := Lib.hid hi; have HZ0 := Lib.hid hz0; have HZ1 := Lib.hid hz1; have HZ2 := Lib.hid hz2
    have K1 := Lib.hid k1; have HORS := Lib.hid hors; have KCV := Lib.hid kcv; have HA := Lib.hid hA; have HT := Lib.hid hT; have HN := Lib.hid hn
    clear k1 hors kcv hn hll hT' hA hT hv hnf hnl hpl hcl hpf hcf h ht hi hz0 hz1 hz2
    go_enter Tryd.func24, Tryd.ntmps24
    go_wp2_with fail
    refine (K1.out _ (HA.out.alloc _) (HT.out.next ((Below.refl _ _).alloc (Nat.le_refl _) _))).mono ?_
    rintro e w1 ⟨v, rfl, ho, hb1⟩
    obtain ⟨lp, lb, lc, rfl, hrl⟩ := HORS.out _ _ _ ho
    have HRL := Lib.hid hrl
    have HB := Lib.hid (show Below w.heap.size w w1 from ((Below.refl _ _).alloc (Nat.le_refl _) _).trans (hb1.mono (by simp)))
    clear ho hb1 hrl HORS
    go_wp2_with fail
    go_loopw [8, 9] (fun v iv wr => ∃ (k : Nat) (z : Int), iv = .int .i64 z ∧ z = (n : Int) - 1 - k ∧ k ≤ n ∧ Hid (wr.ownsRow w1.heap.size 21 1 v k ((l.reverse.take k).map E32)) ∧ Hid (Below w1.heap.size w1 wr)) (fun _ iv _ => (intOf iv + 1).toNat)
    case atStart => exact ⟨0, (n : Int) - 1, rfl, by omega, Nat.zero_le _, World.ownsRow_nil _ _ _ _, Below.refl _ _⟩
    case round =>
      obtain ⟨k, z, rfl, hz, hk, HO, HBr⟩ := hrel
      have hszr := HBr.out.size
      obtain ⟨oo, co, rfl⟩ := own_shape HO.out
      by_cases hkn : k < n
      · obtain ⟨j, rfl⟩ := Int.eq_ofNat_of_zero_le (show 0 ≤ z by omega)
        have hjk : j + k + 1 = n := by omega
        have hjl : j < l.length := by rw [← HN.out]; omega
        obtain rfl := HRL.out.at_ (by omega)
        have a0 := (HRL.out.next HBr.out).cells j hjl
        rw [Nat.zero_add] at a0
        have hsn := rev_snoc (l := l) (k := k) (j := j) (by rw [← HN.out]; exact hjk)
        obtain ⟨q, hq⟩ : ∃ q, q = l.getD j 0 := ⟨_, rfl⟩
        rw [← hq] at a0 hsn
        have hjn : (j : Int) < (n : Int) := by omega
        have HSN := Lib.hid hsn
        clear hsn hq hjl hz
        go_wp2_with (at_builtin; refine wpList_append_own _ rfl (.tmp 26) (.tmp 31) 22 rfl w1.heap.size 21 i0 (.int .i32 0) 1 4 Tryd.underlying22 HI0.out HZ0.out HZ1.out HZ2.out rfl (by decide) _ _ _ rfl (HO.out.alloc _) ⟨wr.heap.size, 0, none⟩ 1 1 [.int .i32 q] rfl rfl ?c1 ?c2 ?c3 ?c4 ?c5 ?_)
        case c1 =>
          intro j u hj
          match j, hj with
          | 0, hj => simp at hj; subst hj; simp [Addr.add]
          | j + 1, hj => simp at hj
        case c2 => intro u hu; simp at hu; subst hu; rfl
        case c3 => unfold maxLen; omega
        case c4 => omega
        case c5 => simp; omega
        intro v3 w4 hown3 hgrow3 hnil3
        have hob : ∀ q, (Value.slice oo k co).ownBlock = some q → w1.heap.size ≤ q := fun q hq => (HO.out.lt q hq).1
        have hB3 : Below w1.heap.size w1 w4 := (HBr.out.alloc (by omega) _).grown hgrow3 (by simp; omega) hob
        have hO3 : w4.ownsRow w1.heap.size 21 1 v3 (k + 1) ((l.reverse.take (k + 1)).map E32) := by
          rw [HSN.out, List.map_append]
          simpa only [List.map_take, List.map_cons, List.map_nil, List.map_reverse] using hown3
        have HB3 := Lib.hid hB3; have HO3 := Lib.hid hO3
        clear hob hB3 hown3 hgrow3 hnil3 hO3
        go_wp2_with fail
        go_roundw
        case rel => exact ⟨k + 1, (j : Int) - 1, rfl, by omega, by omega, HO3, HB3⟩
        case measure => simp [intOf]
      · obtain rfl : z = -1 := by omega
        obtain rfl : k = n := by omega
        have hall : l.reverse.take k = l.reverse := List.take_of_length_le (by rw [List.length_reverse, ← HN.out]; omega)
        rw [hall] at HO
        have hcv := KCV.out _ _ _ HO.out
        clear hz
        go_wp2_with fail
        go_ret2
        exact ⟨rfl, HB.out.trans (HBr.out.mono HB.out.size)⟩
  · have ht : turR A s = ByteArray.empty := by unfold turR; rw [if_neg h]
    rw [ht]
    obtain ⟨E, hE⟩ : ∃ E, E = letE A s := ⟨_, rfl⟩
    obtain ⟨pf, pl, nf, cf, nl, cl, hv, hnf, hnl, hpl, hcl, hpf, hcf⟩ := A.parts
    rw [hv] at k1 ⊢
    rw [← hE] at k1 h ⊢
    have e1 : (E == 0) = false := by simp [h]
    have e2 : (E != 0) = true := by simp [h]
    have K1 := Lib.hid k1; have HA := Lib.hid hA; have HT := Lib.hid hT
    clear k1 hA hT hv hnf hnl hpl hcl hpf hcf hE h ht
    go_enter Tryd.func24, Tryd.ntmps24
    go_wp2_with fail
    refine (K1.out _ (HA.out.alloc _) (HT.out.next ((Below.refl _ _).alloc (Nat.le_refl _) _))).mono ?_
    rintro e w1 ⟨v, rfl, ho, hb1⟩
    obtain ⟨o, c, rfl⟩ := own_shape ho
    have HB := Lib.hid (show Below w.heap.size w w1 from ((Below.refl _ _).alloc (Nat.le_refl _) _).trans (hb1.mono (by simp)))
    clear hb1 ho
    go_wp2_with fail
    go_ret2
    exact ⟨rfl, HB.out⟩
end Go.Proofs.YtcibjgkifafohaaDoor
