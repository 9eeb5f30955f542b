/-
  WALKS: slices.CompactFunc at words.
-/
import Derived.Test.YtcibjgkifafohaaDoorCfP
import Derived.Lib.SliceRun
namespace Go.Proofs.YtcibjgkifafohaaDoor
open Go.RowKit Go.Lib
set_option linter.unusedVariables false

theorem setCell_grown (g o : Nat) (v : Value) (w : World) : w.grownBy (w.setCell ⟨g, o, none⟩ v) (some g) := by
  rw [Sort.setCell_eq]
  refine ⟨rfl, rfl, rfl, by simp [Sort.mapBlock], fun k hk hne => ?_⟩
  show (w.heap.modify g _)[k]? = _
  rw [Array.getElem?_modify, if_neg (by intro e; exact hne (by rw [e]))]
theorem setCells_grown (g : Nat) : ∀ (vs : List Value) (o : Nat) (w : World), w.grownBy (w.setCells g o vs) (some g)
  | [], _, w => ⟨rfl, rfl, rfl, Nat.le_refl _, fun k _ _ => rfl⟩
  | v :: r, o, w => grown_step (setCell_grown g o v w) (setCells_grown g r (o + 1) _) (fun q hq => Or.inl hq)

set_option maxHeartbeats 4000000 in
set_option maxRecDepth 100000 in
theorem compf_any (B g cap n : Nat) (D : List Value) (E : Nat → Bool) (w : World) (hD : ∀ j, j < n → ∃ p m c, D[j]? = some (.slice p m c)) (ho : w.ownsRow B 22 1 (.slice (some ⟨g, 0, none⟩) n cap) n D) (hn : n = D.length) (hn4 : n ≤ 4096)
    (ke : ∀ i x y, i + 1 < n → D[i + 1]? = some x → D[i]? = some y → ∀ W, w.grownBy W (some g) → Calls Tryd.prog 66 #[x, y] W fun e w' => e = .returned (.bool (E (i + 1))) ∧ QB W w') :
    Calls Tryd.prog 65 #[.slice (some ⟨g, 0, none⟩) n cap, .func (.func 66) #[] #[]] w fun e w' =>
      e = .returned (.slice (some ⟨g, 0, none⟩) (kpL E n).length cap) ∧ (∀ j, j < (kpL E n).length → w'.cell? ⟨g, j, none⟩ = D[(kpL E n).getD j 0]?) ∧ w.grownBy w' (some g) := by
  have HO := Lib.hid ho; have HN := Lib.hid hn; have HD := Lib.hid hD; have KE := Lib.hid ke
  clear ho hn hD ke
  by_cases h2 : n < 2
  · have hall : kpL E n = List.range n := kpL_all n fun i h0 h1 => absurd h1 (by omega)
    have hP : (kpL E n).length = n ∧ (∀ j, j < (kpL E n).length → w.cell? ⟨g, j, none⟩ = D[(kpL E n).getD j 0]?) := by
      rw [hall, List.length_range]
      refine ⟨rfl, fun j hj => ?_⟩
      rw [List.getD_eq_getElem?_getD, List.getElem?_range hj, HO.out.cellAt j (by omega)]
      rfl
    have HP := Lib.hid hP
    obtain ⟨K, hK⟩ : ∃ K, K = kpL E n := ⟨_, rfl⟩
    rw [← hK] at HP ⊢
    obtain ⟨m, hm⟩ : ∃ m, m = K.length := ⟨_, rfl⟩
    rw [← hm] at HP ⊢
    clear hall hP hK hm
    go_enter Tryd.func65, Tryd.ntmps65
    go_wp2_with fail
    go_ret
    exact ⟨by rw [HP.out.1] <;> rfl, HP.out.2, ⟨rfl, rfl, rfl, Nat.le_refl _, fun k _ _ => rfl⟩⟩
  · obtain ⟨R, hR⟩ : ∃ K, K = kpL E n := ⟨_, rfl⟩
    have HR := Lib.hid hR
    rw [← hR]
    clear hR
    go_enter Tryd.func65, Tryd.ntmps65
    go_wp2_with fail
    go_loopw [5] (fun iv wr => ∃ k : Nat, iv = .int .i64 (k + 1 : Nat) ∧ k + 1 ≤ n ∧ Hid (∀ i, 0 < i → i < k + 1 → E i = false) ∧ Hid (QB w wr)) (fun iv _ => n - (intOf iv).toNat)
    case atStart => exact ⟨0, rfl, by omega, fun i h0 h1 => absurd h1 (by omega), QB.refl _⟩
    case round =>
      obtain ⟨k, rfl, hk, HE, HB⟩ := hrel
      have hgr : w.grownBy wr (some g) := by
        obtain ⟨q, hq⟩ := HB.out
        subst hq
        exact ⟨rfl, rfl, rfl, Nat.le_refl _, fun k _ _ => rfl⟩
      by_cases hkn : k + 1 < n
      · obtain ⟨p1, m1, c1, e1⟩ := HD.out (k + 1) hkn
        obtain ⟨p0, m0, c0, e0⟩ := HD.out k (by omega)
        have hor := own_below HO.out HB.out.below
        have a1 : wr.cell? ⟨g, k + 1, none⟩ = some (.slice p1 m1 c1) := by rw [hor.cellAt (k + 1) (by omega)]; exact e1
        have a0 : wr.cell? ⟨g, k, none⟩ = some (.slice p0 m0 c0) := by rw [hor.cellAt k (by omega)]; exact e0
        have kc := fun q => KE.out k _ _ hkn e1 e0 (wr.drewN q) (⟨hgr.os, hgr.tape, hgr.output, hgr.size, hgr.block⟩)
        have hz1 : ((k : Int) + 1) < (n : Int) := by omega
        have hz2 : (k : Int) < (n : Int) := by omega
        have q1 : IntKind.i64.wrap ((k : Int) + 1 - 1) = (k : Int) := by rw [IntKind.wrap_i64]; omega
        obtain ⟨X, hX⟩ : ∃ X, X = E (k + 1) := ⟨_, rfl⟩
        rw [← hX] at kc
        have KC := Lib.hid kc; have HX := Lib.hid hX
        clear kc hX e1 e0 hor hgr
        go_wp2_with fail
        go_quiet (first | (go_at_call 66; with_reducible exact Calls.quiet_of (KC.out _)))
        have HBq := Lib.hid (HB.out.drew nq)
        cases X with
        | false =>
          have HE2 := Lib.hid (show ∀ i, 0 < i → i < k + 1 + 1 → E i = false from fun i h0 h1 => by
            by_cases e : i = k + 1
            · subst e; exact HX.out.symm
            · exact HE.out i h0 (by omega))
          go_wp2_with fail
          go_roundw
          case rel => exact ⟨k + 1, by go_num, by omega, HE2, HBq⟩
          case measure => simp [intOf]; omega
        | true =>
          have hbd : n ≤ cap ∧ cap ≤ 9223372036854775807 := by
            rcases HO.out.2 with ⟨he, h0⟩ | ⟨g', cap', cur, he, hBg, hg, hc, hm, hsz, ht⟩
            · simp at he
            · simp only [Value.slice.injEq] at he
              obtain ⟨_, _, rfl⟩ := he
              unfold maxLen at hm
              exact ⟨hc, by omega⟩
          obtain ⟨hb1, hb2⟩ := hbd
          have hst := KpIn.skip (KpIn.start (D := D) HE.out) HX.out.symm (by omega)
          have HST := Lib.hid hst
          have HOr := Lib.hid (own_below HO.out HBq.out.below)
          have hgr2 : w.grownBy (wr.drewN nq) (some g) := by
            obtain ⟨q, hq⟩ := HBq.out
            rw [hq]
            exact ⟨rfl, rfl, rfl, Nat.le_refl _, fun k _ _ => rfl⟩
          have HGr := Lib.hid hgr2
          have hkl : (kpL E (k + 2)).length = k + 1 := by
            rw [kpL_no HX.out.symm (by omega), kpL_all (k + 1) HE.out, List.length_range]
          have HKL := Lib.hid hkl
          have hs2 : n - (k + 1) ≤ cap - (k + 1) := by omega
          clear hst hgr2 hkl KC
          go_wp2_with fail
          clear HBq HB hb1 hs2 hb2
          go_loopw [5, 7] (fun kv iv wk => ∃ (j : Nat) (xs : List Value), iv = .int .i64 (j + 1 : Nat) ∧ k + 1 + (j + 1) ≤ n ∧ kv = .int .i64 ((kpL E (k + 1 + (j + 1))).length : Nat) ∧ Hid (KpIn E D (k + 1 + (j + 1)) xs) ∧ Hid (wk.ownsRow B 22 1 (.slice (some ⟨g, 0, none⟩) n cap) n xs) ∧ Hid (w.grownBy wk (some g))) (fun _ iv _ => n - (intOf iv).toNat)
          case atStart => exact ⟨0, D, rfl, by omega, by have := HKL.out; rw [show k + 1 + (0 + 1) = k + 2 by omega, this], HST, HOr, HGr⟩
          case round =>
            clear HST HOr HGr HKL
            obtain ⟨j, xs, rfl, hj, rfl, HK, HOw, HG⟩ := hrel
            obtain ⟨K, hK⟩ : ∃ K, K = (kpL E (k + 1 + (j + 1))).length := ⟨_, rfl⟩
            have hKn : K < k + 1 + (j + 1) := by rw [hK]; exact kpL_lt (k + 1) (by omega) (by omega) HX.out.symm
            rw [← hK]
            by_cases hjn : k + 1 + (j + 1) < n
            · obtain ⟨p1, m1, c1, e1⟩ := HD.out (k + 1 + (j + 1)) hjn
              obtain ⟨p0, m0, c0, e0⟩ := HD.out (k + 1 + j) (by omega)
              have hlx := HK.out.len
              have r1 := HK.out.rest (k + 1 + (j + 1)) (by omega) (by rw [← HN.out]; omega)
              have r0 := HK.out.rest (k + 1 + j) (by omega) (by rw [← HN.out]; omega)
              have b1 : wr.cell? ⟨g, k + 1 + (j + 1), none⟩ = some (.slice p1 m1 c1) := by rw [HOw.out.cellAt _ (by omega), r1]; exact e1
              have b0 : wr.cell? ⟨g, k + 1 + j, none⟩ = some (.slice p0 m0 c0) := by rw [HOw.out.cellAt _ (by omega), r0]; exact e0
              have kc := fun q => KE.out (k + 1 + j) _ _ (by omega) e1 e0 (wr.drewN q) ⟨HG.out.os, HG.out.tape, HG.out.output, HG.out.size, HG.out.block⟩
              have hz3 : ((j : Int) + 1) < ((n - (k + 1) : Nat) : Int) := by omega
              have hz4 : (j : Int) < ((n - (k + 1) : Nat) : Int) := by omega
              have q2 : IntKind.i64.wrap ((j : Int) + 1 - 1) = (j : Int) := by rw [IntKind.wrap_i64]; omega
              have hkeep := fun (he : E (k + 1 + (j + 1)) = false) => KpIn.keep HK.out he (by rw [← HN.out]; omega) e1 (by rw [← hK]; omega)
              have hskip := fun (he : E (k + 1 + (j + 1)) = true) => KpIn.skip HK.out he (by omega)
              have hly := fun (he : E (k + 1 + (j + 1)) = false) => kpL_yes he
              have hln := fun (he : E (k + 1 + (j + 1)) = true) => kpL_no he (by omega)
              obtain ⟨X2, hX2⟩ : ∃ X, X = E (k + 1 + (j + 1)) := ⟨_, rfl⟩
              have kc2 : ∀ q, Calls Tryd.prog 66 #[.slice p1 m1 c1, .slice p0 m0 c0] (wr.drewN q) fun e w' => e = .returned (.bool X2) ∧ QB (wr.drewN q) w' := fun q => by rw [hX2]; exact kc q
              have KC2 := Lib.hid kc2
              rw [← hX2, ← hK] at hkeep
              rw [← hX2] at hskip hly hln
              have HKp := Lib.hid hkeep; have HSk := Lib.hid hskip; have HLY := Lib.hid hly; have HLN := Lib.hid hln
              have hyK := HOw.out.cellAt K (by omega)
              rw [List.getElem?_eq_getElem (by rw [hlx, ← HN.out]; omega)] at hyK
              obtain ⟨y, hy⟩ : ∃ y, wr.cell? ⟨g, K, none⟩ = some y := ⟨_, hyK⟩
              have hfz := HOw.out.frozenAt K
              have hzk : (K : Int) < (n : Int) := by omega
              have HKK := Lib.hid hK
              clear kc kc2 hkeep hskip hly hln e1 e0 r1 r0 hyK hX2 hK
              go_wp2_with fail
              go_quiet (first | (go_at_call 66; with_reducible exact Calls.quiet_of (KC2.out _)))
              have hGq : w.grownBy (wr.drewN nq) (some g) := ⟨HG.out.os, HG.out.tape, HG.out.output, HG.out.size, HG.out.block⟩
              have HGq := Lib.hid hGq
              have HOq := Lib.hid (own_below HOw.out (below_drewN (Below.refl wr.heap.size wr) nq))
              have hyd : (wr.drewN nq).cell? ⟨g, K, none⟩ = some y := hy
              have hfd : (wr.drewN nq).frozen? ⟨g, K, none⟩ = false := hfz
              have b1d : (wr.drewN nq).cell? ⟨g, k + 1 + (j + 1), none⟩ = some (.slice p1 m1 c1) := b1
              clear hGq hy hfz b1 b0 HOw HG
              cases X2 with
              | true =>
                have HS2 := Lib.hid (HSk.out rfl)
                have HL2 := Lib.hid (HLN.out rfl)
                clear HKp HSk HLY HLN KC2
                go_wp2_with fail
                go_roundw
                case rel => exact ⟨j + 1, xs, by go_num, by omega, by rw [show k + 1 + (j + 1 + 1) = k + 1 + (j + 1) + 1 by omega, HL2.out, ← HKK.out], by rw [show k + 1 + (j + 1 + 1) = k + 1 + (j + 1) + 1 by omega]; exact HS2.out, HOq, HGq⟩
                case measure => simp [intOf]; omega
              | false =>
                have HS2 := Lib.hid (HKp.out rfl)
                have HL2 := Lib.hid (HLY.out rfl)
                obtain ⟨hs1, hs2⟩ := HOq.out.stored K (.slice p1 m1 c1)
                have HO2 := Lib.hid hs1
                have hg2 : w.grownBy ((wr.drewN nq).setCell ⟨g, K, none⟩ (.slice p1 m1 c1)) (some g) := grown_step HGq.out hs2 (fun q hq => Or.inl hq)
                have HG2 := Lib.hid hg2
                clear HKp HSk HLY HLN KC2 hs1 hs2 hg2 HGq HOq
                go_wp2_with fail
                go_roundw
                case rel => exact ⟨j + 1, _, by go_num, by omega, by rw [show k + 1 + (j + 1 + 1) = k + 1 + (j + 1) + 1 by omega, HL2.out, List.length_append, ← HKK.out]; go_num, by rw [show k + 1 + (j + 1 + 1) = k + 1 + (j + 1) + 1 by omega]; exact HS2.out, HO2, HG2⟩
                case measure => simp [intOf]; omega
            · have htn : k + 1 + (j + 1) = n := by omega
              have hx : (kpL E n).length = K := by rw [hK, htn]
              have hKl : K < n := by omega
              have hxR : R.length = K := by rw [HR.out]; exact hx
              have hkp := HK.out
              rw [htn] at hkp
              have hcl : ∀ ty, (Builtin.clear_ #[93] ty #[.slice (some ⟨g, K, none⟩) (n - K) (cap - K)]).run Tryd.prog wr = .ok (.tuple #[]) (wr.setCells g K (List.replicate (n - K) (.slice none 0 0))) :=
                fun ty => Lib.run_clear_slice wr 93 22 ty (.slice none 0 0) Tryd.underlying93 Tryd.zeroValue22 rfl rfl g K (n - K) (cap - K) (by omega)
                  (fun i hi => by rw [HOw.out.cellAt (K + i) (by omega), List.getElem?_eq_getElem (by rw [hkp.len, ← HN.out]; omega)]; rfl) (fun i hi => HOw.out.frozenAt (K + i))
              have hfin : (∀ i, i < R.length → (wr.setCells g K (List.replicate (n - K) (.slice none 0 0))).cell? ⟨g, i, none⟩ = D[R.getD i 0]?) ∧ w.grownBy (wr.setCells g K (List.replicate (n - K) (.slice none 0 0))) (some g) := by
                refine ⟨fun i hi => ?_, grown_step HG.out (setCells_grown g _ _ _) (fun q hq => Or.inl hq)⟩
                rw [World.cell?_setCells_out g _ K wr ⟨g, i, none⟩ (fun _ _ => Or.inl (by show i < K; omega)), HOw.out.cellAt i (by omega), HR.out]
                exact hkp.kept i (by rw [hx]; omega)
              have HFin := Lib.hid hfin
              have HxR := Lib.hid hxR
              have hbd : n ≤ cap ∧ cap ≤ 9223372036854775807 := by
                rcases HO.out.2 with ⟨he, h0⟩ | ⟨g', cap', cur, he, hBg, hg, hc, hm, hsz, ht⟩
                · simp at he
                · simp only [Value.slice.injEq] at he
                  obtain ⟨_, _, rfl⟩ := he
                  unfold maxLen at hm
                  exact ⟨hc, by omega⟩
              obtain ⟨hb1, hb2⟩ := hbd
              have hb3 : n - K ≤ cap - K := by omega
              have hz5 : decide (((j + 1 : Nat) : Int) < ((n - (k + 1) : Nat) : Int)) = false := by simp; omega
              clear hfin hxR hkp hx htn hK
              go_wp2_with fail
              go_ret
              exact ⟨by rw [HxR.out] <;> rfl, HFin.out.1, HFin.out.2⟩
      · have hkk : k + 1 = n := by omega
        have hall : kpL E n = List.range n := kpL_all n fun i h0 h1 => HE.out i h0 (by omega)
        have hfin : R.length = n ∧ (∀ i, i < R.length → wr.cell? ⟨g, i, none⟩ = D[R.getD i 0]?) ∧ w.grownBy wr (some g) := by
          rw [HR.out, hall, List.length_range]
          refine ⟨rfl, fun i hi => ?_, hgr⟩
          rw [List.getD_eq_getElem?_getD, List.getElem?_range hi, (own_below HO.out HB.out.below).cellAt i (by omega)]
          rfl
        have HFin := Lib.hid hfin
        have hz5 : decide (((k + 1 : Nat) : Int) < (n : Int)) = false := by simp; omega
        clear hfin hall hgr
        go_wp2_with fail
        go_ret
        exact ⟨by rw [HFin.out.1] <;> rfl, HFin.out.2.1, HFin.out.2.2⟩
end Go.Proofs.YtcibjgkifafohaaDoor
