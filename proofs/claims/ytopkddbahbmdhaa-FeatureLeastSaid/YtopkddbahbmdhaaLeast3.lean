/-
  WALKS: cognatelaw02.FeatureLeast, where there is an answer; the whole.
-/
import Derived.Test.YtopkddbahbmdhaaLeast2
namespace Go.Proofs.Ytopkddbahbmdhaa
open Go.RowKit Go.Lib
set_option linter.unusedVariables false

/-- A row of runes that a call made, as RsIn. -/
theorem own_rs {w : World} {B : Nat} {v : Value} {l : List Int} (h : w.ownsRow B 21 1 v l.length (l.map E32)) (hb : l.length ≤ 140737488355328) : ∃ pr br cr, v = .slice pr l.length cr ∧ RsIn pr br 0 l w := by
  rcases h.2 with ⟨rfl, hn⟩ | ⟨g, cap, cur, rfl, _⟩
  · exact ⟨none, 0, 0, by rw [hn], ⟨fun h => absurd h (by omega), fun j hj => absurd hj (by omega), hb⟩⟩
  · refine ⟨_, g, cap, rfl, ⟨fun _ => rfl, fun j hj => ?_, hb⟩⟩
    rw [Nat.zero_add, h.cellAt j (by omega), List.getElem?_map, List.getD_eq_getElem?_getD, List.getElem?_eq_getElem hj]
    rfl
theorem clsR_len (A : Al) (p m : Nat) : (clsR A p m).length ≤ A.ls.length := by
  unfold clsR
  split
  · unfold clsL
    rw [List.length_map]
    exact List.length_filter_le _ _
  · exact Nat.zero_le _
theorem u_class2 {A : Al} {p m : Nat} {w : World} (h : A.In w) (hp : p < 4294967296) (hm : m < 4294967296) (ha : aacR A p m = 0) :
    Calls Try.prog 17 #[A.v, .int .u32 p, .int .u32 m] w fun e w' => ∃ pr br cr, e = .returned (.tuple #[.slice pr (clsR A p m).length cr, .int .i64 0]) ∧ RsIn pr br 0 (clsR A p m) w' ∧ Below w.heap.size w w' := by
  refine (class_any A p m w h hp hm).mono ?_
  rintro e w' ⟨v, he, ho, hb⟩
  obtain ⟨pr, br, cr, rfl, hr⟩ := own_rs ho (Nat.le_trans (clsR_len A p m) h.L.big)
  rw [ha] at he
  exact ⟨pr, br, cr, he, hr, hb⟩

theorem drop_get {L : List Int} {k : Nat} (h : k < L.length) : L.drop k = L.getD k 0 :: L.drop (k + 1) := by
  rw [List.drop_eq_getElem_cons h, List.getD_eq_getElem?_getD, List.getElem?_eq_getElem h]
  rfl
theorem sub_eq {C D : List Int} {k i : Nat} (hk : k < C.length) (hi : i < D.length) (h : (C.drop k).Sublist (D.drop i)) : (C.drop (k + 1)).Sublist (D.drop (i + 1)) := by
  rw [drop_get hk, drop_get hi] at h
  exact sublist_cons_eq h
theorem sub_ne {C D : List Int} {k i : Nat} (hk : k < C.length) (hi : i < D.length) (h : (C.drop k).Sublist (D.drop i)) (hne : ¬ D.getD i 0 = C.getD k 0) : (C.drop k).Sublist (D.drop (i + 1)) := by
  rw [drop_get hk, drop_get hi] at h
  rw [drop_get hk]
  exact sublist_cons_ne h hne
theorem sub_end {C D : List Int} {k : Nat} (hk : k ≤ C.length) (h : (C.drop k).Sublist (D.drop D.length)) : k = C.length := by
  rw [List.drop_length] at h
  have := h.length_le
  simp only [List.length_drop, List.length_nil] at this
  omega

set_option maxHeartbeats 8000000 in
set_option maxRecDepth 100000 in
theorem leastL_yes (A : Al) (pr : Option Addr) (br r0 cr : Nat) (l : List Int) (p m : Nat) (w : World) (hA : A.In w) (hR : RsIn pr br r0 l w) (hp : p < 4294967296) (hm : m < 4294967296) (P M : Nat)
    (h1 : leastR A l = (P, M, 0)) (hP : P < 16777216) (hM : M < 16777216) (h128 : l.length ≤ 128) (hh : ∀ r ∈ l, hasR A r P M = (true, 0)) (ha1 : aacR A P M = 0) (ha2 : aacR A (P &&& p) (M &&& m) = 0)
    (hall : (∀ r ∈ l, hasR A r p m = (true, 0)) → p &&& P = p ∧ m &&& M = m) (hsub : (clsR A P M).Sublist (clsR A (P &&& p) (M &&& m))) :
    Calls Try.prog 8 #[A.v, .slice pr l.length cr, .int .u32 p, .int .u32 m] w fun e w' => e = .returned (.bool true) ∧ Below w.heap.size w w' := by
  have HAL := Lib.hid alive_any
  have hmem : ∀ k, k < l.length → l.getD k 0 ∈ l := fun k hk => by rw [List.getD_eq_getElem?_getD, List.getElem?_eq_getElem hk]; exact List.getElem_mem hk
  have k1 := fun w (h : A.In w) (hR : RsIn pr br r0 l w) => u_least2 (cr := cr) h hR h1
  have k2 := fun k (hk : k < l.length) w (h : A.In w) => u_has2 (r := l.getD k 0) h (show P < 4294967296 by omega) (show M < 4294967296 by omega) (hh _ (hmem k hk))
  have k3 := fun k w (h : A.In w) => u_has2 (r := l.getD k 0) (b := (hasR A (l.getD k 0) p m).1) (e := (hasR A (l.getD k 0) p m).2) h hp hm rfl
  have hPp : P &&& p < 4294967296 := Nat.and_lt_two_pow (n := 32) _ hp
  have hMm : M &&& m < 4294967296 := Nat.and_lt_two_pow (n := 32) _ hm
  have k4 := fun w (h : A.In w) => u_class2 h (show P < 4294967296 by omega) (show M < 4294967296 by omega) ha1
  have k5 := fun w (h : A.In w) => u_class2 h hPp hMm ha2
  have hall' : (∀ k, k < l.length → (hasR A (l.getD k 0) p m).1 = true ∧ (hasR A (l.getD k 0) p m).2 = 0) → p &&& P = p ∧ m &&& M = m := fun h => hall fun r hr => by
    obtain ⟨k, hk, rfl⟩ := List.getElem_of_mem hr
    have e := h k hk
    rw [List.getD_eq_getElem?_getD, List.getElem?_eq_getElem hk] at e
    exact Prod.ext e.1 e.2
  have f1 := u32_and_nat p P hp (by omega)
  have f2 := u32_and_nat m M hm (by omega)
  have f3 := u32_and_nat P p (by omega) hp
  have f4 := u32_and_nat M m (by omega) hm
  obtain ⟨Z1, hZ1⟩ : ∃ Z, Z = p &&& P := ⟨_, rfl⟩
  obtain ⟨Z2, hZ2⟩ : ∃ Z, Z = m &&& M := ⟨_, rfl⟩
  obtain ⟨Z3, hZ3⟩ : ∃ Z, Z = P &&& p := ⟨_, rfl⟩
  obtain ⟨Z4, hZ4⟩ : ∃ Z, Z = M &&& m := ⟨_, rfl⟩
  rw [← hZ1] at f1 hall'
  rw [← hZ2] at f2 hall'
  rw [← hZ3] at f3 k5 hsub
  rw [← hZ4] at f4 k5 hsub
  obtain ⟨T, hT⟩ : ∃ T : Nat → Bool, ∀ k, T k = (hasR A (l.getD k 0) p m).1 := ⟨_, fun _ => rfl⟩
  obtain ⟨E, hE⟩ : ∃ T : Nat → Int, ∀ k, T k = (hasR A (l.getD k 0) p m).2 := ⟨_, fun _ => rfl⟩
  simp only [← hT, ← hE] at k3 hall'
  have hlen := hsub.length_le
  have hcl := clsR_len A P M
  have hdl := clsR_len A Z3 Z4
  have hbig := hA.L.big
  obtain ⟨C, hC⟩ : ∃ C, C = clsR A P M := ⟨_, rfl⟩
  obtain ⟨D, hD⟩ : ∃ C, C = clsR A Z3 Z4 := ⟨_, rfl⟩
  rw [← hC] at k4 hsub hlen hcl
  rw [← hD] at k5 hsub hlen hdl
  obtain ⟨pf, pl, nf, cf, nl, cl, hv, hnf, hnl, hpl, hcl', hpf, hcf⟩ := A.parts
  rw [hv] at k1 k2 k3 k4 k5 ⊢
  obtain ⟨n, hnn⟩ : ∃ n, n = l.length := ⟨_, rfl⟩
  obtain ⟨nc, hnc⟩ : ∃ n, n = C.length := ⟨_, rfl⟩
  obtain ⟨nd, hnd⟩ : ∃ n, n = D.length := ⟨_, rfl⟩
  rw [← hnn] at k1 k2 h128 hall' ⊢
  rw [← hnc] at k4 hlen hcl
  rw [← hnd] at k5 hlen hdl
  have hs' : ¬ (300 : Int) < (n : Int) := by omega
  have hlenz : ¬ (nd : Int) < (nc : Int) := by omega
  have hnd47 : nd ≤ 140737488355328 := by omega
  have hbx := Bx.start (F := .slice pf nf cf) (L := .slice pl nl cl) hA
  have HS := Lib.hid hbx; have K1 := Lib.hid k1; have K2 := Lib.hid k2; have K3 := Lib.hid k3; have K4 := Lib.hid k4; have K5 := Lib.hid k5; have HR := Lib.hid hR
  have HALL := Lib.hid hall'; have HSUB := Lib.hid hsub; have HN := Lib.hid hnn; have HNC := Lib.hid hnc; have HND := Lib.hid hnd
  clear hbx hA hv hnf hnl hpl hcl' hpf hcf k1 k2 k3 k4 k5 hR hnn hnc hnd hC hD hsub hall hall' hT hE hZ1 hZ2 hZ3 hZ4 hPp hMm ha1 ha2 hh h1 hmem hbig hcl hdl hp hm
  go_enter Try.func8, Try.ntmps8
  go_wp2_with fail
  refine (HAL.out _).mono ?_
  rintro _ w1 ⟨rfl, hb⟩
  have hs := HS.out.next hb
  obtain ⟨c0, c1, hlt⟩ : w1.cell? ⟨w.heap.size, 0, none⟩ = some (.slice pf nf cf) ∧ w1.cell? ⟨w.heap.size, 1, none⟩ = some (.slice pl nl cl) ∧ w.heap.size < w1.heap.size := ⟨hs.c0, hs.c1, hs.lt⟩
  clear HS
  have HS := Lib.hid hs
  clear hs hb
  go_wp2_with fail
  refine (K1.out _ HS.out.i (HR.out.next HS.out.below)).mono ?_
  rintro _ w2 ⟨rfl, hb⟩
  have hs := HS.out.next hb
  clear HS c0 c1 hlt
  have HS := Lib.hid hs
  clear hs hb K1
  go_wp2_with fail
  go_loopw [13, 14] (fun s13 s14 wr => ∃ (ab : Bool) (k : Nat), s13 = .bool ab ∧ s14 = .int .i64 k ∧ k ≤ n ∧ Hid (ab = true → ∀ i, i < k → T i = true ∧ E i = 0) ∧ Hid (Bx A (.slice pf nf cf) (.slice pl nl cl) w w.heap.size wr)) (fun _ i _ => n - (intOf i).toNat)
  case atStart => exact ⟨true, 0, rfl, rfl, Nat.zero_le _, fun _ i hi => absurd hi (by omega), HS⟩
  case round =>
    obtain ⟨ab, k, rfl, rfl, hk, HAB, HX⟩ := hrel
    obtain ⟨c0, c1, hlt⟩ : wr.cell? ⟨w.heap.size, 0, none⟩ = some (.slice pf nf cf) ∧ wr.cell? ⟨w.heap.size, 1, none⟩ = some (.slice pl nl cl) ∧ w.heap.size < wr.heap.size := ⟨HX.out.c0, HX.out.c1, HX.out.lt⟩
    by_cases hkn : k < n
    · obtain rfl := HR.out.at_ (by rw [← HN.out]; omega)
      have a0 := (HR.out.next HX.out.below).cells k (by rw [← HN.out]; exact hkn)
      obtain ⟨q, hq⟩ : ∃ q, q = l.getD k 0 := ⟨_, rfl⟩
      have k2 := K2.out k hkn
      have k3 := K3.out k
      have hR2 := fun w' (hb : Below w.heap.size w w') => (HR.out.next hb).cells k (by rw [← HN.out]; exact hkn)
      rw [← hq] at a0 k2 k3 hR2
      have K2k := Lib.hid k2; have K3k := Lib.hid k3; have HR2 := Lib.hid hR2
      clear k2 k3 hq hR2
      go_upto_region 13 with fail
      go_cut [15, 16] from 46 to 87 (fun s15 s16 wc => s15 = .bool true ∧ s16 = .int .i64 0 ∧ Hid (Below wr.heap.size wr wc))
      case first =>
        go_region_with (go_at_call 16; refine (K2k.out _ (HX.out.i.next (by first | exact Below.refl _ _ | exact (Below.refl _ _).drew))).mono ?_; rintro e w' ⟨rfl, hb⟩; have HBq := Lib.hid hb; clear hb)
        all_goals
          go_wp2_with fail
          go_meet
          exact ⟨rfl, rfl, by first | exact HBq.out | exact (Below.refl _ _).drew.trans HBq.out⟩
      case rest =>
        obtain ⟨rfl, rfl, HBc⟩ := hcut
        have hx2 := HX.out.next HBc.out
        have HX2 := Lib.hid hx2
        obtain ⟨c0', c1', hlt'⟩ : wc.cell? ⟨w.heap.size, 0, none⟩ = some (.slice pf nf cf) ∧ wc.cell? ⟨w.heap.size, 1, none⟩ = some (.slice pl nl cl) ∧ w.heap.size < wc.heap.size := ⟨hx2.c0, hx2.c1, hx2.lt⟩
        have a0' := HR2.out wc hx2.below
        obtain ⟨tk, htk⟩ : ∃ t, t = T k := ⟨_, rfl⟩
        obtain ⟨ek, hek⟩ : ∃ t, t = E k := ⟨_, rfl⟩
        rw [← htk, ← hek] at K3k
        have HAB2 := Lib.hid (show ab = true → tk = true → ek = 0 → ∀ i, i < k + 1 → T i = true ∧ E i = 0 from fun ha ht he i hi => by
          by_cases hik : i < k
          · exact HAB.out ha i hik
          · obtain rfl : i = k := by omega
            exact ⟨by rw [← htk]; exact ht, by rw [← hek]; exact he⟩)
        clear hx2 c0 c1 hlt a0 htk hek HAB HX HBc
        go_upto_region 14 with fail
        go_cut [17, 18] from 46 to 87 (fun s17 s18 wd => s17 = .bool tk ∧ s18 = .int .i64 ek ∧ Hid (Below wc.heap.size wc wd))
        case first =>
          go_region_with (go_at_call 16; refine (K3k.out _ (HX2.out.i.next (by first | exact Below.refl _ _ | exact (Below.refl _ _).drew))).mono ?_; rintro e w' ⟨rfl, hb⟩; have HBq := Lib.hid hb; clear hb)
          all_goals
            go_wp2_with fail
            go_meet
            exact ⟨rfl, rfl, by first | exact HBq.out | exact (Below.refl _ _).drew.trans HBq.out⟩
        case rest =>
          obtain ⟨rfl, rfl, HBd⟩ := hcut
          have HX3 := Lib.hid (HX2.out.next HBd.out)
          clear HX2 HBd c0' c1' hlt' a0'
          cases ab with
          | false =>
            go_wp2_with fail
            go_roundw
            case rel => exact ⟨_, k + 1, rfl, by go_num, by omega, fun h => absurd h (by decide), HX3⟩
            case measure => simp [intOf]; omega
          | true =>
            by_cases he0 : ek = 0
            · have i1 : (ek == 0) = true := by simp [he0]
              have HE0 := Lib.hid he0
              clear he0
              cases tk with
              | false =>
                go_wp2_with fail
                go_roundw
                case rel => exact ⟨_, k + 1, rfl, by go_num, by omega, fun h => absurd h (by decide), HX3⟩
                case measure => simp [intOf]; omega
              | true =>
                go_wp2_with fail
                go_roundw
                case rel => exact ⟨_, k + 1, rfl, by go_num, by omega, fun _ => HAB2.out rfl rfl HE0.out, HX3⟩
                case measure => simp [intOf]; omega
            · have i1 : (ek == 0) = false := by simp [he0]
              clear he0
              go_wp2_with fail
              go_roundw
              case rel => exact ⟨_, k + 1, rfl, by go_num, by omega, fun h => absurd h (by decide), HX3⟩
              case measure => simp [intOf]; omega
    · obtain rfl : k = n := by omega
      cases ab with
      | true =>
        obtain ⟨hz1, hz2⟩ := HALL.out (fun i hi => HAB.out rfl i hi)
        have q1 : ((Z1 : Int) == (p : Int)) = true := by simp [hz1]
        have q2 : ((Z1 : Int) != (p : Int)) = false := by simp [hz1]
        have q3 : ((Z2 : Int) == (m : Int)) = true := by simp [hz2]
        have q4 : ((Z2 : Int) != (m : Int)) = false := by simp [hz2]
        clear hz1 hz2 HAB
        go_wp2_with fail
        refine (K4.out _ HX.out.i).mono ?_
        rintro _ w6 ⟨prc, brc, crc, rfl, hrc, hb⟩
        have hx6 := HX.out.next hb
        obtain ⟨c0', c1', hlt'⟩ : w6.cell? ⟨w.heap.size, 0, none⟩ = some (.slice pf nf cf) ∧ w6.cell? ⟨w.heap.size, 1, none⟩ = some (.slice pl nl cl) ∧ w.heap.size < w6.heap.size := ⟨hx6.c0, hx6.c1, hx6.lt⟩
        have HX6 := Lib.hid hx6; have HRC := Lib.hid hrc
        clear hx6 hb hrc c0 c1 hlt HX K4
        go_wp2_with fail
        refine (K5.out _ HX6.out.i).mono ?_
        rintro _ w7 ⟨prd, brd, crd, rfl, hrd, hb⟩
        have hx7 := HX6.out.next hb
        have HRC7 := Lib.hid (HRC.out.next hb); have HRD := Lib.hid hrd; have HX7 := Lib.hid hx7
        clear hx7 hb hrd HRC HX6 K5 c0' c1' hlt' f1 f2 f3 f4
        go_wp2_with fail
        go_loopw [23, 24] (fun s23 s24 wr => ∃ kc i : Nat, s23 = .int .i64 kc ∧ s24 = .int .i64 i ∧ kc ≤ nc ∧ i ≤ nd ∧ Hid ((C.drop kc).Sublist (D.drop i)) ∧ Hid (Below w7.heap.size w7 wr)) (fun _ i _ => nd - (intOf i).toNat)
        case atStart => exact ⟨0, 0, rfl, rfl, Nat.zero_le _, Nat.zero_le _, HSUB.out, Below.refl _ _⟩
        case round =>
          obtain ⟨kc, i, rfl, rfl, hkc, hi, HSB, HBl⟩ := hrel
          by_cases hin : i < nd
          · by_cases hkn2 : kc < nc
            · obtain rfl := HRC7.out.at_ (by rw [← HNC.out]; omega)
              obtain rfl := HRD.out.at_ (by rw [← HND.out]; omega)
              have x0 := (HRC7.out.next HBl.out).cells kc (by rw [← HNC.out]; exact hkn2)
              have y0 := (HRD.out.next HBl.out).cells i (by rw [← HND.out]; exact hin)
              rw [Nat.zero_add] at x0 y0
              have heq := sub_eq (by rw [← HNC.out]; exact hkn2) (by rw [← HND.out]; exact hin) HSB.out
              have hne := sub_ne (by rw [← HNC.out]; exact hkn2) (by rw [← HND.out]; exact hin) HSB.out
              obtain ⟨ck, hck⟩ : ∃ q, q = C.getD kc 0 := ⟨_, rfl⟩
              obtain ⟨di, hdi⟩ : ∃ q, q = D.getD i 0 := ⟨_, rfl⟩
              rw [← hck] at x0 hne
              rw [← hdi] at y0 hne
              have HEQ := Lib.hid heq; have HNE := Lib.hid hne
              clear heq hne hck hdi
              by_cases hcd : di = ck
              · have z1 : (di == ck) = true := by simp [hcd]
                clear hcd
                go_wp2_with fail
                go_region
                all_goals
                  go_wp2_with fail
                  go_roundw
                  case rel => exact ⟨kc + 1, i + 1, by go_num, by go_num, by omega, by omega, HEQ, HBl.out.drew⟩
                  case measure => simp [intOf]; omega
              · have z1 : (di == ck) = false := by simp [hcd]
                have HCD := Lib.hid hcd
                clear hcd
                go_wp2_with fail
                go_region
                all_goals
                  go_wp2_with fail
                  go_roundw
                  case rel => exact ⟨kc, i + 1, rfl, by go_num, by omega, by omega, HNE.out HCD.out, HBl.out.drew⟩
                  case measure => simp [intOf]; omega
            · obtain rfl : kc = nc := by omega
              have z1 : ((kc : Int) == (kc : Int)) = true := by simp
              go_wp2_with fail
              go_ret
              exact ⟨rfl, HX7.out.below.trans (HBl.out.mono HX7.out.below.size)⟩
          · have he : kc = nc := by
              have hd : i = D.length := by rw [← HND.out]; omega
              have := HSB.out
              rw [hd] at this
              rw [HNC.out]
              exact sub_end (by rw [← HNC.out]; exact hkc) this
            subst he
            have z1 : ((kc : Int) == (kc : Int)) = true := by simp
            go_wp2_with fail
            go_ret
            exact ⟨rfl, HX7.out.below.trans (HBl.out.mono HX7.out.below.size)⟩
      | false =>
        clear HAB
        go_wp2_with fail
        refine (K4.out _ HX.out.i).mono ?_
        rintro _ w6 ⟨prc, brc, crc, rfl, hrc, hb⟩
        have hx6 := HX.out.next hb
        obtain ⟨c0', c1', hlt'⟩ : w6.cell? ⟨w.heap.size, 0, none⟩ = some (.slice pf nf cf) ∧ w6.cell? ⟨w.heap.size, 1, none⟩ = some (.slice pl nl cl) ∧ w.heap.size < w6.heap.size := ⟨hx6.c0, hx6.c1, hx6.lt⟩
        have HX6 := Lib.hid hx6; have HRC := Lib.hid hrc
        clear hx6 hb hrc c0 c1 hlt HX K4
        go_wp2_with fail
        refine (K5.out _ HX6.out.i).mono ?_
        rintro _ w7 ⟨prd, brd, crd, rfl, hrd, hb⟩
        have hx7 := HX6.out.next hb
        have HRC7 := Lib.hid (HRC.out.next hb); have HRD := Lib.hid hrd; have HX7 := Lib.hid hx7
        clear hx7 hb hrd HRC HX6 K5 c0' c1' hlt' f1 f2 f3 f4
        go_wp2_with fail
        go_loopw [23, 24] (fun s23 s24 wr => ∃ kc i : Nat, s23 = .int .i64 kc ∧ s24 = .int .i64 i ∧ kc ≤ nc ∧ i ≤ nd ∧ Hid ((C.drop kc).Sublist (D.drop i)) ∧ Hid (Below w7.heap.size w7 wr)) (fun _ i _ => nd - (intOf i).toNat)
        case atStart => exact ⟨0, 0, rfl, rfl, Nat.zero_le _, Nat.zero_le _, HSUB.out, Below.refl _ _⟩
        case round =>
          obtain ⟨kc, i, rfl, rfl, hkc, hi, HSB, HBl⟩ := hrel
          by_cases hin : i < nd
          · by_cases hkn2 : kc < nc
            · obtain rfl := HRC7.out.at_ (by rw [← HNC.out]; omega)
              obtain rfl := HRD.out.at_ (by rw [← HND.out]; omega)
              have x0 := (HRC7.out.next HBl.out).cells kc (by rw [← HNC.out]; exact hkn2)
              have y0 := (HRD.out.next HBl.out).cells i (by rw [← HND.out]; exact hin)
              rw [Nat.zero_add] at x0 y0
              have heq := sub_eq (by rw [← HNC.out]; exact hkn2) (by rw [← HND.out]; exact hin) HSB.out
              have hne := sub_ne (by rw [← HNC.out]; exact hkn2) (by rw [← HND.out]; exact hin) HSB.out
              obtain ⟨ck, hck⟩ : ∃ q, q = C.getD kc 0 := ⟨_, rfl⟩
              obtain ⟨di, hdi⟩ : ∃ q, q = D.getD i 0 := ⟨_, rfl⟩
              rw [← hck] at x0 hne
              rw [← hdi] at y0 hne
              have HEQ := Lib.hid heq; have HNE := Lib.hid hne
              clear heq hne hck hdi
              by_cases hcd : di = ck
              · have z1 : (di == ck) = true := by simp [hcd]
                clear hcd
                go_wp2_with fail
                go_region
                all_goals
                  go_wp2_with fail
                  go_roundw
                  case rel => exact ⟨kc + 1, i + 1, by go_num, by go_num, by omega, by omega, HEQ, HBl.out.drew⟩
                  case measure => simp [intOf]; omega
              · have z1 : (di == ck) = false := by simp [hcd]
                have HCD := Lib.hid hcd
                clear hcd
                go_wp2_with fail
                go_region
                all_goals
                  go_wp2_with fail
                  go_roundw
                  case rel => exact ⟨kc, i + 1, rfl, by go_num, by omega, by omega, HNE.out HCD.out, HBl.out.drew⟩
                  case measure => simp [intOf]; omega
            · obtain rfl : kc = nc := by omega
              have z1 : ((kc : Int) == (kc : Int)) = true := by simp
              go_wp2_with fail
              go_ret
              exact ⟨rfl, HX7.out.below.trans (HBl.out.mono HX7.out.below.size)⟩
          · have he : kc = nc := by
              have hd : i = D.length := by rw [← HND.out]; omega
              have := HSB.out
              rw [hd] at this
              rw [HNC.out]
              exact sub_end (by rw [← HNC.out]; exact hkc) this
            subst he
            have z1 : ((kc : Int) == (kc : Int)) = true := by simp
            go_wp2_with fail
            go_ret
            exact ⟨rfl, HX7.out.below.trans (HBl.out.mono HX7.out.below.size)⟩

/-- 'cognatelaw02.FeatureLeast' answers true, whatever the input. -/
theorem lawLeast (A : Al) (pr : Option Addr) (br r0 cr : Nat) (l : List Int) (p m : Nat) (w : World) (hA : A.In w) (hR : RsIn pr br r0 l w) (hp : p < 4294967296) (hm : m < 4294967296) :
    Calls Try.prog 8 #[A.v, .slice pr l.length cr, .int .u32 p, .int .u32 m] w fun e w' => e = .returned (.bool true) ∧ Below w.heap.size w w' := by
  by_cases hn : 300 < l.length
  · exact leastL_long A pr l.length cr p m w hA hn
  · rcases leastR_cases A l p m hA.L.bits hp hm with ⟨e, he, h1⟩ | ⟨P, M, h1, hP, hM, h128, hh, ha1, ha2, hall, hsub⟩
    · exact leastL_no A pr br r0 cr l p m w hA hR hn e he h1
    · exact leastL_yes A pr br r0 cr l p m w hA hR hp hm P M h1 hP hM h128 hh ha1 ha2 hall hsub
end Go.Proofs.Ytopkddbahbmdhaa
