/-
  WALKS: cognateref04.Like.
-/
import Derived.Test.YtnlojgomildajaaAlk2
namespace Go.Proofs.Ytnlojgomildajaa
open Go.RowKit Go.Lib
set_option linter.unusedVariables false
set_option maxHeartbeats 8000000 in
set_option maxRecDepth 100000 in
theorem rlike_any (pa pb : Option Addr) (ba a0 ca bb b0 cb : Nat) (a b : List NdM) (w : World) (hA : NsIn pa ba a0 a w) (hB : NsIn pb bb b0 b w) (B : Bool) (hBT : B = true ↔ nds a = nds b) :
    Calls Try.prog 16 #[.agg #[.slice pa a.length ca], .agg #[.slice pb b.length cb]] w fun e w' => e = .returned (.bool B) ∧ Below w.heap.size w w' := by
  have hBf : ¬ nds a = nds b → B = false := fun h => by
    cases hB : B with
    | false => rfl
    | true => exact absurd (hBT.1 hB) h
  by_cases hl : a.length = b.length
  · obtain ⟨n, hn⟩ : ∃ n, n = a.length := ⟨_, rfl⟩
    have hbig := hA.big
    rw [← hl, ← hn]
    rw [← hn] at hbig
    have HA := Lib.hid hA; have HB := Lib.hid hB; have HN := Lib.hid hn; have HL := Lib.hid hl
    have HBT := Lib.hid hBT; have HBF := Lib.hid hBf
    have HB0 := Lib.hid (show Below w.heap.size w ((w.alloc (.cells #[.slice pa n ca] 25)).alloc (.cells #[.slice pb n cb] 25)) from ((Below.refl _ _).alloc (Nat.le_refl _) _).alloc (by simp) _)
    clear hA hB hn hl hBT hBf
    go_enter Try.func16, Try.ntmps16
    go_wp2_with fail
    have c0 : ((w.alloc (.cells #[.slice pa n ca] 25)).alloc (.cells #[.slice pb n cb] 25)).cell? ⟨w.heap.size, 0, none⟩ = some (.slice pa n ca) := by simp
    have c1 : ((w.alloc (.cells #[.slice pa n ca] 25)).alloc (.cells #[.slice pb n cb] 25)).cell? ⟨w.heap.size + 1, 0, none⟩ = some (.slice pb n cb) := by simp
    have C0 := Lib.hid c0; have C1 := Lib.hid c1
    clear c0 c1
    go_loopw [5] (fun iv wr => ∃ j : Nat, iv = .int .i64 j ∧ j ≤ n ∧ Hid (EqNd a b j) ∧ Hid (Below w.heap.size w wr) ∧ Hid (wr.cell? ⟨w.heap.size, 0, none⟩ = some (.slice pa n ca)) ∧ Hid (wr.cell? ⟨w.heap.size + 1, 0, none⟩ = some (.slice pb n cb))) (fun iv _ => n - (intOf iv).toNat)
    case atStart => exact ⟨0, rfl, by omega, Lib.hid (fun i hi => by omega), HB0, C0, C1⟩
    case round =>
      clear HB0 C0 C1
      obtain ⟨j, rfl, hj, HE, HBW, HC0, HC1⟩ := hrel
      obtain ⟨W1, rfl⟩ : ∃ W1, W1 = wr := ⟨_, rfl⟩
      have c0 := HC0.out
      have c1 := HC1.out
      have hz0 : w.heap.size < W1.heap.size := blk_of_cell c0
      have hz1 : w.heap.size + 1 < W1.heap.size := blk_of_cell c1
      by_cases hjn : j < n
      · have hja : j < a.length := by have := HN.out; omega
        have hjb : j < b.length := by have := HN.out; have := HL.out; omega
        obtain rfl := HA.out.at_ (by omega)
        obtain rfl := HB.out.at_ (by omega)
        obtain ⟨a1, a2, a3, a4, a5⟩ := (HA.out.next HBW.out).node j hja
        obtain ⟨b1, b2, b3, b4, b5⟩ := (HB.out.next HBW.out).node j hjb
        have ka := (HA.out.next HBW.out).kids j hja
        have kb := (HB.out.next HBW.out).kids j hjb
        obtain ⟨x, hx⟩ : ∃ x, x = a.getD j default := ⟨_, rfl⟩
        obtain ⟨y, hy⟩ : ∃ y, y = b.getD j default := ⟨_, rfl⟩
        rw [← hx] at a1 a2 a3 a4 a5 ka
        rw [← hy] at b1 b2 b3 b4 b5 kb
        have hzb := blk_of_cell b1
        have hza := blk_of_cell a1
        have HX := Lib.hid hx; have HY := Lib.hid hy
        have HJ := Lib.hid (show j + 1 ≤ n from hjn)
        have HKA := Lib.hid ka; have HKB := Lib.hid kb
        have hne : ¬ x.nd = y.nd → B = false := fun h => HBF.out (fun e => h (by
          have h2 := nds_getD e j hja hjb
          rw [← HX.out, ← HY.out] at h2
          exact h2))
        have HNE := Lib.hid hne
        obtain ⟨k1, hk1⟩ : ∃ q, q = x.nd.k := ⟨_, rfl⟩
        obtain ⟨k2, hk2⟩ : ∃ q, q = y.nd.k := ⟨_, rfl⟩
        obtain ⟨r1, hr1⟩ : ∃ q, q = x.nd.r := ⟨_, rfl⟩
        obtain ⟨r2, hr2⟩ : ∃ q, q = y.nd.r := ⟨_, rfl⟩
        obtain ⟨p1, hp1⟩ : ∃ q, q = x.nd.p := ⟨_, rfl⟩
        obtain ⟨p2, hp2⟩ : ∃ q, q = y.nd.p := ⟨_, rfl⟩
        obtain ⟨q1, hq1⟩ : ∃ q, q = x.nd.m := ⟨_, rfl⟩
        obtain ⟨q2, hq2⟩ : ∃ q, q = y.nd.m := ⟨_, rfl⟩
        obtain ⟨l1, hl1⟩ : ∃ q, q = x.nd.ks.length := ⟨_, rfl⟩
        obtain ⟨l2, hl2⟩ : ∃ q, q = y.nd.ks.length := ⟨_, rfl⟩
        obtain ⟨g1, hg1⟩ : ∃ q, q = x.pk := ⟨_, rfl⟩
        obtain ⟨g2, hg2⟩ : ∃ q, q = y.pk := ⟨_, rfl⟩
        obtain ⟨d1, hd1⟩ : ∃ q, q = x.c := ⟨_, rfl⟩
        obtain ⟨d2, hd2⟩ : ∃ q, q = y.c := ⟨_, rfl⟩
        rw [← hk1] at a1; rw [← hr1] at a2; rw [← hp1] at a3; rw [← hq1] at a4; rw [← hl1, ← hg1, ← hd1] at a5
        rw [← hk2] at b1; rw [← hr2] at b2; rw [← hp2] at b3; rw [← hq2] at b4; rw [← hl2, ← hg2, ← hd2] at b5
        have hlb1 : l1 ≤ 140737488355328 := by rw [hl1]; exact ka.big
        have HALLE := Lib.hid (show k1 = k2 → r1 = r2 → p1 = p2 → q1 = q2 → x.nd.ks = y.nd.ks → x.nd = y.nd from fun e1 e2 e3 e4 e5 => (nd_eq _ _).2 ⟨by rw [← hk1, ← hk2, e1], by rw [← hr1, ← hr2, e2], by rw [← hp1, ← hp2, e3], by rw [← hq1, ← hq2, e4], e5⟩)
        have hn1 : ¬ k1 = k2 → B = false := fun h => HNE.out (fun e => h (by rw [hk1, hk2, e]))
        have hn2 : ¬ r1 = r2 → B = false := fun h => HNE.out (fun e => h (by rw [hr1, hr2, e]))
        have hn3 : ¬ p1 = p2 → B = false := fun h => HNE.out (fun e => h (by rw [hp1, hp2, e]))
        have hn4 : ¬ q1 = q2 → B = false := fun h => HNE.out (fun e => h (by rw [hq1, hq2, e]))
        have hn5 : ¬ l1 = l2 → B = false := fun h => HNE.out (fun e => h (by rw [hl1, hl2, e]))
        have N1 := Lib.hid hn1; have N2 := Lib.hid hn2; have N3 := Lib.hid hn3; have N4 := Lib.hid hn4; have N5 := Lib.hid hn5
        have HL1 := Lib.hid hl1; have HL2 := Lib.hid hl2; have HG1 := Lib.hid hg1; have HG2 := Lib.hid hg2
        have HB2 := Lib.hid (show Below W1.heap.size W1 ((W1.alloc (.cells #[.int .u8 k1, .int .i32 r1, .int .u32 p1, .int .u32 q1, .slice g1 l1 d1] 42)).alloc (.cells #[.int .u8 k2, .int .i32 r2, .int .u32 p2, .int .u32 q2, .slice g2 l2 d2] 42)) from ((Below.refl _ _).alloc (Nat.le_refl _) _).alloc (by simp) _)
        clear hx hy ka kb hja hjb hne hn1 hn2 hn3 hn4 hn5 hk1 hk2 hr1 hr2 hp1 hp2 hq1 hq2 hl1 hl2 hg1 hg2 hd1 hd2
        clear HB2
        go_upto_region 6 with fail
        go_cut [6, 7] from 16 to 85 (fun s6 s7 wc => ∃ b6 b7 : Nat, s6 = .pointer (some ⟨b6, 0, none⟩) ∧ s7 = .pointer (some ⟨b7, 0, none⟩) ∧ wc.cell? ⟨b6, 0, none⟩ = some (.int .u8 k1) ∧ wc.cell? ⟨b6, 1, none⟩ = some (.int .i32 r1) ∧ wc.cell? ⟨b6, 2, none⟩ = some (.int .u32 p1) ∧ wc.cell? ⟨b6, 3, none⟩ = some (.int .u32 q1) ∧ wc.cell? ⟨b6, 4, none⟩ = some (.slice g1 l1 d1) ∧ wc.cell? ⟨b7, 0, none⟩ = some (.int .u8 k2) ∧ wc.cell? ⟨b7, 1, none⟩ = some (.int .i32 r2) ∧ wc.cell? ⟨b7, 2, none⟩ = some (.int .u32 p2) ∧ wc.cell? ⟨b7, 3, none⟩ = some (.int .u32 q2) ∧ wc.cell? ⟨b7, 4, none⟩ = some (.slice g2 l2 d2) ∧ Hid (Below W1.heap.size W1 wc))
        case first =>
          go_wp2_with fail
          go_region
          all_goals
            (try go_wp2_with fail)
            go_meet
            exact ⟨_, _, rfl, rfl, by simp, by simp, by simp, by simp, by simp, by simp, by simp, by simp, by simp, by simp, Lib.hid (((Below.refl _ _).alloc (Nat.le_refl _) _).alloc (by simp) _).drew⟩
        case rest =>
          obtain ⟨b6, b7, rfl, rfl, m1, m2, m3, m4, m5, m6, m7, m8, m9, m10, HW2⟩ := hcut
          clear a1 a2 a3 a4 a5 b1 b2 b3 b4 b5 c0 c1 hza hzb
          by_cases ek : k1 = k2
          · subst ek
            by_cases er : r1 = r2
            · subst er
              by_cases ep : p1 = p2
              · subst ep
                by_cases eq : q1 = q2
                · subst eq
                  by_cases el : l1 = l2
                  · subst el
                    have HD6 := Lib.hid m5; have HD7 := Lib.hid m10
                    go_wp2_with fail
                    clear m1 m2 m3 m4 m5 m6 m7 m8 m9 m10
                    go_loopw [8] (fun tv wx => ∃ t : Nat, tv = .int .i64 t ∧ t ≤ l1 ∧ Hid (EqTo x.nd.ks y.nd.ks t) ∧ Hid (Below W1.heap.size W1 wx) ∧ Hid (wx.cell? ⟨b6, 4, none⟩ = some (.slice g1 l1 d1)) ∧ Hid (wx.cell? ⟨b7, 4, none⟩ = some (.slice g2 l1 d2))) (fun tv _ => l1 - (intOf tv).toNat)
                    case atStart => exact ⟨0, rfl, by omega, Lib.hid (fun i hi => by omega), HW2, HD6, HD7⟩
                    case round =>
                      clear HW2 HD6 HD7
                      obtain ⟨t, rfl, ht, HEQ, HWX, HD6, HD7⟩ := hrel
                      have D6 := HD6.out
                      have D7 := HD7.out
                      by_cases htl : t < l1
                      · have hta : t < x.nd.ks.length := by rw [← HL1.out]; exact htl
                        have htb : t < y.nd.ks.length := by rw [← HL2.out]; exact htl
                        obtain rfl : g1 = some ⟨x.bk, x.k0, none⟩ := HG1.out.trans (HKA.out.at_ (by omega))
                        obtain rfl : g2 = some ⟨y.bk, y.k0, none⟩ := HG2.out.trans (HKB.out.at_ (by omega))
                        have va := (HKA.out.next HWX.out).cells t hta
                        have vb := (HKB.out.next HWX.out).cells t htb
                        obtain ⟨z1, hz1'⟩ : ∃ z, z = x.nd.ks.getD t 0 := ⟨_, rfl⟩
                        obtain ⟨z2, hz2'⟩ : ∃ z, z = y.nd.ks.getD t 0 := ⟨_, rfl⟩
                        rw [← hz1'] at va
                        rw [← hz2'] at vb
                        have HZ1 := Lib.hid hz1'; have HZ2 := Lib.hid hz2'
                        have HT1 := Lib.hid (show t + 1 ≤ l1 from htl)
                        clear hz1' hz2' hta htb
                        by_cases hzz : z1 = z2
                        · subst hzz
                          go_wp2_with fail
                          go_region
                          go_wp2_with fail
                          go_roundw
                          case rel => exact ⟨t + 1, by go_num, HT1.out, Lib.hid (fun i hi => by
                            by_cases e : i = t
                            · rw [e, ← HZ1.out, ← HZ2.out]
                            · exact HEQ.out i (by omega)), Lib.hid HWX.out.drew, HD6, HD7⟩
                          case measure => have := HT1.out; simp [intOf]; omega
                        · have hz3 : (z1 != z2) = true := by simpa using hzz
                          obtain rfl : B = false := HNE.out (fun e => hzz (by rw [HZ1.out, HZ2.out, e]))
                          have HFB := Lib.hid (HBW.out.trans ((HWX.out.mono HBW.out.size).drew))
                          go_wp2_with fail
                          go_region
                          go_wp2_with fail
                          go_ret
                          exact ⟨rfl, HFB.out⟩
                      · obtain rfl : t = l1 := by omega
                        have hkeq : x.nd.ks = y.nd.ks := eqTo_all (by rw [← HL1.out, ← HL2.out]) (by rw [← HL1.out]; exact HEQ.out)
                        have hxy := HALLE.out (by first | rfl | trivial) (by first | rfl | trivial) (by first | rfl | trivial) (by first | rfl | trivial) hkeq
                        have HXY := Lib.hid hxy
                        have hc0 := (HWX.out.cell (p := ⟨w.heap.size, 0, none⟩) hz0).trans HC0.out
                        have hc1 := (HWX.out.cell (p := ⟨w.heap.size + 1, 0, none⟩) hz1).trans HC1.out
                        have HH0 := Lib.hid hc0; have HH1 := Lib.hid hc1
                        have HFB := Lib.hid (HBW.out.trans (HWX.out.mono HBW.out.size))
                        clear hkeq hxy hc0 hc1
                        go_wp2_with fail
                        exact ⟨⟨j + 1, by go_num, HJ.out, Lib.hid (fun i hi => by
                          by_cases e : i = j
                          · rw [e, ← HX.out, ← HY.out]; exact HXY.out
                          · exact HE.out i (by omega)), HFB, HH0, HH1⟩, by have := HJ.out; simp [intOf]; omega⟩
                  · obtain rfl : B = false := N5.out el
                    have hh : ¬ (l1 : Int) = (l2 : Int) := by omega
                    have hh2 : ((l1 : Int) != (l2 : Int)) = true := by simpa using hh
                    have HFB := Lib.hid (HBW.out.trans (HW2.out.mono HBW.out.size))
                    go_wp2_with fail
                    go_ret
                    exact ⟨rfl, HFB.out⟩
                · obtain rfl : B = false := N4.out eq
                  have hh : ¬ (q1 : Int) = (q2 : Int) := by omega
                  have hh2 : ((q1 : Int) != (q2 : Int)) = true := by simpa using hh
                  have HFB := Lib.hid (HBW.out.trans (HW2.out.mono HBW.out.size))
                  go_wp2_with fail
                  go_ret
                  exact ⟨rfl, HFB.out⟩
              · obtain rfl : B = false := N3.out ep
                have hh : ¬ (p1 : Int) = (p2 : Int) := by omega
                have hh2 : ((p1 : Int) != (p2 : Int)) = true := by simpa using hh
                have HFB := Lib.hid (HBW.out.trans (HW2.out.mono HBW.out.size))
                go_wp2_with fail
                go_ret
                exact ⟨rfl, HFB.out⟩
            · obtain rfl : B = false := N2.out er
              have hh2 : (r1 != r2) = true := by simpa using er
              have HFB := Lib.hid (HBW.out.trans (HW2.out.mono HBW.out.size))
              go_wp2_with fail
              go_ret
              exact ⟨rfl, HFB.out⟩
          · obtain rfl : B = false := N1.out ek
            have hh : ¬ (k1 : Int) = (k2 : Int) := by omega
            have hh2 : ((k1 : Int) != (k2 : Int)) = true := by simpa using hh
            have HFB := Lib.hid (HBW.out.trans (HW2.out.mono HBW.out.size))
            go_wp2_with fail
            go_ret
            exact ⟨rfl, HFB.out⟩
      · obtain rfl : j = n := by omega
        obtain rfl : B = true := HBT.out.2 (eqNd_all HL.out (by rw [← HN.out]; exact HE.out))
        go_wp2_with fail
        go_ret
        exact ⟨rfl, HBW.out⟩
  · obtain rfl : B = false := hBf (fun e => hl (by have := congrArg List.length e; rwa [nds_length, nds_length] at this))
    have h1 : ¬ (a.length : Int) = (b.length : Int) := by omega
    have HB0 := Lib.hid (show Below w.heap.size w ((w.alloc (.cells #[.slice pa a.length ca] 25)).alloc (.cells #[.slice pb b.length cb] 25)) from ((Below.refl _ _).alloc (Nat.le_refl _) _).alloc (by simp) _)
    clear hA hB hBT hBf
    go_enter Try.func16, Try.ntmps16
    go_wp2_with fail
    go_ret
    exact ⟨rfl, HB0.out⟩
end Go.Proofs.Ytnlojgomildajaa
