/-
  WALKS: cognatelaw03.WordOrder, true for every input.
-/
import Derived.Test.YtcibjgkifafohaaDoorOrdP
import Derived.Deep.RegionHeld3
import Derived.Deep.Cut
namespace Go.Proofs.YtcibjgkifafohaaDoor
open Go.RowKit Go.Lib
set_option linter.unusedVariables false

set_option maxHeartbeats 8000000 in
set_option maxRecDepth 100000 in
theorem order_many (A : Al) (x y z : ByteArray) (sr : Option Addr) (ur s0 cs : Nat) (l : List ByteArray) (w : World) (hA : A.In w) (hT : Tabs w) (hS : SsIn sr ur s0 l w) (h : 200 < l.length) :
    Calls Tryd.prog 6 #[A.v, .string x, .string y, .string z, .slice sr l.length cs] w fun e w' => e = .returned (.bool true) ∧ Below w.heap.size w w' := by
  have k0 := awake_w A
  obtain ⟨n, hn⟩ : ∃ n, n = l.length := ⟨_, rfl⟩
  rw [← hn] at h ⊢
  obtain ⟨pf, pl, nf, cf, nl, cl, hv, hnf, hnl, hpl, hcl, hpf, hcf⟩ := A.parts
  rw [hv]
  have hs := Wx.start (F := .slice pf nf cf) (L := .slice pl nl cl) hA hT
  have HS := Lib.hid hs; have K0 := Lib.hid k0
  clear hs hA hT hS k0 hn hv hnf hnl hpl hcl hpf hcf
  go_enter Tryd.func6, Tryd.ntmps6
  go_wp2_with fail
  refine (K0.out _ (HS.out).i (HS.out).t).mono ?_
  rintro _ w1 ⟨rfl, hb⟩
  have HB := Lib.hid ((HS.out).next hb).below
  clear HS hb
  go_wp2_with fail
  go_ret
  exact ⟨rfl, HB.out⟩

set_option maxHeartbeats 8000000 in
set_option maxRecDepth 100000 in
theorem order_few (A : Al) (x y z : ByteArray) (sr : Option Addr) (ur s0 cs : Nat) (l : List ByteArray) (w : World) (hA : A.In w) (hT : Tabs w) (hS : SsIn sr ur s0 l w) (h : l.length ≤ 200) :
    Calls Tryd.prog 6 #[A.v, .string x, .string y, .string z, .slice sr l.length cs] w fun e w' => e = .returned (.bool true) ∧ Below w.heap.size w w' := by
  have k0 := awake_w A
  have k1 := fun W hA hT => wcmp_any A x y W hA hT
  have k2 := fun W hA hT => wcmp_any A y x W hA hT
  have k3 := fun W hA hT => wcmp_any A y z W hA hT
  have k4 := fun W hA hT => wcmp_any A x z W hA hT
  unfold CmpPost at k1 k2 k3 k4
  have hcase := cmp_case A x y z
  have kno := fun (h : ¬ srtE A l = 0) W hA hT hS => wsort_no A sr ur s0 cs l W hA hT hS h
  have kyes := fun (h : srtE A l = 0) W hA hT hS => wsort_yes A sr ur s0 cs l W hA hT hS h
  have kag := fun (T : List ByteArray) (h : srtE A T = 0) pr br cr W hA hT hS => wsort_yes A pr br 0 cr T W hA hT hS h
  have kcc := fun (a b : ByteArray) W hA hT => wcmp_any A a b W hA hT
  unfold SrtNo at kno
  unfold SrtYes at kyes kag
  unfold CmpPost at kcc
  have kam := fun (s : ByteArray) W hS => among_any sr ur s0 cs l s W hS
  have kam2 := fun (T : List ByteArray) (s : ByteArray) pr br cr W hS => among_any pr br 0 cr T s W hS
  obtain ⟨p, hp⟩ : ∃ p, p = cmpR A x y := ⟨_, rfl⟩
  obtain ⟨e, he⟩ : ∃ p, p = bothE A x y := ⟨_, rfl⟩
  obtain ⟨q, hq⟩ : ∃ p, p = cmpR A y x := ⟨_, rfl⟩
  obtain ⟨f, hf⟩ : ∃ p, p = bothE A y x := ⟨_, rfl⟩
  obtain ⟨r, hr⟩ : ∃ p, p = cmpR A y z := ⟨_, rfl⟩
  obtain ⟨g, hg⟩ : ∃ p, p = bothE A y z := ⟨_, rfl⟩
  obtain ⟨s, hs⟩ : ∃ p, p = cmpR A x z := ⟨_, rfl⟩
  obtain ⟨hh, hhh⟩ : ∃ p, p = bothE A x z := ⟨_, rfl⟩
  rw [← hp, ← he] at k1
  rw [← hq, ← hf] at k2
  rw [← hr, ← hg] at k3
  rw [← hs, ← hhh] at k4
  rw [← hp, ← he, ← hq, ← hf, ← hr, ← hg, ← hs, ← hhh] at hcase
  clear hp he hq hf hr hg hs hhh
  obtain ⟨n, hn⟩ : ∃ n, n = l.length := ⟨_, rfl⟩
  rw [← hn] at h kno kyes kam ⊢
  obtain ⟨pf, pl, nf, cf, nl, cl, hv, hnf, hnl, hpl, hcl, hpf, hcf⟩ := A.parts
  rw [hv] at k1 k2 k3 k4 kno kyes kag kcc ⊢
  have hst := Wx.start (F := .slice pf nf cf) (L := .slice pl nl cl) hA hT
  have HS := Lib.hid hst; have HL := Lib.hid (hS.next ((Below.refl _ _).alloc (Nat.le_refl _) (.cells #[.slice pf nf cf, .slice pl nl cl] 34)))
  have K0 := Lib.hid k0; have K1 := Lib.hid k1; have K2 := Lib.hid k2; have K3 := Lib.hid k3; have K4 := Lib.hid k4; have KNO := Lib.hid kno; have KYES := Lib.hid kyes; have KAG := Lib.hid kag; have KCC := Lib.hid kcc; have KAM := Lib.hid kam; have KAM2 := Lib.hid kam2
  have HCASE := Lib.hid hcase; have HN := Lib.hid hn
  clear hst hA hT hS k0 k1 k2 k3 k4 kno kyes kag kcc kam kam2 hcase hn hv hnf hnl hpl hcl hpf hcf
  go_enter Tryd.func6, Tryd.ntmps6
  go_wp2_with fail
  refine (K0.out _ (HS.out).i (HS.out).t).mono ?_
  rintro _ w1 ⟨rfl, hb⟩
  have hs := (HS.out).next hb
  have hl := (HL.out).next hb
  obtain ⟨c0, c1, hlt⟩ : w1.cell? ⟨w.heap.size, 0, none⟩ = some (.slice pf nf cf) ∧ w1.cell? ⟨w.heap.size, 1, none⟩ = some (.slice pl nl cl) ∧ w.heap.size < w1.heap.size := ⟨hs.c0, hs.c1, hs.lt⟩
  clear HS HL
  have HS := Lib.hid hs
  have HL := Lib.hid hl
  clear hs hl hb
  go_wp2_with fail
  refine (K1.out _ (HS.out).i (HS.out).t).mono ?_
  rintro _ w2 ⟨rfl, hb⟩
  have hs := (HS.out).next hb
  have hl := (HL.out).next hb
  obtain ⟨c0, c1, hlt⟩ : w2.cell? ⟨w.heap.size, 0, none⟩ = some (.slice pf nf cf) ∧ w2.cell? ⟨w.heap.size, 1, none⟩ = some (.slice pl nl cl) ∧ w.heap.size < w2.heap.size := ⟨hs.c0, hs.c1, hs.lt⟩
  clear HS HL
  have HS := Lib.hid hs
  have HL := Lib.hid hl
  clear hs hl hb
  go_wp2_with fail
  refine (K2.out _ (HS.out).i (HS.out).t).mono ?_
  rintro _ w3 ⟨rfl, hb⟩
  have hs := (HS.out).next hb
  have hl := (HL.out).next hb
  obtain ⟨c0, c1, hlt⟩ : w3.cell? ⟨w.heap.size, 0, none⟩ = some (.slice pf nf cf) ∧ w3.cell? ⟨w.heap.size, 1, none⟩ = some (.slice pl nl cl) ∧ w.heap.size < w3.heap.size := ⟨hs.c0, hs.c1, hs.lt⟩
  clear HS HL
  have HS := Lib.hid hs
  have HL := Lib.hid hl
  clear hs hl hb
  go_wp2_with fail
  refine (K3.out _ (HS.out).i (HS.out).t).mono ?_
  rintro _ w4 ⟨rfl, hb⟩
  have hs := (HS.out).next hb
  have hl := (HL.out).next hb
  obtain ⟨c0, c1, hlt⟩ : w4.cell? ⟨w.heap.size, 0, none⟩ = some (.slice pf nf cf) ∧ w4.cell? ⟨w.heap.size, 1, none⟩ = some (.slice pl nl cl) ∧ w.heap.size < w4.heap.size := ⟨hs.c0, hs.c1, hs.lt⟩
  clear HS HL
  have HS := Lib.hid hs
  have HL := Lib.hid hl
  clear hs hl hb
  go_wp2_with fail
  refine (K4.out _ (HS.out).i (HS.out).t).mono ?_
  rintro _ w5 ⟨rfl, hb⟩
  have hs := (HS.out).next hb
  have hl := (HL.out).next hb
  obtain ⟨c0, c1, hlt⟩ : w5.cell? ⟨w.heap.size, 0, none⟩ = some (.slice pf nf cf) ∧ w5.cell? ⟨w.heap.size, 1, none⟩ = some (.slice pl nl cl) ∧ w.heap.size < w5.heap.size := ⟨hs.c0, hs.c1, hs.lt⟩
  clear HS HL
  have HS := Lib.hid hs
  have HL := Lib.hid hl
  clear hs hl hb
  go_upto_region 10 with fail
  go_cut [91] from 61 (fun s91 wc => s91 = .bool false ∧ w5 = wc)
  case first =>
    have hc := HCASE.out
    by_cases h0 : e = 0
    · have hf0 := hc.ef.1 h0
      have hsm := hc.same h0
      have ho := hc.opp
      subst h0
      obtain rfl : f = 0 := hf0
      rcases hc.rng with h1 | h1 | h1
      · subst h1
        obtain rfl : q = 1 := by omega
        have e1 : (x.toList == y.toList) = false := by rw [beq_eq_false_iff_ne]; exact fun e => absurd (hsm.2 (toL_inj e)) (by decide)
        clear hc hsm ho
        go_wp2_with fail
        go_meet
        exact ⟨rfl, rfl⟩
      · subst h1
        obtain rfl : q = 0 := by omega
        obtain rfl : x = y := hsm.1 rfl
        clear hc hsm ho
        go_wp2_with fail
        go_meet
        exact ⟨rfl, rfl⟩
      · subst h1
        obtain rfl : q = -1 := by omega
        have e1 : (x.toList == y.toList) = false := by rw [beq_eq_false_iff_ne]; exact fun e => absurd (hsm.2 (toL_inj e)) (by decide)
        clear hc hsm ho
        go_wp2_with fail
        go_meet
        exact ⟨rfl, rfl⟩
    · have hf0 : ¬ f = 0 := fun h => h0 (hc.ef.2 h)
      obtain rfl : p = 0 := hc.no h0
      obtain rfl : q = 0 := by have := hc.opp; omega
      have e1 : (e == 0) = false := by simp [h0]
      have e2 : (f == 0) = false := by simp [hf0]
      clear hc h0 hf0
      go_wp2_with fail
      go_meet
      exact ⟨rfl, rfl⟩
  case rest =>
  obtain ⟨rfl, rfl⟩ := hcut
  go_upto_region 12 with fail
  go_cut [125] from 92 (fun s125 wc => s125 = .bool false ∧ w5 = wc)
  case first =>
    have hc := HCASE.out
    by_cases h0 : e = 0
    · by_cases h1 : g = 0
      · have h2 := hc.gh h0 h1
        have htr := hc.tr h0 h1
        have hp := hc.rng
        have hr := hc.r1
        subst h0
        subst h1
        subst h2
        by_cases h3 : 0 < p
        · have e3 : decide (p ≤ 0) = false := by simpa using h3
          clear hc htr hp hr
          go_wp2_with fail
          go_meet
          exact ⟨rfl, rfl⟩
        · by_cases h4 : 0 < r
          · have e3 : decide (p ≤ 0) = true := by simp; omega
            have e4 : decide (r ≤ 0) = false := by simpa using h4
            clear hc htr hp hr
            go_wp2_with fail
            go_meet
            exact ⟨rfl, rfl⟩
          · obtain ⟨t1, t2⟩ := htr (by omega) (by omega)
            by_cases h5 : p < 0 ∨ r < 0
            · obtain rfl : s = -1 := t2 h5
              have e3 : decide (p ≤ 0) = true := by simp; omega
              have e4 : decide (r ≤ 0) = true := by simp; omega
              clear hc hp hr t1 t2 htr h5
              go_wp2_with fail
              go_meet
              exact ⟨rfl, rfl⟩
            · obtain rfl : p = 0 := by omega
              obtain rfl : r = 0 := by omega
              have e5 : decide (0 < s) = false := by simp; omega
              by_cases h6 : s = 0
              · subst h6
                clear hc hp hr t1 t2 htr h5
                go_wp2_with fail
                go_meet
                exact ⟨rfl, rfl⟩
              · have e6 : (s == 0) = false := by simp [h6]
                clear hc hp hr t2 htr h5
                go_wp2_with fail
                go_meet
                exact ⟨rfl, rfl⟩
      · subst h0
        have e1 : (g == 0) = false := by simp [h1]
        clear hc h1
        go_wp2_with fail
        go_meet
        exact ⟨rfl, rfl⟩
    · have e1 : (e == 0) = false := by simp [h0]
      clear hc h0
      go_wp2_with fail
      go_meet
      exact ⟨rfl, rfl⟩
  case rest =>
  obtain ⟨rfl, rfl⟩ := hcut
  clear HCASE K0 K1 K2 K3 K4
  go_wp2_with fail
  by_cases hE : srtE A l = 0
  · refine (KYES.out hE _ HS.out.i HS.out.t HL.out).mono ?_
    rintro _ w6 ⟨v, T, rfl, hsr, ho, hb⟩
    have hlen := hsr.len
    rw [← HN.out] at hlen
    obtain ⟨pr, br, cr, rfl, hT⟩ := own_ss ho (by omega)
    have hE2 := srt_again hE hsr
    have kag := KAG.out T hE2
    have kcc := fun j (hj : j + 1 < T.length) W hA hT => KCC.out (T.getD j ByteArray.empty) (T.getD (j + 1) ByteArray.empty) W hA hT
    have kc2 : ∀ j, j + 1 < T.length → ∀ W, A.In W → Tabs W → Calls Tryd.prog 34 #[.agg #[.slice pf nf cf, .slice pl nl cl], .string (T.getD j ByteArray.empty), .string (T.getD (j + 1) ByteArray.empty)] W fun e w' => e = .returned (.tuple #[.int .i64 (-1), .int .i64 0]) ∧ Below W.heap.size W w' := fun j hj W h1 h2 => by
      obtain ⟨h3, h4⟩ := srt_cmp hE hsr j hj
      have := kcc j hj W h1 h2
      rw [h3, h4] at this
      exact this
    have ka1 : ∀ j, j < T.length → ∀ W, SsIn sr ur s0 l W → Calls Tryd.prog 36 #[.slice sr n cs, .string (T.getD j ByteArray.empty)] W fun e w' => e = .returned (.bool true) ∧ QB W w' := fun j hj W h1 => by
      have := KAM.out (T.getD j ByteArray.empty) W h1
      rw [(amg_iff _ _).2 ((hsr.mem _).1 (by rw [getS_at hj]; exact List.getElem_mem hj))] at this
      exact this
    have ka2 : ∀ j, j < n → ∀ pr br cr W, SsIn pr br 0 T W → Calls Tryd.prog 36 #[.slice pr T.length cr, .string (l.getD j ByteArray.empty)] W fun e w' => e = .returned (.bool true) ∧ QB W w' := fun j hj pr br cr W h1 => by
      have := KAM2.out T (l.getD j ByteArray.empty) pr br cr W h1
      rw [(amg_iff _ _).2 ((hsr.mem _).2 (by rw [getS_at (by rw [← HN.out]; exact hj)]; exact List.getElem_mem _))] at this
      exact this
    have kag2 : ∀ pr br cr W, A.In W → Tabs W → SsIn pr br 0 T W → Calls Tryd.prog 35 #[.agg #[.slice pf nf cf, .slice pl nl cl], .slice pr T.length cr] W fun e w' => ∃ qr ur cq, e = .returned (.tuple #[.slice qr T.length cq, .int .i64 0]) ∧ SsIn qr ur 0 T w' ∧ Below W.heap.size W w' := fun pr br cr W h1 h2 h3 => by
      refine (kag pr br cr W h1 h2 h3).mono ?_
      rintro e w' ⟨v, U, he, hu, ho, hb⟩
      obtain rfl := (hsr.again hu).symm
      obtain ⟨qr, ur, cq, rfl, hq⟩ := own_ss ho (by omega)
      exact ⟨qr, ur, cq, he, hq, hb⟩
    have hs := (HS.out).next hb
    have hl := (HL.out).next hb
    obtain ⟨c0, c1, hlt⟩ : w6.cell? ⟨w.heap.size, 0, none⟩ = some (.slice pf nf cf) ∧ w6.cell? ⟨w.heap.size, 1, none⟩ = some (.slice pl nl cl) ∧ w.heap.size < w6.heap.size := ⟨hs.c0, hs.c1, hs.lt⟩
    clear HS HL KNO KYES KAG KCC KAM KAM2
    have HS := Lib.hid hs
    have HL := Lib.hid hl
    have HT := Lib.hid hT
    obtain ⟨k, hk⟩ : ∃ k, k = T.length := ⟨_, rfl⟩
    rw [← hk] at kc2 ka1 ka2 kag2 hlen ⊢
    have HK := Lib.hid hk; have KC := Lib.hid kc2; have KA1 := Lib.hid ka1; have KA2 := Lib.hid ka2; have KS := Lib.hid kag2
    clear hs hl hb hT ho hk kc2 ka1 ka2 kag2 kcc kag hE2 hsr hE
    go_wp2_with fail
    go_loopw [21] (fun iv wr => ∃ j : Nat, iv = .int .i64 j ∧ j ≤ k ∧ Hid (Below w6.heap.size w6 wr)) (fun iv _ => k - (intOf iv).toNat)
    case atStart => exact ⟨0, rfl, Nat.zero_le _, Below.refl _ _⟩
    case round =>
      clear c0 c1 hlt
      obtain ⟨j, rfl, hj, HB⟩ := hrel
      have hsr := HS.out.next HB.out
      obtain ⟨c0, c1, hlt⟩ : wr.cell? ⟨w.heap.size, 0, none⟩ = some (.slice pf nf cf) ∧ wr.cell? ⟨w.heap.size, 1, none⟩ = some (.slice pl nl cl) ∧ w.heap.size < wr.heap.size := ⟨hsr.c0, hsr.c1, hsr.lt⟩
      have hTr := HT.out.next HB.out
      have HSr := Lib.hid hsr; have HTr := Lib.hid hTr; have HLr := Lib.hid (HL.out.next HB.out)
      by_cases hjk : j < k
      · have hjT : j < T.length := by have := HK.out; omega
        obtain rfl := hTr.at_ (by omega)
        have a1 := hTr.cells j hjT
        rw [Nat.zero_add] at a1
        have KA := Lib.hid (KA1.out j hjk)
        by_cases h0 : j = 0
        · subst h0
          obtain ⟨q, hq⟩ : ∃ q, q = T.getD 0 ByteArray.empty := ⟨_, rfl⟩
          rw [← hq] at a1 KA
          clear hsr hTr hq
          go_wp2_with fail
          refine (KA.out _ HLr.out).mono ?_
          rintro _ w8 ⟨rfl, hb8⟩
          have HB2 := Lib.hid (HB.out.trans (hb8.below.mono HB.out.size))
          clear hb8
          go_wp2_with fail
          go_roundw
          case rel => exact ⟨1, by go_num, by omega, HB2⟩
          case measure => simp [intOf]; omega
        · obtain ⟨i, rfl⟩ : ∃ i, j = i + 1 := ⟨j - 1, by omega⟩
          have a0 := hTr.cells i (by omega)
          rw [Nat.zero_add] at a0
          have KCj := Lib.hid (KC.out i hjk)
          obtain ⟨q, hq⟩ : ∃ q, q = T.getD (i + 1) ByteArray.empty := ⟨_, rfl⟩
          rw [← hq] at a1 KA KCj
          obtain ⟨u, hu⟩ : ∃ q, q = T.getD i ByteArray.empty := ⟨_, rfl⟩
          rw [← hu] at a0 KCj
          have HQ := Lib.hid hq
          clear hsr hTr hq hu h0
          have z1 : (i : Int) < (k : Int) := by omega
          have q1 : IntKind.i64.wrap ((i : Int) + 1 - 1) = (i : Int) := by rw [IntKind.wrap_i64]; omega
          have q2 : IntKind.i64.wrap (i : Int) = (i : Int) := by rw [IntKind.wrap_i64]; omega
          have q3 : (0 : Int) ≤ (i : Int) + 1 := by omega
          have q4 : ((i : Int) + 1).toNat = i + 1 := by omega
          have C := Lib.hid (fun W (hb : Below wr.heap.size wr W) => (KCj.out W (HSr.out.next hb).i (HSr.out.next hb).t).mono fun e w' (h : e = _ ∧ Below W.heap.size W w') => (⟨h.1, hb.trans (h.2.mono hb.size)⟩ : e = _ ∧ Below wr.heap.size wr w'))
          have hbr : br < wr.heap.size := lt_of_cell a1
          go_upto_region 21 with fail
          go_cut [22, 23] from 137 to 171 (fun s22 s23 wc => s22 = .int .i64 (-1) ∧ s23 = .int .i64 0 ∧ Hid (Below wr.heap.size wr wc))
          case first =>
            go_region_held3 (fun w' => Below wr.heap.size wr w' ∧ w'.cell? ⟨w.heap.size, 0, none⟩ = some (.slice pf nf cf) ∧ w'.cell? ⟨w.heap.size, 1, none⟩ = some (.slice pl nl cl) ∧ w'.cell? ⟨br, i, none⟩ = some (.string u) ∧ w'.cell? ⟨br, i + 1, none⟩ = some (.string q)) (first | exact ⟨(Below.refl _ _).drew, c0, c1, a0, a1⟩ | exact ⟨hacc, (hacc.cell (p := ⟨w.heap.size, 0, none⟩) hlt).trans c0, (hacc.cell (p := ⟨w.heap.size, 1, none⟩) hlt).trans c1, (hacc.cell (p := ⟨br, i, none⟩) hbr).trans a0, (hacc.cell (p := ⟨br, i + 1, none⟩) hbr).trans a1⟩) (first | (go_at_call 34; refine (C.out _ (by first | exact (Below.refl _ _).drew | exact hacc | exact hacc.drew)).mono ?_; rintro _ wq ⟨rfl, hacc⟩))
            all_goals
              (try go_wp2_with fail)
              go_meet
              exact ⟨rfl, rfl, hacc⟩
          case rest =>
          obtain ⟨rfl, rfl, HBc⟩ := hcut
          have HL7 := Lib.hid (HLr.out.next HBc.out)
          have hT7 := HTr.out.next HBc.out
          have HB7 := Lib.hid (HB.out.trans (HBc.out.mono HB.out.size))
          have a1 := hT7.cells (i + 1) hjT
          rw [Nat.zero_add] at a1
          rw [← HQ.out] at a1
          clear hT7 HSr HLr HTr C HBc q1 q2 q3 q4 hbr c0 c1 hlt a0
          go_wp2_with fail
          refine (KA.out _ HL7.out).mono ?_
          rintro _ w8 ⟨rfl, hb8⟩
          have HB2 := Lib.hid (HB7.out.trans (hb8.below.mono HB7.out.size))
          clear hb8
          go_wp2_with fail
          go_roundw
          case rel => exact ⟨i + 1 + 1, by go_num, by omega, HB2⟩
          case measure => simp [intOf]; omega
      · clear hsr hTr KA1 KC
        have HSx := HSr; have HTx := HTr; have HLx := HLr
        obtain ⟨W1, rfl⟩ : ∃ W1, W1 = wr := ⟨_, rfl⟩
        go_wp2_with fail
        go_loopw [24] (fun iv wr2 => ∃ j : Nat, iv = .int .i64 j ∧ j ≤ n ∧ Hid (Below W1.heap.size W1 wr2)) (fun iv _ => n - (intOf iv).toNat)
        case atStart => exact ⟨0, rfl, Nat.zero_le _, Below.refl _ _⟩
        case round =>
          clear c0 c1 hlt
          obtain ⟨j2, rfl, hj2, HB2⟩ := hrel
          have hb2 := HB2.out
          have hsr := HSx.out.next hb2
          obtain ⟨c0, c1, hlt⟩ : wr.cell? ⟨w.heap.size, 0, none⟩ = some (.slice pf nf cf) ∧ wr.cell? ⟨w.heap.size, 1, none⟩ = some (.slice pl nl cl) ∧ w.heap.size < wr.heap.size := ⟨hsr.c0, hsr.c1, hsr.lt⟩
          have hLr := HLx.out.next hb2
          have HSr := Lib.hid hsr; have HTr := Lib.hid (HTx.out.next hb2); have HLr := Lib.hid hLr
          by_cases hjn : j2 < n
          · have hjl : j2 < l.length := by have := HN.out; omega
            obtain rfl := hLr.at_ (by omega)
            have a1 := hLr.cells j2 hjl
            have KA := Lib.hid (KA2.out j2 hjn)
            obtain ⟨q, hq⟩ : ∃ q, q = l.getD j2 ByteArray.empty := ⟨_, rfl⟩
            rw [← hq] at a1 KA
            clear hsr hb2 hLr hq
            go_wp2_with fail
            refine (KA.out _ _ _ _ HTr.out).mono ?_
            rintro _ w8 ⟨rfl, hb8⟩
            have HB3 := Lib.hid (HB2.out.trans (hb8.below.mono HB2.out.size))
            clear hb8
            go_wp2_with fail
            go_roundw
            case rel => exact ⟨j2 + 1, by go_num, by omega, HB3⟩
            case measure => simp [intOf]; omega
          · clear hsr hb2 hLr
            go_wp2_with fail
            refine (KS.out _ _ _ _ HSr.out.i HSr.out.t HTr.out).mono ?_
            rintro _ w9 ⟨qr, vr, cq, rfl, hU, hb9⟩
            have HT9 := Lib.hid (HTr.out.next hb9)
            have HU := Lib.hid hU
            have HB9 := Lib.hid (HSr.out.next hb9).below
            clear hb9 hU c0 c1 hlt HSx HTx HLx HSr HTr HLr HB2 HS HT HL HB
            go_wp2_with fail
            go_loopw [26] (fun iv wr => ∃ j : Nat, iv = .int .i64 j ∧ j ≤ k ∧ Hid (Below w9.heap.size w9 wr)) (fun iv _ => k - (intOf iv).toNat)
            case atStart => exact ⟨0, rfl, Nat.zero_le _, Below.refl _ _⟩
            case round =>
              obtain ⟨j, rfl, hj, HB⟩ := hrel
              by_cases hjk2 : j < k
              · have hjT : j < T.length := by have := HK.out; omega
                have h1 := HT9.out.next HB.out
                have h2 := HU.out.next HB.out
                obtain rfl := h1.at_ (by omega)
                obtain rfl := h2.at_ (by omega)
                have a1 := h1.cells j hjT
                have a2 := h2.cells j hjT
                rw [Nat.zero_add] at a1 a2
                obtain ⟨q, hq⟩ : ∃ q, q = T.getD j ByteArray.empty := ⟨_, rfl⟩
                rw [← hq] at a1 a2
                have z1 : (j : Int) < (k : Int) := by omega
                clear h1 h2 hq hjT
                go_wp2_with fail
                go_quiet (fail)
                have HB2 := Lib.hid (below_drewN HB.out nq)
                go_wp2_with fail
                go_roundw
                case rel => exact ⟨j + 1, by go_num, by omega, HB2⟩
                case measure => simp [intOf]; omega
              · have HF := Lib.hid (HB9.out.trans (HB.out.mono HB9.out.size))
                go_wp2_with fail
                go_ret
                exact ⟨rfl, HF.out⟩
  · refine (KNO.out hE _ HS.out.i HS.out.t HL.out).mono ?_
    rintro _ w6 ⟨rfl, hb⟩
    have HB := Lib.hid ((HS.out).next hb).below
    obtain ⟨E, hE2⟩ : ∃ E, E = srtE A l := ⟨_, rfl⟩
    rw [← hE2] at hE ⊢
    have e1 : (E == 0) = false := by simp [hE]
    have e2 : (E != 0) = true := by simp [hE]
    clear HS hb hE2 hE KNO KYES KAG KCC KAM KAM2 c0 c1 hlt
    go_wp2_with fail
    go_ret
    exact ⟨rfl, HB.out⟩
end Go.Proofs.YtcibjgkifafohaaDoor
namespace Go.Proofs.YtcibjgkifafohaaDoor
open Go.RowKit Go.Lib
theorem lawOrder (A : Al) (x y z : ByteArray) (sr : Option Addr) (ur s0 cs : Nat) (l : List ByteArray) (w : World) (hA : A.In w) (hF : FsIn sr ur s0 cs l w) (hT : Tabs w) :
    Calls Tryd.prog 6 #[A.v, .string x, .string y, .string z, .slice sr l.length cs] w fun e w' => e = .returned (.bool true) ∧ Below w.heap.size w w' := by
  by_cases h : 200 < l.length
  · exact order_many A x y z sr ur s0 cs l w hA hT ⟨hF.at_, hF.cells, hF.big⟩ h
  · exact order_few A x y z sr ur s0 cs l w hA hT ⟨hF.at_, hF.cells, hF.big⟩ (by omega)
end Go.Proofs.YtcibjgkifafohaaDoor
