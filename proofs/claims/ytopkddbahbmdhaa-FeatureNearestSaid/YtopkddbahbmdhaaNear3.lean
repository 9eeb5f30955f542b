/-
  WALKS: cognatelaw02.FeatureNearest, where there is an answer; the whole.
-/
import Derived.Test.YtopkddbahbmdhaaNear2
namespace Go.Proofs.Ytopkddbahbmdhaa
open Go.RowKit Go.Lib
set_option linter.unusedVariables false

set_option maxHeartbeats 8000000 in
set_option maxRecDepth 100000 in
theorem nearest_yes (A : Al) (r : Int) (p m : Nat) (w : World) (hA : A.In w) (hp : p < 4294967296) (hm : m < 4294967296) (lx : Ltr) (j : Nat) (hj : j < A.ls.length) (hok : A.ok = true)
    (ox : ofR A r = (lx, 0)) (on : ofR A (A.ls.getD j default).r = (A.ls.getD j default, 0)) (h1 : nearR A r p m = ((A.ls.getD j default).r, 0)) (hlx : LtrOk lx)
    (hmin : ∀ i, i < A.ls.length → sgn (A.ls.getD j default) (trn lx p m).p (trn lx p m).m 24 ≤ sgn (A.ls.getD i default) (trn lx p m).p (trn lx p m).m 24)
    (hlt : ∀ i, i < j → sgn (A.ls.getD j default) (trn lx p m).p (trn lx p m).m 24 < sgn (A.ls.getD i default) (trn lx p m).p (trn lx p m).m 24)
    (hz : p ||| m = 0 → (A.ls.getD j default).p = lx.p ∧ (A.ls.getD j default).m = lx.m) :
    Calls Try.prog 6 #[A.v, .int .i32 r, .int .u32 p, .int .u32 m] w fun e w' => e = .returned (.bool true) ∧ Below w.heap.size w w' := by
  have HAL := Lib.hid alive_any
  have hto := trn_ok lx p m hlx hp hm
  have k1 := fun w h => near_any A r p m w h hp hm
  rw [h1] at k1
  have k2 := fun w (h : A.In w) => u_of h ox
  have k3 := fun w (h : A.In w) => u_of h on
  have hgj := hA.L.get j hj
  have hsx := fun w => signs_any (A.ls.getD j default) (trn lx p m).p (trn lx p m).m w ⟨hgj.1, hgj.2.1⟩ hto.1 hto.2
  have hsi := fun i (hi : i < A.ls.length) w => signs_any (A.ls.getD i default) (trn lx p m).p (trn lx p m).m w ⟨(hA.L.get i hi).1, (hA.L.get i hi).2.1⟩ hto.1 hto.2
  have hat := hA.L.at_ (by omega)
  have h128 := (Al.ok_ltrs hok).2
  obtain ⟨S, hS⟩ : ∃ S : Nat → Nat, ∀ i, S i = sgn (A.ls.getD i default) (trn lx p m).p (trn lx p m).m 24 := ⟨fun i => _, fun _ => rfl⟩
  simp only [← hS] at hsx hsi hmin hlt
  have hS24 : ∀ i, S i ≤ 24 := fun i => by rw [hS]; exact popAux_le 24 _
  obtain ⟨U, hU⟩ : ∃ U, U = (trn lx p m).p := ⟨_, rfl⟩
  obtain ⟨V, hV⟩ : ∃ V, V = (trn lx p m).m := ⟨_, rfl⟩
  rw [← hU, ← hV] at hsx hsi
  have hU' : U = (lx.p &&& (4294967295 - m)) ||| p := hU
  have hV' : V = (lx.m &&& (4294967295 - p)) ||| m := hV
  obtain ⟨lr, lp, lm⟩ := lx
  obtain ⟨hl1, hl2⟩ := hlx
  simp only [] at hU' hV' hl1 hl2 hz k2
  have e1 := u32_andNot_nat lp m hl1 hm
  have e2 := u32_andNot_nat lm p hl2 hp
  have l1 : lp &&& (4294967295 - m) < 4294967296 := Nat.and_lt_two_pow (n := 32) _ (by omega)
  have l2 : lm &&& (4294967295 - p) < 4294967296 := Nat.and_lt_two_pow (n := 32) _ (by omega)
  obtain ⟨X, hX⟩ : ∃ X, X = lp &&& (4294967295 - m) := ⟨_, rfl⟩
  obtain ⟨Y, hY⟩ : ∃ X, X = lm &&& (4294967295 - p) := ⟨_, rfl⟩
  rw [← hX] at e1 hU' l1
  rw [← hY] at e2 hV' l2
  have e3 := u32_or_nat X p l1 hp
  have e4 := u32_or_nat Y m l2 hm
  rw [← hU'] at e3
  rw [← hV'] at e4
  have e5 := u32_or_nat p m hp hm
  obtain ⟨PM, hPM⟩ : ∃ PM, PM = p ||| m := ⟨_, rfl⟩
  rw [← hPM] at e5 hz
  obtain ⟨pf, pl, nf, cf, nl, cl, hv, hnf, hnl, hpl, hcl, hpf, hcf⟩ := A.parts
  rw [hv] at k1 k2 k3 ⊢
  rw [← hpl] at hat
  subst hat
  obtain ⟨ls, hls⟩ : ∃ l, l = A.ls := ⟨_, rfl⟩
  obtain ⟨bl, hbl⟩ : ∃ l, l = A.bl := ⟨_, rfl⟩
  obtain ⟨l0, hl0⟩ : ∃ l, l = A.l0 := ⟨_, rfl⟩
  have hL0 := fun (w : World) (h : A.In w) => h.L
  rw [← hls, ← hbl, ← hl0] at hL0
  rw [← hls] at hnl hj k1 k3 hsx hsi hz hmin h128
  rw [← hbl, ← hl0] at k1 k2 k3 ⊢
  rw [← hnl] at hj hsi hmin h128
  obtain ⟨x, hx⟩ : ∃ x, x = ls.getD j default := ⟨_, rfl⟩
  rw [← hx] at k1 k3 hsx hz
  have hxr : (ls.getD j default).r = x.r := by rw [hx]
  obtain ⟨xr, xp, xm⟩ := x
  simp only [] at k1 k3 hsx hz hxr
  have hs := Bx.start (F := .slice pf nf cf) (L := .slice (some ⟨bl, l0, none⟩) nl cl) hA
  have HS := Lib.hid hs
  have K1 := Lib.hid k1; have K2 := Lib.hid k2; have K3 := Lib.hid k3; have HSX := Lib.hid hsx; have HSI := Lib.hid hsi; have HMIN := Lib.hid hmin; have HLT := Lib.hid hlt; have HZ := Lib.hid hz; have HL0 := Lib.hid hL0; have HNL := Lib.hid hnl; have HXR := Lib.hid hxr; have HS24 := Lib.hid hS24
  clear hs hA hp hm ox on h1 hmin hlt hz hok hto k1 k2 k3 hgj hsx hsi hS hU hV hU' hV' hX hY hPM hv hnf hnl hpl hcl hpf hcf hls hbl hl0 hL0 hx hxr hS24 l1 l2
  go_enter Try.func6, Try.ntmps6
  go_wp2_with fail
  refine (HAL.out _).mono ?_
  rintro _ w1 ⟨rfl, hb⟩
  have hs := HS.out.next hb
  obtain ⟨c0, c1, hlt⟩ : w1.cell? ⟨w.heap.size, 0, none⟩ = some (.slice pf nf cf) ∧ w1.cell? ⟨w.heap.size, 1, none⟩ = some (.slice (some ⟨bl, l0, none⟩) nl cl) ∧ w.heap.size < w1.heap.size := ⟨hs.c0, hs.c1, hs.lt⟩
  clear HS
  have HS := Lib.hid hs
  clear hs hb
  go_wp2_with fail
  refine (K1.out _ HS.out.i).mono ?_
  rintro _ w2 ⟨rfl, hb⟩
  have hs := HS.out.next hb
  obtain ⟨c0, c1, hlt⟩ : w2.cell? ⟨w.heap.size, 0, none⟩ = some (.slice pf nf cf) ∧ w2.cell? ⟨w.heap.size, 1, none⟩ = some (.slice (some ⟨bl, l0, none⟩) nl cl) ∧ w.heap.size < w2.heap.size := ⟨hs.c0, hs.c1, hs.lt⟩
  clear HS
  have HS := Lib.hid hs
  clear hs hb
  go_wp2_with fail
  refine (K2.out _ HS.out.i).mono ?_
  rintro _ w3 ⟨rfl, hb⟩
  have hs := HS.out.next hb
  obtain ⟨c0, c1, hlt⟩ : w3.cell? ⟨w.heap.size, 0, none⟩ = some (.slice pf nf cf) ∧ w3.cell? ⟨w.heap.size, 1, none⟩ = some (.slice (some ⟨bl, l0, none⟩) nl cl) ∧ w.heap.size < w3.heap.size := ⟨hs.c0, hs.c1, hs.lt⟩
  clear HS
  have HS := Lib.hid hs
  clear hs hb
  go_wp2_with fail
  refine (K3.out _ (HS.out.alloc _).i).mono ?_
  rintro _ w4 ⟨rfl, hb⟩
  have hs := (HS.out.alloc _).next hb
  obtain ⟨hcc, hff⟩ := bcell hb
  have g1 : w4.cell? ⟨w3.heap.size, 1, none⟩ = some (.int .u32 lp) := by rw [hcc _ _ (by simp)]; simp
  have g2 : w4.cell? ⟨w3.heap.size, 2, none⟩ = some (.int .u32 lm) := by rw [hcc _ _ (by simp)]; simp
  have hz4 := hb.size
  simp only [World.size_alloc] at hz4
  have hlt3 : w3.heap.size < w4.heap.size := by omega
  clear HS
  have HS := Lib.hid hs
  clear hs hb hcc hff c0 c1 hlt hz4 K3
  go_wp2_with fail
  refine (HSX.out _).mono ?_
  rintro _ w5 ⟨rfl, hb⟩
  have hs := (HS.out.alloc _).next hb
  obtain ⟨hcc, hff⟩ := bcell hb
  have d1 : w5.cell? ⟨w3.heap.size, 1, none⟩ = some (.int .u32 lp) := by rw [hcc _ _ (by simp; omega), World.cell?_alloc_past _ _ _ hlt3]; exact g1
  have d2 : w5.cell? ⟨w3.heap.size, 2, none⟩ = some (.int .u32 lm) := by rw [hcc _ _ (by simp; omega), World.cell?_alloc_past _ _ _ hlt3]; exact g2
  have d3 : w5.cell? ⟨w4.heap.size, 1, none⟩ = some (.int .u32 xp) := by rw [hcc _ _ (by simp)]; simp
  have d4 : w5.cell? ⟨w4.heap.size, 2, none⟩ = some (.int .u32 xm) := by rw [hcc _ _ (by simp)]; simp
  have hz5 := hb.size
  simp only [World.size_alloc] at hz5
  have h35 : w3.heap.size < w5.heap.size := by omega
  have h45 : w4.heap.size < w5.heap.size := by omega
  clear HS
  have HS := Lib.hid hs
  clear hs hb hcc hff g1 g2 hlt3 hz5 HSX K1 K2
  go_wp2_with fail
  go_loopw [19, 20] (fun s19 s20 wr => ∃ (mb : Bool) (k : Nat), s19 = .bool mb ∧ s20 = .int .i64 k ∧ k ≤ nl ∧ (j < k → mb = true) ∧ Hid (Bx A (.slice pf nf cf) (.slice (some ⟨bl, l0, none⟩) nl cl) w w.heap.size wr) ∧ Hid (Below w5.heap.size w5 wr)) (fun _ i _ => nl - (intOf i).toNat)
  case atStart => exact ⟨false, 0, rfl, rfl, Nat.zero_le _, fun h => absurd h (by omega), HS, Below.refl _ _⟩
  case round =>
    obtain ⟨mb, k, rfl, rfl, hk, hmb, HX, HB⟩ := hrel
    obtain ⟨c0, c1, hlt⟩ : wr.cell? ⟨w.heap.size, 0, none⟩ = some (.slice pf nf cf) ∧ wr.cell? ⟨w.heap.size, 1, none⟩ = some (.slice (some ⟨bl, l0, none⟩) nl cl) ∧ w.heap.size < wr.heap.size := ⟨HX.out.c0, HX.out.c1, HX.out.lt⟩
    have hz := HB.out.size
    by_cases hkn : k < nl
    · have hL2 := HL0.out wr HX.out.i
      have a0 := hL2.cr k (by rw [← HNL.out]; exact hkn)
      have a1 := hL2.cp k (by rw [← HNL.out]; exact hkn)
      have a2 := hL2.cm k (by rw [← HNL.out]; exact hkn)
      have hL3 := fun w' (hb : Below wr.heap.size wr w') => (HL0.out w' (HX.out.next hb).i).cr k (by rw [← HNL.out]; exact hkn)
      have hsi := HSI.out k hkn
      have hqx : k = j → (ls.getD k default).r = xr := fun h => by rw [h]; exact HXR.out
      obtain ⟨l, hl⟩ : ∃ l, l = ls.getD k default := ⟨_, rfl⟩
      rw [← hl] at a0 a1 a2 hsi hL3 hqx
      obtain ⟨q, u, v⟩ := l
      simp only [] at a0 a1 a2 hsi hL3 hqx
      obtain ⟨K, hK⟩ : ∃ K, K = S k := ⟨_, rfl⟩
      obtain ⟨G, hG⟩ : ∃ K, K = S j := ⟨_, rfl⟩
      have hle := HMIN.out k hkn
      have hlj := HLT.out k
      rw [← hK, ← hG] at hle hlj
      rw [← hK] at hsi
      have kf1 : ¬ (K : Int) < (G : Int) := by omega
      have hKG : k = j → K = G := fun h => by rw [hK, hG, h]
      have HSI2 := Lib.hid hsi; have HL3 := Lib.hid hL3
      rw [← hG]
      clear hsi hL3 hL2 hl hK hG d1 d2 d3 d4
      rcases Nat.lt_trichotomy k j with hkj | hkj | hkj
      · have hlj := hlj hkj
        have kf2 : ((K : Int) == (G : Int)) = false := by simp; omega
        clear hqx hKG hle hmb
        cases mb with
        | true =>
          go_wp2_with fail
          refine (HSI2.out _).mono ?_
          rintro _ w6 ⟨rfl, hb⟩
          have hx6 := HX.out.next hb
          have a0' := HL3.out w6 hb
          have hB6 : Below w5.heap.size w5 w6 := HB.out.trans (hb.mono hz)
          obtain ⟨c0', c1', hlt'⟩ : w6.cell? ⟨w.heap.size, 0, none⟩ = some (.slice pf nf cf) ∧ w6.cell? ⟨w.heap.size, 1, none⟩ = some (.slice (some ⟨bl, l0, none⟩) nl cl) ∧ w.heap.size < w6.heap.size := ⟨hx6.c0, hx6.c1, hx6.lt⟩
          have HX6 := Lib.hid hx6; have HB6 := Lib.hid hB6
          clear hx6 hB6 hb c0 c1 a0 a1 a2 hlt hz HX HB
          go_wp2_with fail
          go_roundw
          case rel => exact ⟨_, k + 1, rfl, by go_num, by omega, fun h => absurd h (by omega), HX6, HB6⟩
          case measure => simp [intOf]; omega
        | false =>
          go_wp2_with fail
          refine (HSI2.out _).mono ?_
          rintro _ w6 ⟨rfl, hb⟩
          have hx6 := HX.out.next hb
          have a0' := HL3.out w6 hb
          have hB6 : Below w5.heap.size w5 w6 := HB.out.trans (hb.mono hz)
          obtain ⟨c0', c1', hlt'⟩ : w6.cell? ⟨w.heap.size, 0, none⟩ = some (.slice pf nf cf) ∧ w6.cell? ⟨w.heap.size, 1, none⟩ = some (.slice (some ⟨bl, l0, none⟩) nl cl) ∧ w.heap.size < w6.heap.size := ⟨hx6.c0, hx6.c1, hx6.lt⟩
          have HX6 := Lib.hid hx6; have HB6 := Lib.hid hB6
          clear hx6 hB6 hb c0 c1 a0 a1 a2 hlt hz HX HB
          go_wp2_with fail
          go_roundw
          case rel => exact ⟨_, k + 1, rfl, by go_num, by omega, fun h => absurd h (by omega), HX6, HB6⟩
          case measure => simp [intOf]; omega
      · obtain rfl := hKG hkj
        obtain rfl := hqx hkj
        have kf2 : ((K : Int) == (K : Int)) = true := by simp
        have kf3 : (q == q) = true := by simp
        clear hkj
        clear hqx hKG hle hlj hmb
        cases mb with
        | true =>
          go_wp2_with fail
          refine (HSI2.out _).mono ?_
          rintro _ w6 ⟨rfl, hb⟩
          have hx6 := HX.out.next hb
          have a0' := HL3.out w6 hb
          have hB6 : Below w5.heap.size w5 w6 := HB.out.trans (hb.mono hz)
          obtain ⟨c0', c1', hlt'⟩ : w6.cell? ⟨w.heap.size, 0, none⟩ = some (.slice pf nf cf) ∧ w6.cell? ⟨w.heap.size, 1, none⟩ = some (.slice (some ⟨bl, l0, none⟩) nl cl) ∧ w.heap.size < w6.heap.size := ⟨hx6.c0, hx6.c1, hx6.lt⟩
          have HX6 := Lib.hid hx6; have HB6 := Lib.hid hB6
          clear hx6 hB6 hb c0 c1 a0 a1 a2 hlt hz HX HB
          go_wp2_with fail
          go_roundw
          case rel => exact ⟨_, k + 1, rfl, by go_num, by omega, fun _ => rfl, HX6, HB6⟩
          case measure => simp [intOf]; omega
        | false =>
          go_wp2_with fail
          refine (HSI2.out _).mono ?_
          rintro _ w6 ⟨rfl, hb⟩
          have hx6 := HX.out.next hb
          have a0' := HL3.out w6 hb
          have hB6 : Below w5.heap.size w5 w6 := HB.out.trans (hb.mono hz)
          obtain ⟨c0', c1', hlt'⟩ : w6.cell? ⟨w.heap.size, 0, none⟩ = some (.slice pf nf cf) ∧ w6.cell? ⟨w.heap.size, 1, none⟩ = some (.slice (some ⟨bl, l0, none⟩) nl cl) ∧ w.heap.size < w6.heap.size := ⟨hx6.c0, hx6.c1, hx6.lt⟩
          have HX6 := Lib.hid hx6; have HB6 := Lib.hid hB6
          clear hx6 hB6 hb c0 c1 a0 a1 a2 hlt hz HX HB
          go_wp2_with fail
          go_roundw
          case rel => exact ⟨_, k + 1, rfl, by go_num, by omega, fun _ => rfl, HX6, HB6⟩
          case measure => simp [intOf]; omega
      · obtain rfl := hmb hkj
        by_cases hkg : K = G
        · have kf2 : ((K : Int) == (G : Int)) = true := by simp [hkg]
          clear hqx hKG hle hlj hmb hkg
          go_wp2_with fail
          refine (HSI2.out _).mono ?_
          rintro _ w6 ⟨rfl, hb⟩
          have hx6 := HX.out.next hb
          have a0' := HL3.out w6 hb
          have hB6 : Below w5.heap.size w5 w6 := HB.out.trans (hb.mono hz)
          obtain ⟨c0', c1', hlt'⟩ : w6.cell? ⟨w.heap.size, 0, none⟩ = some (.slice pf nf cf) ∧ w6.cell? ⟨w.heap.size, 1, none⟩ = some (.slice (some ⟨bl, l0, none⟩) nl cl) ∧ w.heap.size < w6.heap.size := ⟨hx6.c0, hx6.c1, hx6.lt⟩
          have HX6 := Lib.hid hx6; have HB6 := Lib.hid hB6
          clear hx6 hB6 hb c0 c1 a0 a1 a2 hlt hz HX HB
          go_wp2_with fail
          go_roundw
          case rel => exact ⟨_, k + 1, rfl, by go_num, by omega, fun _ => rfl, HX6, HB6⟩
          case measure => simp [intOf]; omega
        · have kf2 : ((K : Int) == (G : Int)) = false := by simp; omega
          clear hqx hKG hle hlj hmb hkg
          go_wp2_with fail
          refine (HSI2.out _).mono ?_
          rintro _ w6 ⟨rfl, hb⟩
          have hx6 := HX.out.next hb
          have a0' := HL3.out w6 hb
          have hB6 : Below w5.heap.size w5 w6 := HB.out.trans (hb.mono hz)
          obtain ⟨c0', c1', hlt'⟩ : w6.cell? ⟨w.heap.size, 0, none⟩ = some (.slice pf nf cf) ∧ w6.cell? ⟨w.heap.size, 1, none⟩ = some (.slice (some ⟨bl, l0, none⟩) nl cl) ∧ w.heap.size < w6.heap.size := ⟨hx6.c0, hx6.c1, hx6.lt⟩
          have HX6 := Lib.hid hx6; have HB6 := Lib.hid hB6
          clear hx6 hB6 hb c0 c1 a0 a1 a2 hlt hz HX HB
          go_wp2_with fail
          go_roundw
          case rel => exact ⟨_, k + 1, rfl, by go_num, by omega, fun _ => rfl, HX6, HB6⟩
          case measure => simp [intOf]; omega
    · obtain rfl : k = nl := by omega
      obtain rfl := hmb hj
      have y1 : wr.cell? ⟨w3.heap.size, 1, none⟩ = some (.int .u32 lp) := (HB.out.cell (p := ⟨w3.heap.size, 1, none⟩) h35).trans d1
      have y2 : wr.cell? ⟨w3.heap.size, 2, none⟩ = some (.int .u32 lm) := (HB.out.cell (p := ⟨w3.heap.size, 2, none⟩) h35).trans d2
      have y3 : wr.cell? ⟨w4.heap.size, 1, none⟩ = some (.int .u32 xp) := (HB.out.cell (p := ⟨w4.heap.size, 1, none⟩) h45).trans d3
      have y4 : wr.cell? ⟨w4.heap.size, 2, none⟩ = some (.int .u32 xm) := (HB.out.cell (p := ⟨w4.heap.size, 2, none⟩) h45).trans d4
      clear d1 d2 d3 d4
      by_cases hpm : PM = 0
      · obtain ⟨rfl, rfl⟩ := HZ.out hpm
        have z1 : ((PM : Int) == 0) = true := by simp [hpm]
        have z2 : ((PM : Int) != 0) = false := by simp [hpm]
        have z3 : ((xp : Int) == (xp : Int)) = true := by simp
        have z4 : ((xm : Int) == (xm : Int)) = true := by simp
        clear hpm
        go_wp2_with fail
        go_ret
        exact ⟨rfl, HX.out.below⟩
      · have z1 : ((PM : Int) == 0) = false := by simp; omega
        have z2 : ((PM : Int) != 0) = true := by simp; omega
        clear hpm
        go_wp2_with fail
        go_ret
        exact ⟨rfl, HX.out.below⟩

/-- 'cognatelaw02.FeatureNearest' answers true, whatever the input. -/
theorem lawNearest (A : Al) (r : Int) (p m : Nat) (w : World) (hA : A.In w) (hp : p < 4294967296) (hm : m < 4294967296) :
    Calls Try.prog 6 #[A.v, .int .i32 r, .int .u32 p, .int .u32 m] w fun e w' => e = .returned (.bool true) ∧ Below w.heap.size w w' := by
  rcases nearR_cases A r p m hA.L.bits hp hm with ⟨e, he, h1⟩ | ⟨lx, j, hj, hok, ox, on, h1, hlx, hmin, hlt, hz⟩
  · exact nearest_no A r p m w hA hp hm e he h1
  · exact nearest_yes A r p m w hA hp hm lx j hj hok ox on h1 hlx hmin hlt hz
end Go.Proofs.Ytopkddbahbmdhaa
