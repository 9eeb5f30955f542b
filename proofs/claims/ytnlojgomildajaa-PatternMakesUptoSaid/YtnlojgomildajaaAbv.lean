/-
  WALKS: pattern.above.
-/
import Derived.Test.YtnlojgomildajaaAbP
namespace Go.Proofs.Ytnlojgomildajaa
open Go.RowKit Go.Lib
set_option linter.unusedVariables false
theorem one_out (k : Nat) (hk : k < 256) (N : Nat) (W : World) (b : Nat) (hb : N ≤ b) (hcs : W.heap[b]? = some (.cells #[.int .u8 k, .int .i32 0, .int .u32 0, .int .u32 0, .slice none 0 0] 42 (0, 0))) (M : NdM) (hM : M = ⟨⟨k, 0, 0, 0, []⟩, none, 0, 0, 0⟩) :
    OutN N (fun _ => False) (.slice (some ⟨b, 0, none⟩) 1 1) [M.bare] W := by
  subst hM
  refine ⟨⟨by rw [nsC_length], Or.inr ⟨b, 1, _, rfl, hb, hcs, Nat.le_refl 1, by unfold maxLen; omega, rfl, ?_⟩⟩, fun q hq => ?_, fun q hq h0 => ?_, fun q hq => ?_⟩
  · rw [nsC_single]; rfl
  · rw [List.mem_singleton.1 hq]; exact bare_ks _ _
  · rw [List.mem_singleton.1 hq] at h0; exact absurd h0 (Nat.lt_irrefl 0)
  · rw [List.mem_singleton.1 hq]; exact ⟨hk, ⟨by show (-2147483648 : Int) ≤ 0; decide, by show (0 : Int) ≤ 2147483647; decide⟩, by show 0 < 4294967296; decide, by show 0 < 4294967296; decide⟩
set_option maxHeartbeats 8000000 in
set_option maxRecDepth 100000 in
theorem above_any (k : Nat) (hk : k < 256) (pp : Option Addr) (bp p0 cp : Nat) (ps : List PtM) (w : World) (h : PsIn pp bp p0 ps w) :
    Calls Try.prog 27 #[.int .u8 k, .slice pp ps.length cp] w (MkPost2 (madeE (pN ps)) (madeR k (pN ps)) w) := by
  obtain ⟨n, hn⟩ : ∃ n, n = ps.length := ⟨_, rfl⟩
  obtain ⟨l, hl⟩ : ∃ l, l = pN ps := ⟨_, rfl⟩
  have hln : l.length = n := by rw [hl, pN_len, hn]
  have hlt : ∀ i, i < n → l.take (i + 1) = l.take i ++ [nds (ps.getD i default).ms] := fun i hi => by rw [hl]; exact pN_take (by omega)
  have hlg : ∀ i (hi : i < n), ∃ h : i < l.length, l[i] = nds (ps.getD i default).ms := fun i hi => ⟨by omega, by
    subst hl
    have hi2 : i < ps.length := by omega
    simp [pN, List.getD_eq_getElem?_getD, List.getElem?_eq_getElem hi2]⟩
  have htl : ∀ i, i < n → (l.map tr0).getD i default = tr0 (nds (ps.getD i default).ms) := fun i hi => by rw [hl]; exact pN_tl (by omega)
  rw [← hl, ← hn]
  obtain ⟨W1, hW1⟩ : ∃ W1, W1 = w.alloc (.cells #[.slice none 0 0] 25) := ⟨_, rfl⟩
  have hz1 : W1.heap.size = w.heap.size + 1 := by rw [hW1]; simp
  have hb1 : Below w.heap.size w W1 := by rw [hW1]; exact (Below.refl _ _).alloc (Nat.le_refl _) _
  have d1 : W1.cell? ⟨w.heap.size, 0, none⟩ = some (.slice none 0 0) := by rw [hW1]; simp
  have f1 : W1.frozen? ⟨w.heap.size, 0, none⟩ = false := by rw [hW1]; simp
  have hP1 := h.next hb1
  have hbox : ∀ W, Below (w.heap.size + 1) W1 W → W.cell? ⟨w.heap.size, 0, none⟩ = some (.slice none 0 0) ∧ W.frozen? ⟨w.heap.size, 0, none⟩ = false ∧ Below w.heap.size w W ∧ w.heap.size < W.heap.size := fun W hW =>
    ⟨(hW.cell (p := ⟨w.heap.size, 0, none⟩) (Nat.lt_succ_self _)).trans d1, (hW.frozen (p := ⟨w.heap.size, 0, none⟩) (Nat.lt_succ_self _)).trans f1, hb1.trans (hW.mono (Nat.le_succ _)), by have := hW.size; omega⟩
  have hbig := h.big
  rw [← hn] at hbig
  have HP := Lib.hid hP1; have HN := Lib.hid hn; have HLN := Lib.hid hln; have HLT := Lib.hid hlt; have HLG := Lib.hid hlg; have HTL := Lib.hid htl; have HBOX := Lib.hid hbox; have HZ1 := Lib.hid hz1; have HB1 := Lib.hid hb1
  by_cases hn256 : 256 < n
  · have hE : madeE l = 4 := by unfold madeE; rw [if_pos (by omega)]
    have hR : madeR k l = [] := by unfold madeR; rw [if_neg (by rw [hE]; decide)]
    rw [hE, hR]
    have a2 : (256 : Int) < (n : Int) := by omega
    have HF := Lib.hid (mk2_none 4 w (w.alloc (.cells #[.slice none 0 0] 25)) ((Below.refl _ _).alloc (Nat.le_refl _) _))
    clear h hn hl hln hlt hlg htl hW1 hz1 hb1 d1 f1 hP1 hbox hE hR
    go_enter Try.func27, Try.ntmps27
    go_wp2_with fail
    refine bodyPost_ret (v := .tuple #[.agg #[.slice none 0 0], .int .i64 4]) (by simp [results, Try.results27, go_sem, *]) rfl ?_
    exact HF.out
  have a2 : ¬ (256 : Int) < (n : Int) := by omega
  have hn2 : n ≤ 256 := by omega
  have HW1 := Lib.hid hW1; have HHK := Lib.hid hk
  clear h hn hl hln hlt hlg htl hz1 hb1 hP1 hbox hn256 hk
  go_enter Try.func27, Try.ntmps27
  go_wp2_with fail
  rw [← HW1.out]
  clear hW1 HW1
  go_loopw [6, 19] (fun nv iv wr => ∃ (i K : Nat), nv = .int .i64 K ∧ iv = .int .i64 i ∧ i ≤ n ∧ K ≤ 100000 ∧ Hid (K = 1 + allN (l.take i)) ∧ Hid ((l.take i).all treeB = true) ∧ Hid (Below (w.heap.size + 1) W1 wr)) (fun _ iv _ => n - (intOf iv).toNat)
  case atStart => exact ⟨0, 1, rfl, rfl, by omega, by omega, Lib.hid rfl, Lib.hid rfl, Lib.hid (Below.refl _ _)⟩
  case round =>
    obtain ⟨i, K, rfl, rfl, hi, hK, HKE, HALL, HBW⟩ := hrel
    obtain ⟨c0, f0, hbw, hzw⟩ := HBOX.out wr HBW.out
    have HBWW := Lib.hid hbw
    clear hbw
    by_cases hin : i < n
    · have hPw := HP.out.next (w' := wr) (by rw [HZ1.out]; exact HBW.out)
      have hil : i < ps.length := by rw [← HN.out]; exact hin
      obtain rfl := hPw.at_ (by omega)
      obtain ⟨p, hp⟩ : ∃ p, p = ps.getD i default := ⟨_, rfl⟩
      have a0 := hPw.cells i hil
      have hin2 := hPw.pats i hil
      rw [← hp] at a0 hin2
      obtain ⟨np, hnp⟩ : ∃ q, q = p.ms.length := ⟨_, rfl⟩
      obtain ⟨pn, hpn⟩ : ∃ q, q = p.pn := ⟨_, rfl⟩
      obtain ⟨cp2, hcp⟩ : ∃ q, q = p.c := ⟨_, rfl⟩
      obtain ⟨B, hB⟩ : ∃ B, B = treeB (nds p.ms) := ⟨_, rfl⟩
      have kt := fun (W : World) (hW : Below wr.heap.size wr W) => isTree_any p.pn p.bn p.n0 p.c p.ms W (hin2.i.next hW) B (by rw [hB]; exact treeB_iff _)
      rw [← hnp, ← hpn, ← hcp] at kt a0
      have hzb := blk_of_cell a0
      have KT := Lib.hid kt; have HPP := Lib.hid hp; have HNP := Lib.hid hnp; have HBB := Lib.hid hB
      have HA := Lib.hid (show Below wr.heap.size wr (wr.alloc (.cells #[.slice pn np cp2] 25)) from (Below.refl _ _).alloc (Nat.le_refl _) _)
      have HA0 : Hid ((wr.alloc (.cells #[.slice pn np cp2] 25)).cell? ⟨wr.heap.size, 0, none⟩ = some (.slice pn np cp2)) := Lib.hid (by simp)
      have HAZ : Hid ((wr.alloc (.cells #[.slice pn np cp2] 25)).heap.size = wr.heap.size + 1) := Lib.hid (by simp)
      clear kt hp hnp hB hpn hcp hPw hin2
      go_wp2_with fail
      refine (KT.out _ HA.out).mono ?_
      rintro e w2 ⟨rfl, hb2⟩
      have e0 := (hb2.cell (p := ⟨wr.heap.size, 0, none⟩) (by rw [HAZ.out]; exact Nat.lt_succ_self _)).trans HA0.out
      have hb2' := HBW.out.trans ((HA.out.trans (hb2.mono HA.out.size)).mono (by have := HBW.out.size; rw [HZ1.out] at this; exact this))
      obtain ⟨c2, f2, hbw2, hzw2⟩ := HBOX.out w2 hb2'
      have HB2 := Lib.hid hb2'; have HBW2 := Lib.hid hbw2
      obtain ⟨hg, hge⟩ := HLG.out i hin
      clear hb2 hb2' hbw2 c0 f0 a0 KT HA HA0 HAZ
      cases B with
      | false =>
        have hall : l.all treeB = false := all_no hg (by rw [hge, ← HPP.out]; exact HBB.out.symm)
        have hE : madeE l = 40 := by unfold madeE; rw [if_neg (by rw [HLN.out]; omega), if_neg (by rw [hall]; decide)]
        have hR : madeR k l = [] := by unfold madeR; rw [if_neg (by rw [hE]; decide)]
        have HR := Lib.hid (show ∀ u, MkPost2 (madeE l) (madeR k l) w (.returned (.tuple #[.agg #[.slice none 0 0], .int .i64 40])) (w2.setCell ⟨w.heap.size, 0, none⟩ u) from fun u => by rw [hE, hR]; exact mk2_none 40 w _ (HBW2.out.setCell (p := ⟨w.heap.size, 0, none⟩) (Nat.le_refl _) u))
        clear hall hE hR hge hg
        go_wp2_with fail
        refine bodyPost_ret (v := .tuple #[.agg #[.slice none 0 0], .int .i64 40]) (by simp [results, Try.results27, go_sem, *]) rfl ?_
        exact HR.out _
      | true =>
        have hal2 : (l.take (i + 1)).all treeB = true := by
          rw [HLT.out i hin, List.all_append, HALL.out, List.all_cons, ← HPP.out, ← HBB.out]; rfl
        have hKn : K + np = 1 + allN (l.take (i + 1)) := by
          rw [HLT.out i hin, allN_snoc, nds_length, ← HPP.out, ← HNP.out, HKE.out]; omega
        have hKb : K + np ≤ 100000 := by
          have h1 := made_le hal2
          have h2 : (l.take (i + 1)).length ≤ 256 := by rw [List.length_take]; omega
          have h3 : (l.take (i + 1)).length * 256 ≤ 256 * 256 := Nat.mul_le_mul_right _ h2
          omega
        have HJ := Lib.hid (show i + 1 ≤ n from hin); have HKN := Lib.hid hKn; have HAL2 := Lib.hid hal2
        clear hal2 hKn hge hg
        go_wp2_with fail
        go_roundw
        case rel => exact ⟨i + 1, K + np, by go_num, by go_num, HJ.out, hKb, HKN, HAL2, HB2⟩
        case measure => have := HJ.out; simp [intOf]; omega
    · obtain rfl : i = n := by omega
      have hall : l.all treeB = true := by have := HALL.out; rwa [List.take_of_length_le (by rw [HLN.out]; exact Nat.le_refl _)] at this
      have hKE : K = 1 + allN l := by have := HKE.out; rwa [List.take_of_length_le (by rw [HLN.out]; exact Nat.le_refl _)] at this
      by_cases hK2 : 256 < K
      · have hE : madeE l = 4 := by unfold madeE; rw [if_neg (by rw [HLN.out]; omega), if_pos hall, if_pos (by omega)]
        have hR : madeR k l = [] := by unfold madeR; rw [if_neg (by rw [hE]; decide)]
        have HR := Lib.hid (show ∀ u, MkPost2 (madeE l) (madeR k l) w (.returned (.tuple #[.agg #[.slice none 0 0], .int .i64 4])) (wr.setCell ⟨w.heap.size, 0, none⟩ u) from fun u => by rw [hE, hR]; exact mk2_none 4 w _ (HBWW.out.setCell (p := ⟨w.heap.size, 0, none⟩) (Nat.le_refl _) u))
        have hK3 : (256 : Int) < (K : Int) := by omega
        clear hall hKE hE hR
        go_wp2_with fail
        refine bodyPost_ret (v := .tuple #[.agg #[.slice none 0 0], .int .i64 4]) (by simp [results, Try.results27, go_sem, *]) rfl ?_
        exact HR.out _
      · have hE : madeE l = 0 := by unfold madeE; rw [if_neg (by rw [HLN.out]; omega), if_pos hall, if_neg (by omega)]
        have hR : madeR k l = madeN k l := by unfold madeR; rw [if_pos hE]
        have hK3 : ¬ (256 : Int) < (K : Int) := by omega
        obtain ⟨M, hM⟩ : ∃ M : NdM, M = ⟨⟨k, 0, 0, 0, []⟩, none, 0, 0, 0⟩ := ⟨_, rfl⟩
        obtain ⟨tl, htl⟩ : ∃ tl, tl = l.map tr0 := ⟨_, rfl⟩
        have hsz : 1 + (ofL tl).sz ≤ 100000 := by rw [htl, made_sz hall]; omega
        have hW5 : Below wr.heap.size wr (wr.alloc (.cells #[.int .u8 k, .int .i32 0, .int .u32 0, .int .u32 0, .slice none 0 0] 42)) := (Below.refl _ _).alloc (Nat.le_refl _) _
        have hst : RbL (w.heap.size + 1) W1 M tl 0 (.slice none 0 0) (.slice (some ⟨wr.heap.size, 0, none⟩) 1 1) [] [] (wr.alloc (.cells #[.int .u8 k, .int .i32 0, .int .u32 0, .int .u32 0, .slice none 0 0] 42)) :=
          ⟨HBW.out.trans (hW5.mono (by omega)), one_out k HHK.out _ _ wr.heap.size (by omega) (heap_alloc_new wr _) M hM, SofarL.start tl, rfl, World.ownsRow_nil _ _ _ _, fun b hb => (by cases hb), fun q hq => (by cases hq)⟩
        have HST := Lib.hid hst; have HE := Lib.hid hE; have HR := Lib.hid hR; have HM := Lib.hid hM; have HTLE := Lib.hid htl; have HSZ := Lib.hid hsz; have HAL := Lib.hid hall
        clear hst hE hR hM htl hsz hall hKE hW5 c0 f0
        go_wp2_with fail
        go_loopw [9, 10, 41] (fun ov kv iv wx => ∃ (j : Nat) (msj : List NdM) (st : List Int), iv = .int .i64 j ∧ j ≤ i ∧ Hid (RbL (w.heap.size + 1) W1 M tl j kv ov msj st wx)) (fun _ _ iv _ => i - (intOf iv).toNat)
        case atStart => exact ⟨0, [], [], rfl, by omega, HST⟩
        case round =>
          clear HST HBW HBWW hzw
          obtain ⟨j, msj, st, rfl, hj, HX⟩ := hrel
          obtain ⟨ok, nkv, ckv, rfl⟩ : ∃ o n c, u10 = .slice o n c := by obtain ⟨o, c, h⟩ := ownN_shape HX.out.kown; exact ⟨o, _, c, h⟩
          have hNw : w.heap.size + 1 ≤ wr.heap.size := by have := HX.out.below.size; have := HZ1.out; omega
          have HNW := Lib.hid hNw
          by_cases hji : j < i
          · have hPw := HP.out.next (w' := wr) (by rw [HZ1.out]; exact HX.out.below)
            have hjl : j < ps.length := by rw [← HN.out]; exact hji
            obtain rfl := hPw.at_ (by omega)
            obtain ⟨p, hp⟩ : ∃ p, p = ps.getD j default := ⟨_, rfl⟩
            have a0 := hPw.cells j hjl
            rw [← hp] at a0
            obtain ⟨np, hnp⟩ : ∃ q, q = p.ms.length := ⟨_, rfl⟩
            obtain ⟨pn, hpn⟩ : ∃ q, q = p.pn := ⟨_, rfl⟩
            obtain ⟨cp2, hcp⟩ : ∃ q, q = p.c := ⟨_, rfl⟩
            have hzb := blk_of_cell a0
            have hIp := (HP.out.pats j hjl).i
            rw [← hp] at hIp
            have htree : IsTree (nds p.ms) := by
              obtain ⟨hg, hge⟩ := HLG.out j (by omega)
              rw [hp, ← hge]
              exact (treeB_iff _).1 (List.all_eq_true.1 HAL.out _ (List.getElem_mem hg))
            have htlj : tl.getD j default = tr0 (nds p.ms) := by rw [HTLE.out, HTL.out j (by omega), ← hp]
            have hX1 := HX.out.next (by omega) (show Below wr.heap.size wr (wr.alloc (.cells #[.slice p.pn p.ms.length p.c] 25)) from (Below.refl _ _).alloc (Nat.le_refl _) _)
            obtain ⟨z, hz5, ⟨oz, cz, rfl⟩, hszj, hstep⟩ := hX1.step HZ1.out (by rw [HTLE.out, List.length_map, HLN.out]; exact hji) HSZ.out
            have kpt := fun (W : World) hB ho => putTree_any (w.heap.size + 1) p.pn p.bn p.n0 p.c p.ms W1 HZ1.out hIp 0 (tr0 (nds p.ms)) W (.slice oz z cz) (M.bare :: msj) hB ho (tr0_at htree) (by rw [htlj] at hszj; exact hszj)
            rw [htlj] at hstep
            rw [← hnp, ← hpn, ← hcp] at kpt a0 hstep hX1
            have KPT := Lib.hid kpt; have HSTEP := Lib.hid hstep; have HX1 := Lib.hid hX1
            have HJ := Lib.hid (show j + 1 ≤ i from hji)
            have hst2 := Lib.hid HX.out.stl
            have HKL := Lib.hid (fun b (hb : (Value.slice ok nkv ckv).ownBlock = some b) => HX.out.kown.lt b hb)
            clear kpt hstep hX1 hnp hpn hcp hp hPw hIp htree htlj hszj HX
            go_wp2_with (at_builtin; refine app_k rfl (.tmp 45) (.tmp 48) rfl (w.heap.size + 1) (.slice ok nkv ckv) st rfl (ownN_below HX1.out.kown ((Below.refl _ _).alloc (Nat.le_refl _) _)) ⟨wr.heap.size + 1, 0, none⟩ (z : Int) rfl (by simp [Addr.add]) (by have := hst2.out; omega) (by have := HNW.out; simp; omega) ?_)
            intro kv' w3 ho3 hg3 hat3
            have hB3 : But (fun q => (Value.slice ok nkv ckv).ownBlock = some q) ((wr.alloc (.cells #[.slice pn np cp2] 25)).alloc (.cells #[.int .i64 (z : Int)] 3)) w3 := But.of_grown hg3 (fun k e => e)
            have e0 : w3.cell? ⟨wr.heap.size, 0, none⟩ = some (.slice pn np cp2) := hB3.cell (p := ⟨wr.heap.size, 0, none⟩) (by simp) (fun e => Nat.lt_irrefl _ (HKL.out wr.heap.size e).2)
            obtain ⟨hbel3, hout3, hN3, hnext⟩ := HSTEP.out (.cells #[.int .i64 (z : Int)] 3) kv' w3 (by simpa using ho3) hg3 (by simpa using hat3)
            have hrec := KPT.out w3 hbel3 hout3
            have HREC := Lib.hid hrec; have HNX := Lib.hid hnext
            clear hrec hnext ho3 hg3 hat3 hbel3 hout3 hN3 HSTEP KPT HX1 hB3 a0
            go_wp2_with fail
            refine HREC.out.mono ?_
            intro e w4 hpost
            obtain ⟨vj', msj', rfl, hPn⟩ := HNX.out e w4 hpost
            have HPN := Lib.hid hPn
            clear hPn hpost HNX HREC e0
            go_wp2_with fail
            go_roundw
            case rel => exact ⟨j + 1, msj', _, by go_num, HJ.out, HPN⟩
            case measure => have := HJ.out; simp [intOf]; omega
          · obtain rfl : j = i := by omega
            obtain ⟨g, nn, cc, u, rfl, hn1, hnn2, hgN, hcu, hfz, q, hq1, hq2, hq3⟩ := HX.out.fin HM.out (by rw [HTLE.out, List.length_map, HLN.out]) HSZ.out (by omega)
            obtain ⟨c5, f5, hbw5, hzw5⟩ := HBOX.out wr HX.out.below
            have hne : ¬ g = w.heap.size := by omega
            have hne2 : ¬ w.heap.size = g := by omega
            have hfin : ∀ u, MkPost2 (madeE l) (madeR k l) w (.returned (.tuple #[.agg #[.slice (some ⟨g, 0, none⟩) nn cc], .int .i64 0])) ((wr.setCell ⟨g, 4, none⟩ (.slice ok nkv ckv)).setCell ⟨w.heap.size, 0, none⟩ u) := fun u => by
              rw [HE.out, HR.out]
              refine ⟨q, by rw [hq1]; rfl, by rw [hq2, HTLE.out]; rfl, ?_, (hbw5.setCell (p := ⟨g, 4, none⟩) (by show w.heap.size ≤ g; omega) _).setCell (p := ⟨w.heap.size, 0, none⟩) (Nat.le_refl _) _⟩
              have hb4 : But (fun k => k = w.heap.size) (wr.setCell ⟨g, 4, none⟩ (.slice ok nkv ckv)) ((wr.setCell ⟨g, 4, none⟩ (.slice ok nkv ckv)).setCell ⟨w.heap.size, 0, none⟩ u) := (But.refl (fun k => k = w.heap.size) _).setCell (p := ⟨w.heap.size, 0, none⟩) (fun _ => rfl) _
              exact (hq3.keep hb4 (fun k h1 h2 e => by omega)).lower (Nat.le_succ _)
            have HF := Lib.hid hfin
            clear hfin hq1 hq2 hq3 hbw5 HX
            go_wp2_with fail
            refine bodyPost_ret (v := .tuple #[.agg #[.slice (some ⟨g, 0, none⟩) nn cc], .int .i64 0]) (by simp [results, Try.results27, go_sem, *]) rfl ?_
            exact HF.out _
end Go.Proofs.Ytnlojgomildajaa
