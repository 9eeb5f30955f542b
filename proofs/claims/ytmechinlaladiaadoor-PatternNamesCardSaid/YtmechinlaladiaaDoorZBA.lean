/-
  WALKS: pattern.above.
  WALKS: cognateref04.node (made by program: an arm a kind and a field).
  WALKS: cognateref04.Tree.
  WALKS: cognateref04.made.
  WALKS: Seq, Or, Star, Opt, both sides (made by program).
  WALKS: slices.Equal at []int; pattern.alike; slices.EqualFunc at []api.Node.
  WALKS: pattern.alike; slices.EqualFunc at []api.Node.
-/
import Derived.Test.YtmechinlaladiaaDoorZAZ
import Derived.Test.YtmechinlaladiaaDoorZAK
import Derived.Test.YtmechinlaladiaaDoorZAL
import Derived.Test.YtmechinlaladiaaDoorZAN
namespace Go.Proofs.YtmechinlaladiaaDoor
open Go.RowKit Go.Lib
set_option linter.unusedVariables false
theorem one_out (k : Nat) (hk : k < 256) (N : Nat) (W : World) (b : Nat) (hb : N ≤ b) (hcs : W.heap[b]? = some (.cells #[.int .u8 k, .int .i32 0, .int .u32 0, .int .u32 0, .slice none 0 0] 36 (0, 0))) (M : NdM) (hM : M = ⟨⟨k, 0, 0, 0, []⟩, none, 0, 0, 0⟩) :
    OutN N (fun _ => False) (.slice (some ⟨b, 0, none⟩) 1 1) [M.bare] W := by
  subst hM
  refine ⟨⟨by rw [nsC_length], Or.inr ⟨b, 1, _, rfl, hb, hcs, Nat.le_refl 1, by unfold maxLen; omega, rfl, ?_⟩⟩, fun q hq => ?_, fun q hq h0 => ?_, fun q hq => ?_⟩
  · rw [nsC_single]; rfl
  · rw [List.mem_singleton.1 hq]; exact bare_ks _ _
  · rw [List.mem_singleton.1 hq] at h0; exact absurd h0 (Nat.lt_irrefl 0)
  · rw [List.mem_singleton.1 hq]; exact ⟨hk, ⟨by show (-2147483648 : Int) ≤ 0; decide, by show (0 : Int) ≤ 2147483647; decide⟩, by show 0 < 4294967296; decide, by show 0 < 4294967296; decide⟩
set_option maxHeartbeats 8000000 in
set_option maxRecDepth 100000 in
theorem above_any (k : Nat) (hk : k < 256) (pp : Option Addr) (bp p0 cp : Nat) (ps : List PtM) (w : World) (h : PsIn pp bp p0 ps w) :
    Calls Tryd.prog 18 #[.int .u8 k, .slice pp ps.length cp] w (MkPost2 (madeE (pN ps)) (madeR k (pN ps)) w) := by
  obtain ⟨n, hn⟩ : ∃ n, n = ps.length := ⟨_, rfl⟩
  obtain ⟨l, hl⟩ : ∃ l, l = pN ps := ⟨_, rfl⟩
  have hln : l.length = n := by rw [hl, pN_len, hn]
  have hlt : ∀ i, i < n → l.take (i + 1) = l.take i ++ [nds (ps.getD i default).ms] := fun i hi => by rw [hl]; exact pN_take (by omega)
  have hlg : ∀ i (hi : i < n), ∃ h : i < l.length, l[i] = nds (ps.getD i default).ms := fun i hi => ⟨by omega, by
    subst hl
    have hi2 : i < ps.length := by omega
    simp [pN, List.getD_eq_getElem?_getD, List.getElem?_eq_getElem hi2]⟩
  have htl : ∀ i, i < n → (l.map tr0).getD i default = tr0 (nds (ps.getD i default).ms) := fun i hi => by rw [hl]; exact pN_tl (by omega)
  rw [← hl, ← hn]
  obtain ⟨W1, hW1⟩ : ∃ W1, W1 = w.alloc (.cells #[.slice none 0 0] 24) := ⟨_, rfl⟩
  have hz1 : W1.heap.size = w.heap.size + 1 := by rw [hW1]; simp
  have hb1 : Below w.heap.size w W1 := by rw [hW1]; exact (Below.refl _ _).alloc (Nat.le_refl _) _
  have d1 : W1.cell? ⟨w.heap.size, 0, none⟩ = some (.slice none 0 0) := by rw [hW1]; simp
  have f1 : W1.frozen? ⟨w.heap.size, 0, none⟩ = false := by rw [hW1]; simp
  have hP1 := h.next hb1
  have hbox : ∀ W, Below (w.heap.size + 1) W1 W → W.cell? ⟨w.heap.size, 0, none⟩ = some (.slice none 0 0) ∧ W.frozen? ⟨w.heap.size, 0, none⟩ = false ∧ Below w.heap.size w W ∧ w.heap.size < W.heap.size := fun W hW =>
    ⟨(hW.cell (p := ⟨w.heap.size, 0, none⟩) (Nat.lt_succ_self _)).trans d1, (hW.frozen (p := ⟨w.heap.size, 0, none⟩) (Nat.lt_succ_self _)).trans f1, hb1.trans (hW.mono (Nat.le_succ _)), by have := hW.size; omega⟩
  have hbig := h.big
  rw [← hn] at hbig
  have HP := Lib.hid hP1; have HN := Lib.hid hn; have HLN := Lib.hid hln; have HLT := Lib.hid hlt; have HLG := Lib.hid hlg; have HTL := Lib.hid htl; have HBOX := Lib.hid hbox; have HZ1 := Lib.hid hz1; have HB1 := Lib.hid hb1
  by_cases hn256 : 256 < n
  · have hE : madeE l = 4 := by unfold madeE; rw [if_pos (by omega)]
    have hR : madeR k l = [] := by unfold madeR; rw [if_neg (by rw [hE]; decide)]
    rw [hE, hR]
    have a2 : (256 : Int) < (n : Int) := by omega
    have HF := Lib.hid (mk2_none 4 w (w.alloc (.cells #[.slice none 0 0] 24)) ((Below.refl _ _).alloc (Nat.le_refl _) _))
    clear h hn hl hln hlt hlg htl hW1 hz1 hb1 d1 f1 hP1 hbox hE hR
    go_enter Tryd.func18, Tryd.ntmps18
    go_wp2_with fail
    refine bodyPost_ret (v := .tuple #[.agg #[.slice none 0 0], .int .i64 4]) (by simp [results, Tryd.results18, go_sem, *]) rfl ?_
    exact HF.out
  have a2 : ¬ (256 : Int) < (n : Int) := by omega
  have hn2 : n ≤ 256 := by omega
  have HW1 := Lib.hid hW1; have HHK := Lib.hid hk
  clear h hn hl hln hlt hlg htl hz1 hb1 hP1 hbox hn256 hk
  go_enter Tryd.func18, Tryd.ntmps18
  go_wp2_with fail
  rw [← HW1.out]
  clear hW1 HW1
  go_loopw [6, 19] (fun nv iv wr => ∃ (i K : Nat), nv = .int .i64 K ∧ iv = .int .i64 i ∧ i ≤ n ∧ K ≤ 100000 ∧ Hid (K = 1 + sumN (l.take i)) ∧ Hid ((l.take i).all treeB = true) ∧ Hid (Below (w.heap.size + 1) W1 wr)) (fun _ iv _ => n - (intOf iv).toNat)
  case atStart => exact ⟨0, 1, rfl, rfl, by omega, by omega, Lib.hid rfl, Lib.hid rfl, Lib.hid (Below.refl _ _)⟩
  case round =>
    obtain ⟨i, K, rfl, rfl, hi, hK, HKE, HALL, HBW⟩ := hrel
    obtain ⟨c0, f0, hbw, hzw⟩ := HBOX.out wr HBW.out
    have HBWW := Lib.hid hbw
    clear hbw
    by_cases hin : i < n
    · have hPw := HP.out.next (w' := wr) (by rw [HZ1.out]; exact HBW.out)
      have hil : i < ps.length := by rw [← HN.out]; exact hin
      obtain rfl := hPw.at_ (by omega)
      obtain ⟨p, hp⟩ : ∃ p, p = ps.getD i default := ⟨_, rfl⟩
      have a0 := hPw.cells i hil
      have hin2 := hPw.pats i hil
      rw [← hp] at a0 hin2
      obtain ⟨np, hnp⟩ : ∃ q, q = p.ms.length := ⟨_, rfl⟩
      obtain ⟨pn, hpn⟩ : ∃ q, q = p.pn := ⟨_, rfl⟩
      obtain ⟨cp2, hcp⟩ : ∃ q, q = p.c := ⟨_, rfl⟩
      obtain ⟨B, hB⟩ : ∃ B, B = treeB (nds p.ms) := ⟨_, rfl⟩
      have kt := fun (W : World) (hW : Below wr.heap.size wr W) => isTree_any p.pn p.bn p.n0 p.c p.ms W (hin2.i.next hW) B (by rw [hB]; exact treeB_iff _)
      rw [← hnp, ← hpn, ← hcp] at kt a0
      have hzb := blk_of_cell a0
      have KT := Lib.hid kt; have HPP := Lib.hid hp; have HNP := Lib.hid hnp; have HBB := Lib.hid hB
      have HA := Lib.hid (show Below wr.heap.size wr (wr.alloc (.cells #[.slice pn np cp2] 24)) from (Below.refl _ _).alloc (Nat.le_refl _) _)
      have HA0 : Hid ((wr.alloc (.cells #[.slice pn np cp2] 24)).cell? ⟨wr.heap.size, 0, none⟩ = some (.slice pn np cp2)) := Lib.hid (by simp)
      have HAZ : Hid ((wr.alloc (.cells #[.slice pn np cp2] 24)).heap.size = wr.heap.size + 1) := Lib.hid (by simp)
      clear kt hp hnp hB hpn hcp hPw hin2
      go_wp2_with fail
      refine (KT.out _ HA.out).mono ?_
      rintro e w2 ⟨rfl, hb2⟩
      have e0 := (hb2.cell (p := ⟨wr.heap.size, 0, none⟩) (by rw [HAZ.out]; exact Nat.lt_succ_self _)).trans HA0.out
      have hb2' := HBW.out.trans ((HA.out.trans (hb2.mono HA.out.size)).mono (by have := HBW.out.size; rw [HZ1.out] at this; exact this))
      obtain ⟨c2, f2, hbw2, hzw2⟩ := HBOX.out w2 hb2'
      have HB2 := Lib.hid hb2'; have HBW2 := Lib.hid hbw2
      obtain ⟨hg, hge⟩ := HLG.out i hin
      clear hb2 hb2' hbw2 c0 f0 a0 KT HA HA0 HAZ
      cases B with
      | false =>
        have hall : l.all treeB = false := all_no hg (by rw [hge, ← HPP.out]; exact HBB.out.symm)
        have hE : madeE l = 40 := by unfold madeE; rw [if_neg (by rw [HLN.out]; omega), if_neg (by rw [hall]; decide)]
        have hR : madeR k l = [] := by unfold madeR; rw [if_neg (by rw [hE]; decide)]
        have HR := Lib.hid (show ∀ u, MkPost2 (madeE l) (madeR k l) w (.returned (.tuple #[.agg #[.slice none 0 0], .int .i64 40])) (w2.setCell ⟨w.heap.size, 0, none⟩ u) from fun u => by rw [hE, hR]; exact mk2_none 40 w _ (HBW2.out.setCell (p := ⟨w.heap.size, 0, none⟩) (Nat.le_refl _) u))
        clear hall hE hR hge hg
        go_wp2_with fail
        refine bodyPost_ret (v := .tuple #[.agg #[.slice none 0 0], .int .i64 40]) (by simp [results, Tryd.results18, go_sem, *]) rfl ?_
        exact HR.out _
      | true =>
        have hal2 : (l.take (i + 1)).all treeB = true := by
          rw [HLT.out i hin, List.all_append, HALL.out, List.all_cons, ← HPP.out, ← HBB.out]; rfl
        have hKn : K + np = 1 + sumN (l.take (i + 1)) := by
          rw [HLT.out i hin, allN_snoc, nds_length, ← HPP.out, ← HNP.out, HKE.out]; omega
        have hKb : K + np ≤ 100000 := by
          have h1 := made_le hal2
          have h2 : (l.take (i + 1)).length ≤ 256 := by rw [List.length_take]; omega
          have h3 : (l.take (i + 1)).length * 256 ≤ 256 * 256 := Nat.mul_le_mul_right _ h2
          omega
        have HJ := Lib.hid (show i + 1 ≤ n from hin); have HKN := Lib.hid hKn; have HAL2 := Lib.hid hal2
        clear hal2 hKn hge hg
        go_wp2_with fail
        go_roundw
        case rel => exact ⟨i + 1, K + np, by go_num, by go_num, HJ.out, hKb, HKN, HAL2, HB2⟩
        case measure => have := HJ.out; simp [intOf]; omega
    · obtain rfl : i = n := by omega
      have hall : l.all treeB = true := by have := HALL.out; rwa [List.take_of_length_le (by rw [HLN.out]; exact Nat.le_refl _)] at this
      have hKE : K = 1 + sumN l := by have := HKE.out; rwa [List.take_of_length_le (by rw [HLN.out]; exact Nat.le_refl _)] at this
      by_cases hK2 : 256 < K
      · have hE : madeE l = 4 := by unfold madeE; rw [if_neg (by rw [HLN.out]; omega), if_pos hall, if_pos (by omega)]
        have hR : madeR k l = [] := by unfold madeR; rw [if_neg (by rw [hE]; decide)]
        have HR := Lib.hid (show ∀ u, MkPost2 (madeE l) (madeR k l) w (.returned (.tuple #[.agg #[.slice none 0 0], .int .i64 4])) (wr.setCell ⟨w.heap.size, 0, none⟩ u) from fun u => by rw [hE, hR]; exact mk2_none 4 w _ (HBWW.out.setCell (p := ⟨w.heap.size, 0, none⟩) (Nat.le_refl _) u))
        have hK3 : (256 : Int) < (K : Int) := by omega
        clear hall hKE hE hR
        go_wp2_with fail
        refine bodyPost_ret (v := .tuple #[.agg #[.slice none 0 0], .int .i64 4]) (by simp [results, Tryd.results18, go_sem, *]) rfl ?_
        exact HR.out _
      · have hE : madeE l = 0 := by unfold madeE; rw [if_neg (by rw [HLN.out]; omega), if_pos hall, if_neg (by omega)]
        have hR : madeR k l = madeN k l := by unfold madeR; rw [if_pos hE]
        have hK3 : ¬ (256 : Int) < (K : Int) := by omega
        obtain ⟨M, hM⟩ : ∃ M : NdM, M = ⟨⟨k, 0, 0, 0, []⟩, none, 0, 0, 0⟩ := ⟨_, rfl⟩
        obtain ⟨tl, htl⟩ : ∃ tl, tl = l.map tr0 := ⟨_, rfl⟩
        have hsz : 1 + (ofL tl).sz ≤ 100000 := by rw [htl, made_sz hall]; omega
        have hW5 : Below wr.heap.size wr (wr.alloc (.cells #[.int .u8 k, .int .i32 0, .int .u32 0, .int .u32 0, .slice none 0 0] 36)) := (Below.refl _ _).alloc (Nat.le_refl _) _
        have hst : RbL (w.heap.size + 1) W1 M tl 0 (.slice none 0 0) (.slice (some ⟨wr.heap.size, 0, none⟩) 1 1) [] [] (wr.alloc (.cells #[.int .u8 k, .int .i32 0, .int .u32 0, .int .u32 0, .slice none 0 0] 36)) :=
          ⟨HBW.out.trans (hW5.mono (by omega)), one_out k HHK.out _ _ wr.heap.size (by omega) (heap_alloc_new wr _) M hM, SofarL.start tl, rfl, World.ownsRow_nil _ _ _ _, fun b hb => (by cases hb), fun q hq => (by cases hq)⟩
        have HST := Lib.hid hst; have HE := Lib.hid hE; have HR := Lib.hid hR; have HM := Lib.hid hM; have HTLE := Lib.hid htl; have HSZ := Lib.hid hsz; have HAL := Lib.hid hall
        clear hst hE hR hM htl hsz hall hKE hW5 c0 f0
        go_wp2_with fail
        go_loopw [9, 10, 41] (fun ov kv iv wx => ∃ (j : Nat) (msj : List NdM) (st : List Int), iv = .int .i64 j ∧ j ≤ i ∧ Hid (RbL (w.heap.size + 1) W1 M tl j kv ov msj st wx)) (fun _ _ iv _ => i - (intOf iv).toNat)
        case atStart => exact ⟨0, [], [], rfl, by omega, HST⟩
        case round =>
          clear HST HBW HBWW hzw
          obtain ⟨j, msj, st, rfl, hj, HX⟩ := hrel
          obtain ⟨ok, nkv, ckv, rfl⟩ : ∃ o n c, u10 = .slice o n c := by obtain ⟨o, c, h⟩ := ownN_shape HX.out.kown; exact ⟨o, _, c, h⟩
          have hNw : w.heap.size + 1 ≤ wr.heap.size := by have := HX.out.below.size; have := HZ1.out; omega
          have HNW := Lib.hid hNw
          by_cases hji : j < i
          · have hPw := HP.out.next (w' := wr) (by rw [HZ1.out]; exact HX.out.below)
            have hjl : j < ps.length := by rw [← HN.out]; exact hji
            obtain rfl := hPw.at_ (by omega)
            obtain ⟨p, hp⟩ : ∃ p, p = ps.getD j default := ⟨_, rfl⟩
            have a0 := hPw.cells j hjl
            rw [← hp] at a0
            obtain ⟨np, hnp⟩ : ∃ q, q = p.ms.length := ⟨_, rfl⟩
            obtain ⟨pn, hpn⟩ : ∃ q, q = p.pn := ⟨_, rfl⟩
            obtain ⟨cp2, hcp⟩ : ∃ q, q = p.c := ⟨_, rfl⟩
            have hzb := blk_of_cell a0
            have hIp := (HP.out.pats j hjl).i
            rw [← hp] at hIp
            have htree : IsTree (nds p.ms) := by
              obtain ⟨hg, hge⟩ := HLG.out j (by omega)
              rw [hp, ← hge]
              exact (treeB_iff _).1 (List.all_eq_true.1 HAL.out _ (List.getElem_mem hg))
            have htlj : tl.getD j default = tr0 (nds p.ms) := by rw [HTLE.out, HTL.out j (by omega), ← hp]
            have hX1 := HX.out.next (by omega) (show Below wr.heap.size wr (wr.alloc (.cells #[.slice p.pn p.ms.length p.c] 24)) from (Below.refl _ _).alloc (Nat.le_refl _) _)
            obtain ⟨z, hz5, ⟨oz, cz, rfl⟩, hszj, hstep⟩ := hX1.step HZ1.out (by rw [HTLE.out, List.length_map, HLN.out]; exact hji) HSZ.out
            have kpt := fun (W : World) hB ho => putTree_any (w.heap.size + 1) p.pn p.bn p.n0 p.c p.ms W1 HZ1.out hIp 0 (tr0 (nds p.ms)) W (.slice oz z cz) (M.bare :: msj) hB ho (tr0_at htree) (by rw [htlj] at hszj; exact hszj)
            rw [htlj] at hstep
            rw [← hnp, ← hpn, ← hcp] at kpt a0 hstep hX1
            have KPT := Lib.hid kpt; have HSTEP := Lib.hid hstep; have HX1 := Lib.hid hX1
            have HJ := Lib.hid (show j + 1 ≤ i from hji)
            have hst2 := Lib.hid HX.out.stl
            have HKL := Lib.hid (fun b (hb : (Value.slice ok nkv ckv).ownBlock = some b) => HX.out.kown.lt b hb)
            clear kpt hstep hX1 hnp hpn hcp hp hPw hIp htree htlj hszj HX
            go_wp2_with (at_builtin; refine app_k rfl (.tmp 45) (.tmp 48) rfl (w.heap.size + 1) (.slice ok nkv ckv) st rfl (ownN_below HX1.out.kown ((Below.refl _ _).alloc (Nat.le_refl _) _)) ⟨wr.heap.size + 1, 0, none⟩ (z : Int) rfl (by simp [Addr.add]) (by have := hst2.out; omega) (by have := HNW.out; simp; omega) ?_)
            intro kv' w3 ho3 hg3 hat3
            have hB3 : But (fun q => (Value.slice ok nkv ckv).ownBlock = some q) ((wr.alloc (.cells #[.slice pn np cp2] 24)).alloc (.cells #[.int .i64 (z : Int)] 3)) w3 := But.of_grown hg3 (fun k e => e)
            have e0 : w3.cell? ⟨wr.heap.size, 0, none⟩ = some (.slice pn np cp2) := hB3.cell (p := ⟨wr.heap.size, 0, none⟩) (by simp) (fun e => Nat.lt_irrefl _ (HKL.out wr.heap.size e).2)
            obtain ⟨hbel3, hout3, hN3, hnext⟩ := HSTEP.out (.cells #[.int .i64 (z : Int)] 3) kv' w3 (by simpa using ho3) hg3 (by simpa using hat3)
            have hrec := KPT.out w3 hbel3 hout3
            have HREC := Lib.hid hrec; have HNX := Lib.hid hnext
            clear hrec hnext ho3 hg3 hat3 hbel3 hout3 hN3 HSTEP KPT HX1 hB3 a0
            go_wp2_with fail
            refine HREC.out.mono ?_
            intro e w4 hpost
            obtain ⟨vj', msj', rfl, hPn⟩ := HNX.out e w4 hpost
            have HPN := Lib.hid hPn
            clear hPn hpost HNX HREC e0
            go_wp2_with fail
            go_roundw
            case rel => exact ⟨j + 1, msj', _, by go_num, HJ.out, HPN⟩
            case measure => have := HJ.out; simp [intOf]; omega
          · obtain rfl : j = i := by omega
            obtain ⟨g, nn, cc, u, rfl, hn1, hnn2, hgN, hcu, hfz, q, hq1, hq2, hq3⟩ := HX.out.fin HM.out (by rw [HTLE.out, List.length_map, HLN.out]) HSZ.out (by omega)
            obtain ⟨c5, f5, hbw5, hzw5⟩ := HBOX.out wr HX.out.below
            have hne : ¬ g = w.heap.size := by omega
            have hne2 : ¬ w.heap.size = g := by omega
            have hfin : ∀ u, MkPost2 (madeE l) (madeR k l) w (.returned (.tuple #[.agg #[.slice (some ⟨g, 0, none⟩) nn cc], .int .i64 0])) ((wr.setCell ⟨g, 4, none⟩ (.slice ok nkv ckv)).setCell ⟨w.heap.size, 0, none⟩ u) := fun u => by
              rw [HE.out, HR.out]
              refine ⟨q, by rw [hq1]; rfl, by rw [hq2, HTLE.out]; rfl, ?_, (hbw5.setCell (p := ⟨g, 4, none⟩) (by show w.heap.size ≤ g; omega) _).setCell (p := ⟨w.heap.size, 0, none⟩) (Nat.le_refl _) _⟩
              have hb4 : But (fun k => k = w.heap.size) (wr.setCell ⟨g, 4, none⟩ (.slice ok nkv ckv)) ((wr.setCell ⟨g, 4, none⟩ (.slice ok nkv ckv)).setCell ⟨w.heap.size, 0, none⟩ u) := (But.refl (fun k => k = w.heap.size) _).setCell (p := ⟨w.heap.size, 0, none⟩) (fun _ => rfl) _
              exact (hq3.keep hb4 (fun k h1 h2 e => by omega)).lower (Nat.le_succ _)
            have HF := Lib.hid hfin
            clear hfin hq1 hq2 hq3 hbw5 HX
            go_wp2_with fail
            refine bodyPost_ret (v := .tuple #[.agg #[.slice (some ⟨g, 0, none⟩) nn cc], .int .i64 0]) (by simp [results, Tryd.results18, go_sem, *]) rfl ?_
            exact HF.out _
end Go.Proofs.YtmechinlaladiaaDoor
namespace Go.Proofs.YtmechinlaladiaaDoor
open Go.RowKit Go.Lib
set_option linter.unusedVariables false

end Go.Proofs.YtmechinlaladiaaDoor
namespace Go.Proofs.YtmechinlaladiaaDoor
open Go.RowKit Go.Lib
set_option linter.unusedVariables false

/-- How often each number was a kid's. -/
def KcIn (M n : Nat) (l : List Nat) (w : World) : Prop := M < w.heap.size ∧ (∀ x, x < n → w.cell? ⟨M, x, none⟩ = some (.int .i64 (l.count x))) ∧ ∀ x, x < n → w.frozen? ⟨M, x, none⟩ = false
theorem KcIn.next {M n : Nat} {l : List Nat} {w w' : World} (h : KcIn M n l w) (hb : Below w.heap.size w w') : KcIn M n l w' :=
  ⟨Nat.lt_of_lt_of_le h.1 hb.size, fun j hj => (hb.cell (p := ⟨M, j, none⟩) h.1).trans (h.2.1 j hj), fun j hj => (hb.frozen (p := ⟨M, j, none⟩) h.1).trans (h.2.2 j hj)⟩
theorem KcIn.made {w : World} {N M n : Nat} (h : w.ownsRow N 3 1 (.slice (some ⟨M, 0, none⟩) n n) n (List.replicate n (.int .i64 0))) : KcIn M n [] w := by
  rcases h.2 with ⟨e, _⟩ | ⟨g, cap, cur, e, _, hh, hc, _⟩
  · cases e
  · cases e
    refine ⟨(Array.getElem?_eq_some_iff.1 hh).1, fun x hx => ?_, fun x hx => by simp [World.frozen?, hh]⟩
    rw [h.cellAt x (by omega), List.getElem?_replicate, if_pos hx]
    rfl
theorem KcIn.set {M n k : Nat} {l : List Nat} {w : World} (h : KcIn M n l w) (hk : k < n) : KcIn M n (l ++ [k]) (w.setCell ⟨M, k, none⟩ (.int .i64 ((l.count k : Int) + 1))) := by
  refine ⟨by simpa using h.1, fun j hj => ?_, fun j hj => by rw [World.frozen?_setCell]; exact h.2.2 j hj⟩
  by_cases e : j = k
  · subst e
    rw [World.cell?_setCell_same _ _ _ (h.2.1 j hj)]
    simp
  · rw [World.cell?_setCell_other _ _ _ _ (fun h => e (by injection h with _ h2; exact h2.symm)), h.2.1 j hj]
    rw [List.count_append, List.count_singleton]
    have : (k == j) = false := by simpa using fun h => e h.symm
    simp [this]
end Go.Proofs.YtmechinlaladiaaDoor
namespace Go.Proofs.YtmechinlaladiaaDoor
open Go.RowKit Go.Lib
set_option linter.unusedVariables false
end Go.Proofs.YtmechinlaladiaaDoor
namespace Go.Proofs.YtmechinlaladiaaDoor
open Go.RowKit Go.Lib
set_option linter.unusedVariables false
theorem one_ps (q : PtM) (w W : World) (h : NsIn q.pn q.bn q.n0 q.ms w) (hW : Below w.heap.size w W) (b : Nat) (hc : W.cell? ⟨b, 0, none⟩ = some (.slice q.pn q.ms.length q.c)) : PsIn (some ⟨b, 0, none⟩) b 0 [q] W :=
  ⟨fun _ => rfl, fun j hj => by
    obtain rfl : j = 0 := by simp at hj; exact hj
    exact hc, fun j hj => by
    obtain rfl : j = 0 := by simp at hj; exact hj
    exact ⟨h.next hW⟩, Nat.le_of_ble_eq_true rfl⟩

set_option maxHeartbeats 4000000 in
set_option maxRecDepth 100000 in
theorem pseq_any (pp : Option Addr) (bp p0 cp : Nat) (ps : List PtM) (w : World) (h : PsIn pp bp p0 ps w) :
    Calls Tryd.prog 7 #[.slice pp ps.length cp] w (MkPost2 (madeE (pN ps)) (madeR 6 (pN ps)) w) := by
  obtain ⟨n, hn⟩ : ∃ n, n = ps.length := ⟨_, rfl⟩
  obtain ⟨E, hE⟩ : ∃ E, E = madeE (pN ps) := ⟨_, rfl⟩
  obtain ⟨R, hR⟩ : ∃ R, R = madeR 6 (pN ps) := ⟨_, rfl⟩
  have k1 := fun (W : World) (hW : Below w.heap.size w W) => above_any 6 (by decide) pp bp p0 cp ps W (h.next hW)
  rw [← hn, ← hE, ← hR] at k1 ⊢
  have HK := Lib.hid k1
  have HUP := Lib.hid (fun (w1 : World) (hb : Below w.heap.size w w1) (hz : w.heap.size < w1.heap.size) e w' (h : MkPost2 E R w1 e w') => h.up hb hz)
  clear k1 hn hE hR h
  go_enter Tryd.func7, Tryd.ntmps7
  go_wp2_with fail
  refine (HK.out _ ((Below.refl _ _).alloc (Nat.le_refl _) _)).mono ?_
  intro e w' hpost
  obtain ⟨o, n2, c, rfl, hb, hRR⟩ := HUP.out _ ((Below.refl _ _).alloc (Nat.le_refl _) _) (by simp) e w' hpost
  have c0 := (hb.cell (p := ⟨w.heap.size, 0, none⟩) (by simp)).trans (show _ = some (Value.slice none 0 0) by simp)
  have f0 := (hb.frozen (p := ⟨w.heap.size, 0, none⟩) (by simp)).trans (show _ = false by simp)
  have HR := Lib.hid hRR
  clear hRR hb hpost HK HUP
  go_wp2_with fail
  refine bodyPost_ret (v := .tuple #[.agg #[.slice o n2 c], .int .i64 E]) (by simp [results, Tryd.results7, go_sem, *]) rfl ?_
  exact HR.out _

set_option maxHeartbeats 4000000 in
set_option maxRecDepth 100000 in
theorem pstar_any (q : PtM) (w : World) (h : NsIn q.pn q.bn q.n0 q.ms w) :
    Calls Tryd.prog 9 #[q.v] w (MkPost2 (madeE [nds q.ms]) (madeR 8 [nds q.ms]) w) := by
  obtain ⟨n, hn⟩ : ∃ n, n = q.ms.length := ⟨_, rfl⟩
  obtain ⟨pn, hpn⟩ : ∃ n, n = q.pn := ⟨_, rfl⟩
  obtain ⟨cq, hcq⟩ : ∃ n, n = q.c := ⟨_, rfl⟩
  obtain ⟨E, hE⟩ : ∃ E, E = madeE [nds q.ms] := ⟨_, rfl⟩
  obtain ⟨R, hR⟩ : ∃ R, R = madeR 8 [nds q.ms] := ⟨_, rfl⟩
  have k1 := fun (W : World) (hW : Below w.heap.size w W) (b : Nat) (hc : W.cell? ⟨b, 0, none⟩ = some (.slice q.pn q.ms.length q.c)) => above_any 8 (by decide) (some ⟨b, 0, none⟩) b 0 1 [q] W (one_ps q w W h hW b hc)
  unfold PtM.v
  simp only [show pN [q] = [nds q.ms] from rfl] at k1
  rw [← hn, ← hpn, ← hcq, ← hE, ← hR] at k1
  rw [← hn, ← hpn, ← hcq, ← hE, ← hR]
  have HK := Lib.hid k1
  have hA : Below w.heap.size w (w.alloc (.cells #[.slice pn n cq] 24)) := (Below.refl _ _).alloc (Nat.le_refl _) _
  have HA := Lib.hid hA
  have HUP := Lib.hid (fun (w1 : World) (hb : Below (w.alloc (.cells #[.slice pn n cq] 24)).heap.size (w.alloc (.cells #[.slice pn n cq] 24)) w1) (hz : (w.alloc (.cells #[.slice pn n cq] 24)).heap.size < w1.heap.size) e w' (h : MkPost2 E R w1 e w') => h.up hb hz)
  have hlit := (three_boxes w (.slice pn n cq) (.slice none 0 0) (.slice pn n cq) 24 24 24)
  have HL := Lib.hid hlit
  clear k1 hn hpn hcq hE hR h hA hlit
  go_enter Tryd.func9, Tryd.ntmps9
  go_wp2_with fail
  refine (HK.out _ ?_ _ ?_).mono ?_
  case refine_1 => exact ((HA.out.alloc (by simp) _).alloc (by simp; omega) _)
  case refine_2 => exact HL.out.2.2.1
  intro e w' hpost
  obtain ⟨o, n2, c, rfl, hb, hRR⟩ := HUP.out _ (((Below.refl _ _).alloc (Nat.le_refl _) _).alloc (by simp) _) (by simp) e w' hpost
  have c0 := (hb.cell (p := ⟨w.heap.size + 1, 0, none⟩) (by simp)).trans HL.out.2.1
  have f0 : w'.frozen? ⟨w.heap.size + 1, 0, none⟩ = false := (hb.frozen (p := ⟨w.heap.size + 1, 0, none⟩) (by simp)).trans (by
    have hb3 : Below ((w.alloc (.cells #[.slice pn n cq] 24)).alloc (.cells #[.slice none 0 0] 24)).heap.size ((w.alloc (.cells #[.slice pn n cq] 24)).alloc (.cells #[.slice none 0 0] 24)) (((w.alloc (.cells #[.slice pn n cq] 24)).alloc (.cells #[.slice none 0 0] 24)).alloc (.cells #[.slice pn n cq] 24)) := (Below.refl _ _).alloc (Nat.le_refl _) _
    exact (hb3.frozen (p := ⟨w.heap.size + 1, 0, none⟩) (by simp)).trans (by simp))
  have HR := Lib.hid (fun u => (hRR u).down (w := w) HA.out)
  clear hRR hb hpost HK HUP
  go_wp2_with fail
  refine bodyPost_ret (v := .tuple #[.agg #[.slice o n2 c], .int .i64 E]) (by simp [results, Tryd.results9, go_sem, *]) rfl ?_
  have h := HR.out (.slice o n2 c)
  simp only [World.size_alloc] at h
  exact h

end Go.Proofs.YtmechinlaladiaaDoor
namespace Go.Proofs.YtmechinlaladiaaDoor
open Go.RowKit Go.Lib
set_option linter.unusedVariables false
/-- Up to j two rows are one. -/
def EqTo (a b : List Int) (j : Nat) : Prop := ∀ i, i < j → a.getD i 0 = b.getD i 0
theorem eqTo_all {a b : List Int} (hl : a.length = b.length) (h : EqTo a b a.length) : a = b := by
  apply List.ext_getElem hl
  intro i h1 h2
  have := h i h1
  rwa [List.getD_eq_getElem?_getD, List.getD_eq_getElem?_getD, List.getElem?_eq_getElem h1, List.getElem?_eq_getElem h2] at this
set_option maxHeartbeats 4000000 in
set_option maxRecDepth 100000 in
theorem equal_any (pa pb : Option Addr) (ba a0 ca bb b0 cb : Nat) (a b : List Int) (w : World) (hA : KsIn pa ba a0 ca a w) (hB : KsIn pb bb b0 cb b w) (B : Bool) (hBT : B = true ↔ a = b) :
    Calls Tryd.prog 41 #[.slice pa a.length ca, .slice pb b.length cb] w fun e w' => e = .returned (.bool B) ∧ Below w.heap.size w w' := by
  by_cases hl : a.length = b.length
  · obtain ⟨n, hn⟩ : ∃ n, n = a.length := ⟨_, rfl⟩
    have hbig := hA.big
    rw [← hl, ← hn]
    rw [← hn] at hbig
    have HA := Lib.hid hA; have HB := Lib.hid hB; have HN := Lib.hid hn; have HL := Lib.hid hl
    clear hA hB hn hl
    go_enter Tryd.func41, Tryd.ntmps41
    go_wp2_with fail
    go_loopw [13] (fun iv wr => ∃ j : Nat, iv = .int .i64 j ∧ j ≤ n ∧ Hid (EqTo a b j) ∧ Hid (Below w.heap.size w wr)) (fun iv _ => n - (intOf iv).toNat)
    case atStart => exact ⟨0, rfl, by omega, Lib.hid (fun i hi => by omega), Lib.hid (Below.refl _ _)⟩
    case round =>
      obtain ⟨j, rfl, hj, HE, HBW⟩ := hrel
      by_cases hjn : j < n
      · have hja : j < a.length := by have := HN.out; omega
        have hjb : j < b.length := by have := HN.out; have := HL.out; omega
        obtain rfl := HA.out.at_ (by omega)
        obtain rfl := HB.out.at_ (by omega)
        have ca0 := (HA.out.next HBW.out).cells j hja
        have cb0 := (HB.out.next HBW.out).cells j hjb
        obtain ⟨x, hx⟩ : ∃ x, x = a.getD j 0 := ⟨_, rfl⟩
        obtain ⟨y, hy⟩ : ∃ y, y = b.getD j 0 := ⟨_, rfl⟩
        rw [← hx] at ca0
        rw [← hy] at cb0
        have HX := Lib.hid hx; have HY := Lib.hid hy
        have HJ := Lib.hid (show j + 1 ≤ n from hjn)
        clear hx hy hja hjb
        by_cases hxy : x = y
        · subst hxy
          go_wp2_with fail
          go_region
          go_wp2_with fail
          go_roundw
          case rel => exact ⟨j + 1, by go_num, HJ.out, Lib.hid (fun i hi => by
            by_cases e : i = j
            · rw [e, ← HX.out, ← HY.out]
            · exact HE.out i (by omega)), Lib.hid (HBW.out.drew)⟩
          case measure => have := HJ.out; simp [intOf]; omega
        · obtain rfl : B = false := by
            cases hBB : B with
            | false => rfl
            | true => exact absurd (hBT.1 hBB) (fun e => hxy (by rw [HX.out, HY.out, e]))
          have hxy2 : (x != y) = true := by simpa using hxy
          clear hBT
          go_wp2_with fail
          go_region
          go_wp2_with fail
          go_ret
          exact ⟨rfl, HBW.out.drew⟩
      · obtain rfl : j = n := by omega
        obtain rfl : B = true := hBT.2 (eqTo_all HL.out (by rw [← HN.out]; exact HE.out))
        clear hBT
        go_wp2_with fail
        go_ret
        exact ⟨rfl, HBW.out⟩
  · obtain rfl : B = false := by
      cases hBB : B with
      | false => rfl
      | true => exact absurd (hBT.1 hBB) (fun e => hl (by rw [e]))
    have h1 : ¬ (a.length : Int) = (b.length : Int) := by omega
    clear hA hB hBT
    go_enter Tryd.func41, Tryd.ntmps41
    go_wp2_with fail
    go_ret
    exact ⟨rfl, Below.refl _ _⟩
end Go.Proofs.YtmechinlaladiaaDoor
namespace Go.Proofs.YtmechinlaladiaaDoor
open Go.RowKit Go.Lib
set_option linter.unusedVariables false
set_option maxHeartbeats 4000000 in
set_option maxRecDepth 100000 in
theorem palike_any (k1 : Nat) (r1 : Int) (p1 q1 : Nat) (k2 : Nat) (r2 : Int) (p2 q2 : Nat) (pa pb : Option Addr) (ba a0 ca bb b0 cb : Nat) (a b : List Int) (w : World) (hA : KsIn pa ba a0 ca a w) (hB : KsIn pb bb b0 cb b w) (B : Bool) (hBT : B = true ↔ k1 = k2 ∧ r1 = r2 ∧ p1 = p2 ∧ q1 = q2 ∧ a = b) :
    Calls Tryd.prog 24 #[.agg #[.int .u8 k1, .int .i32 r1, .int .u32 p1, .int .u32 q1, .slice pa a.length ca], .agg #[.int .u8 k2, .int .i32 r2, .int .u32 p2, .int .u32 q2, .slice pb b.length cb]] w fun e w' => e = .returned (.bool B) ∧ Below w.heap.size w w' := by
  obtain ⟨n1, hn1⟩ : ∃ n, n = a.length := ⟨_, rfl⟩
  obtain ⟨n2, hn2⟩ : ∃ n, n = b.length := ⟨_, rfl⟩
  have hF : ¬ (k1 = k2 ∧ r1 = r2 ∧ p1 = p2 ∧ q1 = q2) → B = false := fun h => by
    cases hBB : B with
    | false => rfl
    | true => have := hBT.1 hBB; exact absurd ⟨this.1, this.2.1, this.2.2.1, this.2.2.2.1⟩ h
  have HBB := Lib.hid (show Below w.heap.size w ((w.alloc (.cells #[.int .u8 k1, .int .i32 r1, .int .u32 p1, .int .u32 q1, .slice pa n1 ca] 36)).alloc (.cells #[.int .u8 k2, .int .i32 r2, .int .u32 p2, .int .u32 q2, .slice pb n2 cb] 36)) from ((Below.refl _ _).alloc (Nat.le_refl _) _).alloc (by simp) _)
  by_cases h1 : k1 = k2
  · subst h1
    by_cases h2 : r1 = r2
    · subst h2
      by_cases h3 : p1 = p2
      · subst h3
        by_cases h4 : q1 = q2
        · subst h4
          have hBT2 : B = true ↔ a = b := hBT.trans ⟨fun h => h.2.2.2.2, fun h => ⟨rfl, rfl, rfl, rfl, h⟩⟩
          have key := fun (W : World) (hW : Below w.heap.size w W) => equal_any pa pb ba a0 ca bb b0 cb a b W (hA.next hW) (hB.next hW) B hBT2
          rw [← hn1, ← hn2] at key ⊢
          have HK := Lib.hid key
          clear key hBT hBT2 hA hB hn1 hn2 hF
          go_enter Tryd.func24, Tryd.ntmps24
          go_wp2_with fail
          refine (HK.out _ HBB.out).mono ?_
          rintro e w2 ⟨rfl, hb⟩
          have HB2 := Lib.hid (HBB.out.trans (hb.mono HBB.out.size))
          clear hb HBB HK
          go_wp2_with fail
          go_ret
          exact ⟨rfl, HB2.out⟩
        · obtain rfl : B = false := hF (fun h => h4 h.2.2.2)
          have h5 : ¬ (q1 : Int) = (q2 : Int) := by omega
          have h6 : ((q1 : Int) == (q2 : Int)) = false := beq_eq_false_iff_ne.2 h5
          rw [← hn1, ← hn2]
          clear hBT hA hB hn1 hn2 hF
          go_enter Tryd.func24, Tryd.ntmps24
          go_wp2_with fail
          go_ret
          exact ⟨rfl, HBB.out⟩
      · obtain rfl : B = false := hF (fun h => h3 h.2.2.1)
        have h5 : ¬ (p1 : Int) = (p2 : Int) := by omega
        have h6 : ((p1 : Int) == (p2 : Int)) = false := beq_eq_false_iff_ne.2 h5
        rw [← hn1, ← hn2]
        clear hBT hA hB hn1 hn2 hF
        go_enter Tryd.func24, Tryd.ntmps24
        go_wp2_with fail
        go_ret
        exact ⟨rfl, HBB.out⟩
    · obtain rfl : B = false := hF (fun h => h2 h.2.1)
      have h6 : (r1 == r2) = false := beq_eq_false_iff_ne.2 h2
      rw [← hn1, ← hn2]
      clear hBT hA hB hn1 hn2 hF
      go_enter Tryd.func24, Tryd.ntmps24
      go_wp2_with fail
      go_ret
      exact ⟨rfl, HBB.out⟩
  · obtain rfl : B = false := hF (fun h => h1 h.1)
    have h5 : ¬ (k1 : Int) = (k2 : Int) := by omega
    have h6 : ((k1 : Int) == (k2 : Int)) = false := beq_eq_false_iff_ne.2 h5
    rw [← hn1, ← hn2]
    clear hBT hA hB hn1 hn2 hF
    go_enter Tryd.func24, Tryd.ntmps24
    go_wp2_with fail
    go_ret
    exact ⟨rfl, HBB.out⟩
theorem nd_eq (a b : Nd) : a = b ↔ a.k = b.k ∧ a.r = b.r ∧ a.p = b.p ∧ a.m = b.m ∧ a.ks = b.ks := by
  cases a; cases b; simp
noncomputable def ndE (a b : Nd) : Bool := @decide (a = b) (Classical.propDecidable _)
theorem ndE_iff (a b : Nd) : ndE a b = true ↔ a = b := @decide_eq_true_iff _ (Classical.propDecidable _)
theorem alike_m (m1 m2 : NdM) (w : World) (hA : KsIn m1.pk m1.bk m1.k0 m1.c m1.nd.ks w) (hB : KsIn m2.pk m2.bk m2.k0 m2.c m2.nd.ks w) :
    Calls Tryd.prog 24 #[m1.v, m2.v] w fun e w' => e = .returned (.bool (ndE m1.nd m2.nd)) ∧ Below w.heap.size w w' :=
  palike_any _ _ _ _ _ _ _ _ _ _ _ _ _ _ _ _ _ _ w hA hB _ ((ndE_iff _ _).trans (nd_eq _ _))
/-- Up to j two rows of nodes are one. -/
def EqNd (a b : List NdM) (j : Nat) : Prop := ∀ i, i < j → (a.getD i default).nd = (b.getD i default).nd
theorem eqNd_all {a b : List NdM} (hl : a.length = b.length) (h : EqNd a b a.length) : nds a = nds b := by
  apply List.ext_getElem (by rw [nds_length, nds_length, hl])
  intro i h1 h2
  rw [nds_length] at h1 h2
  rw [nds_at a i h1, nds_at b i h2]
  exact h i h1
theorem nds_getD {a b : List NdM} (h : nds a = nds b) (j : Nat) (ha : j < a.length) (hb : j < b.length) : (a.getD j default).nd = (b.getD j default).nd := by
  have h1 := nds_at a j ha
  have h2 := nds_at b j hb
  rw [← h1, ← h2]
  congr 1
set_option maxHeartbeats 8000000 in
set_option maxRecDepth 100000 in
theorem equalF_any (pa pb : Option Addr) (ba a0 ca bb b0 cb : Nat) (a b : List NdM) (w : World) (hA : NsIn pa ba a0 a w) (hB : NsIn pb bb b0 b w) (B : Bool) (hBT : B = true ↔ nds a = nds b) :
    Calls Tryd.prog 23 #[.slice pa a.length ca, .slice pb b.length cb, .func (.func 24) #[] #[]] w fun e w' => e = .returned (.bool B) ∧ Below w.heap.size w w' := by
  by_cases hl : a.length = b.length
  · obtain ⟨n, hn⟩ : ∃ n, n = a.length := ⟨_, rfl⟩
    have hbig := hA.big
    rw [← hl, ← hn]
    rw [← hn] at hbig
    have HA := Lib.hid hA; have HB := Lib.hid hB; have HN := Lib.hid hn; have HL := Lib.hid hl
    clear hA hB hn hl
    go_enter Tryd.func23, Tryd.ntmps23
    go_wp2_with fail
    go_loopw [17] (fun iv wr => ∃ j : Nat, iv = .int .i64 j ∧ j ≤ n ∧ Hid (EqNd a b j) ∧ Hid (Below w.heap.size w wr)) (fun iv _ => n - (intOf iv).toNat)
    case atStart => exact ⟨0, rfl, by omega, Lib.hid (fun i hi => by omega), Lib.hid (Below.refl _ _)⟩
    case round =>
      obtain ⟨j, rfl, hj, HE, HBW⟩ := hrel
      by_cases hjn : j < n
      · have hja : j < a.length := by have := HN.out; omega
        have hjb : j < b.length := by have := HN.out; have := HL.out; omega
        obtain rfl := HA.out.at_ (by omega)
        obtain rfl := HB.out.at_ (by omega)
        obtain ⟨a1, a2, a3, a4, a5⟩ := (HA.out.next HBW.out).node j hja
        obtain ⟨b1, b2, b3, b4, b5⟩ := (HB.out.next HBW.out).node j hjb
        have ka := (HA.out.next HBW.out).kids j hja
        have kb := (HB.out.next HBW.out).kids j hjb
        obtain ⟨x, hx⟩ : ∃ x, x = a.getD j default := ⟨_, rfl⟩
        obtain ⟨y, hy⟩ : ∃ y, y = b.getD j default := ⟨_, rfl⟩
        rw [← hx] at a1 a2 a3 a4 a5 ka
        rw [← hy] at b1 b2 b3 b4 b5 kb
        have hzb := blk_of_cell b1
        have hza := blk_of_cell a1
        have key := fun (W : World) (hW : Below wr.heap.size wr W) => alike_m x y W (ka.next hW) (kb.next hW)
        unfold NdM.v at key
        have HK := Lib.hid key
        have HX := Lib.hid hx; have HY := Lib.hid hy
        have HJ := Lib.hid (show j + 1 ≤ n from hjn)
        have HB2 := Lib.hid (show Below wr.heap.size wr ((wr.alloc (.cells #[.int .u8 x.nd.k, .int .i32 x.nd.r, .int .u32 x.nd.p, .int .u32 x.nd.m, .slice x.pk x.nd.ks.length x.c] 36)).alloc (.cells #[.int .u8 y.nd.k, .int .i32 y.nd.r, .int .u32 y.nd.p, .int .u32 y.nd.m, .slice y.pk y.nd.ks.length y.c] 36)) from ((Below.refl _ _).alloc (Nat.le_refl _) _).alloc (by simp) _)
        clear hx hy ka kb key hja hjb
        go_wp2_with fail
        refine (HK.out _ HB2.out).mono ?_
        rintro e w2 ⟨rfl, hb⟩
        have hb2 := HB2.out.trans (hb.mono HB2.out.size)
        replace HBW := Lib.hid (HBW.out.trans (hb2.mono HBW.out.size))
        clear hb hb2 HB2 HK a1 a2 a3 a4 a5 b1 b2 b3 b4 b5
        cases hq : ndE x.nd y.nd with
        | true =>
          have HQ := Lib.hid ((ndE_iff _ _).1 hq)
          clear hq
          go_wp2_with fail
          go_roundw
          case rel => exact ⟨j + 1, by go_num, HJ.out, Lib.hid (fun i hi => by
            by_cases e : i = j
            · rw [e, ← HX.out, ← HY.out]; exact HQ.out
            · exact HE.out i (by omega)), HBW⟩
          case measure => have := HJ.out; simp [intOf]; omega
        | false =>
          obtain rfl : B = false := by
            cases hBB : B with
            | false => rfl
            | true =>
              have h := nds_getD (hBT.1 hBB) j (by have := HN.out; omega) (by have := HN.out; have := HL.out; omega)
              rw [← HX.out, ← HY.out] at h
              rw [(ndE_iff _ _).2 h] at hq
              cases hq
          clear hBT hq
          go_wp2_with fail
          go_ret
          exact ⟨rfl, HBW.out⟩
      · obtain rfl : j = n := by omega
        obtain rfl : B = true := hBT.2 (eqNd_all HL.out (by rw [← HN.out]; exact HE.out))
        clear hBT
        go_wp2_with fail
        go_ret
        exact ⟨rfl, HBW.out⟩
  · obtain rfl : B = false := by
      cases hBB : B with
      | false => rfl
      | true => exact absurd (congrArg List.length (hBT.1 hBB)) (by rw [nds_length, nds_length]; exact hl)
    have h1 : ¬ (a.length : Int) = (b.length : Int) := by omega
    clear hA hB hBT
    go_enter Tryd.func23, Tryd.ntmps23
    go_wp2_with fail
    go_ret
    exact ⟨rfl, Below.refl _ _⟩
end Go.Proofs.YtmechinlaladiaaDoor
