/-
  WALKS: pattern.Turned.
  A NODE ABOVE PATTERNS, BEING MADE: what both sides' loops keep.
-/
import Derived.Test.YtmechinlaladiaaDoorZAY
import Derived.Test.YtmechinlaladiaaDoorZAW
namespace Go.Proofs.YtmechinlaladiaaDoor
open Go.RowKit Go.Lib
set_option linter.unusedVariables false
theorem MkPost.up2 {ns : List Nd} {w w1 : World} (err : Nat) (hb : Below w.heap.size w w1) (hz : w.heap.size < w1.heap.size) {e : Ending} {w' : World} (h : MkPost ns w1 e w') : ∃ o n c, e = .returned (.agg #[.slice o n c]) ∧ Below w1.heap.size w1 w' ∧ ∀ u, MkPost2 err ns w (.returned (.tuple #[.agg #[.slice o n c], .int .i64 err])) (w'.setCell ⟨w.heap.size, 0, none⟩ u) := by
  obtain ⟨o, n, c, rfl, h1, h2⟩ := h.up hb hz
  refine ⟨o, n, c, rfl, h1, fun u => ?_⟩
  obtain ⟨q, e, a, b, c2⟩ := h2 u
  exact ⟨q, by injection e with e; rw [← e], a, b, c2⟩
theorem mk2_none (err : Nat) (w w' : World) (hb : Below w.heap.size w w') : MkPost2 err [] w (.returned (.tuple #[.agg #[.slice none 0 0], .int .i64 err])) w' := ⟨⟨[], none, 0, 0, 0⟩, rfl, rfl, Mine.none _ _, hb⟩
/-- Some nodes, the first i of them turned. -/
def TnTo (ms msj : List NdM) (i : Nat) : Prop := msj.length = ms.length ∧ ∀ q, q < ms.length → (msj.getD q default).nd = if q < i then (ms.getD q default).nd.turn else (ms.getD q default).nd
theorem tn_done {ms msj : List NdM} (h : TnTo ms msj ms.length) : nds msj = (nds ms).map Nd.turn := by
  apply List.ext_getElem (by simp [nds_length, h.1])
  intro q h1 h2
  rw [nds_length] at h1
  have hq : q < ms.length := by rw [← h.1]; exact h1
  rw [nds_at msj q h1, List.getElem_map, nds_at ms q hq, h.2 q hq, if_pos hq]
theorem split_at {ms : List NdM} {i : Nat} (h : i < ms.length) : ms = ms.take i ++ ms.getD i default :: ms.drop (i + 1) ∧ (ms.take i).length = i := by
  refine ⟨?_, by simp; omega⟩
  rw [List.getD_eq_getElem?_getD, List.getElem?_eq_getElem h]
  have := List.take_append_drop i ms
  rw [List.drop_eq_getElem_cons h] at this
  exact this.symm
theorem tn_same {ms msj : List NdM} {i : Nat} (h : TnTo ms msj i) (hk : i < ms.length → (ms.getD i default).nd.turn = (ms.getD i default).nd) : TnTo ms msj (i + 1) := by
  refine ⟨h.1, fun q hq => ?_⟩
  rw [h.2 q hq]
  by_cases e : q = i
  · subst e; rw [if_neg (by omega), if_pos (by omega), hk hq]
  · by_cases e2 : q < i
    · rw [if_pos e2, if_pos (by omega)]
    · rw [if_neg e2, if_neg (by omega)]
theorem getD_l {a b : List NdM} {q : Nat} (h : q < a.length) : (a ++ b).getD q default = a.getD q default := by
  rw [List.getD_eq_getElem?_getD, List.getD_eq_getElem?_getD, List.getElem?_append_left h]
theorem getD_r {a b : List NdM} {q : Nat} (h : a.length ≤ q) : (a ++ b).getD q default = b.getD (q - a.length) default := by
  rw [List.getD_eq_getElem?_getD, List.getD_eq_getElem?_getD, List.getElem?_append_right h]
theorem tn_set {ms msj : List NdM} {i : Nat} {m' : NdM} (h : TnTo ms msj i) (hi : i < ms.length) (hm : m'.nd = (ms.getD i default).nd.turn) : TnTo ms (msj.take i ++ m' :: msj.drop (i + 1)) (i + 1) := by
  have hil : i < msj.length := by rw [h.1]; exact hi
  have hl := (split_at hil).2
  refine ⟨by simp; have := h.1; omega, fun q hq => ?_⟩
  by_cases e : q = i
  · subst e
    rw [if_pos (by omega), getD_r (by omega), hl, Nat.sub_self]
    exact hm
  · have hsame : (msj.take i ++ m' :: msj.drop (i + 1)).getD q default = msj.getD q default := by
      by_cases e2 : q < i
      · rw [getD_l (by omega), List.getD_eq_getElem?_getD, List.getElem?_take, if_pos e2, ← List.getD_eq_getElem?_getD]
      · rw [getD_r (by omega), hl]
        obtain ⟨d, hd⟩ : ∃ d, q - i = d + 1 := ⟨q - i - 1, by omega⟩
        rw [hd, List.getD_cons_succ, List.getD_eq_getElem?_getD, List.getElem?_drop, ← List.getD_eq_getElem?_getD]
        congr 1
        omega
    rw [hsame, h.2 q hq]
    by_cases e2 : q < i
    · rw [if_pos e2, if_pos (by omega)]
    · rw [if_neg e2, if_neg (by omega)]
set_option maxHeartbeats 8000000 in
set_option maxRecDepth 100000 in
theorem pturned_any (pn : Option Addr) (bn n0 c : Nat) (ms : List NdM) (w : World) (h : NsIn pn bn n0 ms w) :
    Calls Tryd.prog 21 #[.agg #[.slice pn ms.length c]] w (fun e w' => (treeB (nds ms) = true → MkPost2 0 (turnN (nds ms)) w e w') ∧ (treeB (nds ms) = false → MkPost2 40 [] w e w')) := by
  obtain ⟨n, hn⟩ : ∃ n, n = ms.length := ⟨_, rfl⟩
  obtain ⟨B, hB⟩ : ∃ B, B = treeB (nds ms) := ⟨_, rfl⟩
  have kt := fun (W : World) (hW : Below w.heap.size w W) => isTree_any pn bn n0 c ms W (h.next hW) B (by rw [hB]; exact treeB_iff _)
  rw [← hn] at kt ⊢
  rw [← hB]
  have KT := Lib.hid kt; have H := Lib.hid h; have HN := Lib.hid hn; have HBE := Lib.hid hB
  have hA : Below w.heap.size w ((w.alloc (.cells #[.slice pn n c] 24)).alloc (.cells #[.slice none 0 0] 24)) := ((Below.refl _ _).alloc (Nat.le_refl _) _).alloc (by simp) _
  have HA := Lib.hid hA
  clear kt h hn hB hA
  go_enter Tryd.func21, Tryd.ntmps21
  go_wp2_with fail
  refine (KT.out _ HA.out).mono ?_
  rintro e w2 ⟨rfl, hb2⟩
  have c0 : w2.cell? ⟨w.heap.size, 0, none⟩ = some (.slice pn n c) := (hb2.cell (p := ⟨w.heap.size, 0, none⟩) (by simp; omega)).trans (by simp)
  have d0 : w2.cell? ⟨w.heap.size + 1, 0, none⟩ = some (.slice none 0 0) := (hb2.cell (p := ⟨w.heap.size + 1, 0, none⟩) (by simp)).trans (by simp)
  have f0 : w2.frozen? ⟨w.heap.size + 1, 0, none⟩ = false := (hb2.frozen (p := ⟨w.heap.size + 1, 0, none⟩) (by simp)).trans (by simp)
  have hz2 : w.heap.size + 2 ≤ w2.heap.size := by have := hb2.size; simp at this; omega
  have HB2 := Lib.hid (HA.out.trans (hb2.mono HA.out.size))
  have HD0 := Lib.hid d0; have HF0 := Lib.hid f0
  have HAS : Hid (Below (w.alloc (.cells #[.slice pn n c] 24)).heap.size (w.alloc (.cells #[.slice pn n c] 24)) w2) := Lib.hid (((Below.refl _ _).alloc (Nat.le_refl _) _).trans (hb2.mono (by simp)))
  have HD3' := HD0; have HF3' := HF0
  clear hb2 KT
  cases B with
  | false =>
    have HR := Lib.hid (fun u => mk2_none 40 w (w2.setCell ⟨w.heap.size + 1, 0, none⟩ u) (HB2.out.setCell (p := ⟨w.heap.size + 1, 0, none⟩) (Nat.le_succ _) u))
    go_wp2_with fail
    refine bodyPost_ret (v := .tuple #[.agg #[.slice none 0 0], .int .i64 40]) (by simp [results, Tryd.results21, go_sem, *]) rfl ?_
    exact HR.out _
  | true =>
    have hT : IsTree (nds ms) := (treeB_iff _).1 HBE.out.symm
    have hmost := hT.most
    rw [nds_length, ← HN.out] at hmost
    have HT := Lib.hid hT
    clear hT
    have kc := fun (W : World) (hW : Below w.heap.size w W) => cloneN_any pn bn n0 c ms W (H.out.next hW) (by rw [← HN.out]; omega)
    rw [← HN.out] at kc
    have KC := Lib.hid kc
    clear kc
    go_wp2_with fail
    refine (KC.out _ HB2.out).mono ?_
    rintro e w3 ⟨o, cv, rfl, hout, hb3⟩
    have d3 := (hb3.cell (p := ⟨w.heap.size + 1, 0, none⟩) (by show w.heap.size + 1 < _; omega)).trans HD0.out
    have f3 := (hb3.frozen (p := ⟨w.heap.size + 1, 0, none⟩) (by show w.heap.size + 1 < _; omega)).trans HF0.out
    have HOUT := Lib.hid hout; have HB3 := Lib.hid (HB2.out.trans (hb3.mono HB2.out.size)); have HB23 := Lib.hid hb3
    have HD3 := Lib.hid d3; have HF3 := Lib.hid f3
    clear hout hb3 d3 f3 c0 d0 f0 KC HD0 HF0
    go_wp2_with fail
    go_loopw [17] (fun iv wr => ∃ (i : Nat) (msj : List NdM), iv = .int .i64 i ∧ i ≤ n ∧ Hid (TnTo ms msj i) ∧ Hid (OutN w2.heap.size (fun _ => False) (.slice o n cv) msj wr) ∧ Hid (Below w2.heap.size w2 wr)) (fun iv _ => n - (intOf iv).toNat)
    case atStart => exact ⟨0, ms, rfl, by omega, Lib.hid ⟨rfl, fun q hq => by rw [if_neg (by omega)]⟩, HOUT, HB23⟩
    case round =>
      clear HOUT HB23 HB3 HD3 HF3
      obtain ⟨i, msj, rfl, hi, HTN, HOUT, HBW⟩ := hrel
      by_cases hin : i < n
      · have hil : i < msj.length := by rw [HTN.out.1, ← HN.out]; exact hin
        obtain ⟨g, cg, hv, hvb, hgN, hgl, hcell, hfz⟩ := HOUT.out.some (by omega)
        obtain ⟨hsp, hspl⟩ := split_at hil
        injection hv with hv1 hv2 hv3
        subst hv1
        subst hv3
        clear hv2
        obtain ⟨m, hm⟩ : ∃ m, m = msj.getD i default := ⟨_, rfl⟩
        obtain ⟨e0, e1, e2, e3, e4⟩ := nsC_at msj i hil
        have hmm : m ∈ msj := by rw [hm, List.getD_eq_getElem?_getD, List.getElem?_eq_getElem hil]; exact List.getElem_mem hil
        have a0 := (hcell (i * 5) (by omega)).trans e0
        have a1 := (hcell (i * 5 + 1) (by omega)).trans e1
        have a2 := (hcell (i * 5 + 2) (by omega)).trans e2
        have a3 := (hcell (i * 5 + 3) (by omega)).trans e3
        have a4 := (hcell (i * 5 + 4) (by omega)).trans e4
        have fz := hfz (i * 5 + 4)
        rw [← hm] at a0 a1 a2 a3 a4 hsp
        have hmnd : m.nd = (ms.getD i default).nd := by rw [hm, HTN.out.2 i (by rw [← HN.out]; exact hin), if_neg (by omega)]
        have hks : m.nd.ks.length ≤ 256 := by
          have h1 : i < (nds ms).length := by rw [nds_length, ← HN.out]; exact hin
          have h2 : ¬ (nds ms).length ≤ (nds ms)[i].ks.length := fun h => no_many h1 h HT.out
          rw [nds_at ms i (by rw [← HN.out]; exact hin), ← hmnd, nds_length, ← HN.out] at h2
          omega
        have HJ := Lib.hid (show i + 1 ≤ n from hin)
        obtain ⟨kq, hkq⟩ : ∃ q, q = m.nd.k := ⟨_, rfl⟩
        obtain ⟨nk, hnk⟩ : ∃ q, q = m.nd.ks.length := ⟨_, rfl⟩
        obtain ⟨pk, hpk⟩ : ∃ q, q = m.pk := ⟨_, rfl⟩
        obtain ⟨ck, hck⟩ : ∃ q, q = m.c := ⟨_, rfl⟩
        have hkm := HOUT.out.kids m hmm
        have kk := fun (W : World) (hW : Below wr.heap.size wr W) => cloneK_any m.pk m.bk m.k0 m.c m.nd.ks W (hkm.next hW) (by omega)
        have kr := fun (N : Nat) (o : Option Addr) (c : Nat) (W : World) h => revk_any N o c m.nd.ks W h (by omega)
        rw [← hnk, ← hpk, ← hck] at kk
        rw [← hnk] at kr
        rw [← hkq] at a0
        rw [← hnk, ← hpk, ← hck] at a4
        have KK := Lib.hid kk; have KR := Lib.hid kr; have HKQ := Lib.hid hkq; have HNK := Lib.hid hnk; have HSP := Lib.hid hsp; have HSPL := Lib.hid hspl; have HMND := Lib.hid hmnd; have HVB := Lib.hid hvb; have HMM := Lib.hid hmm; have HM := Lib.hid hm
        have HCELL := Lib.hid a4; have HFZ := Lib.hid fz
        have hzb : g < wr.heap.size := hgl
        have hnn : n < 257 := by omega
        clear kk kr hkq hnk hsp hspl hmnd hvb hmm hm hcell hfz e0 e1 e2 e3 e4 hkm hck hpk
        have hBx := Lib.hid (show Below wr.heap.size wr (wr.alloc (.cells #[.int .u8 kq, .int .i32 m.nd.r, .int .u32 m.nd.p, .int .u32 m.nd.m, .slice pk nk ck] 36)) from (Below.refl _ _).alloc (Nat.le_refl _) _)
        by_cases hk6 : kq = 6
        · subst hk6
          go_wp2_with fail
          refine (KK.out _ hBx.out).mono ?_
          rintro e w4 ⟨o4, c4, rfl, hown4, hb4⟩
          have HO4 := Lib.hid hown4; have HB4 := Lib.hid hb4
          have hz4 := hb4.size
          simp only [World.size_alloc] at hz4
          clear hown4 hb4 a0 a1 a2 a3 KK
          go_wp2_with fail
          refine (KR.out _ _ _ _ HO4.out).mono ?_
          rintro e w5 ⟨rfl, hown5, hb5⟩
          have hbut : But (fun q => wr.heap.size ≤ q) wr w5 := (But.of_below (hBx.out.trans (HB4.out.mono hBx.out.size))).trans hb5 (fun q hq e => by have := (HO4.out.lt q e).1; simp at this; omega)
          have hs5 := hbut.size
          have q4 := hbut.cell (p := ⟨g, i * 5 + 4, none⟩) HCELL.out (by show ¬ wr.heap.size ≤ g; omega)
          have f4 := (hbut.frozen (p := ⟨g, i * 5 + 4, none⟩) hzb (by show ¬ wr.heap.size ≤ g; omega)).trans HFZ.out
          have HBUT := Lib.hid hbut
          have HO5 := Lib.hid hown5
          clear hbut hown5 hb5 HO4 KR a4 fz
          go_wp2_with fail
          go_roundw
          case rel =>
            have hout5 : OutN w2.heap.size (fun _ => False) (.slice (some ⟨g, 0, none⟩) n cv) (msj.take i ++ m :: msj.drop (i + 1)) w5 := by
              rw [← HSP.out]
              exact HOUT.out.keep HBUT.out (fun k e => by have := (HOUT.out.own.lt k e).2; omega) (fun q hq h0 => by have := (HOUT.out.kids q hq).lt h0; omega)
            have hown6 : w5.ownsRow (wr.heap.size + 1) 3 1 (.slice o4 nk c4) m.nd.ks.reverse.length (m.nd.ks.reverse.map fun k => .int .i64 k) := by
              rw [List.length_reverse, ← HNK.out]
              simpa using HO5.out
            obtain ⟨pk', bk', c', hkv, hKs, hkb⟩ := own_ks hown6 (by rw [List.length_reverse]; omega) (fun k hk => (HOUT.out.kids m HMM.out).bits k (List.mem_reverse.1 hk))
            rw [List.length_reverse, ← HNK.out] at hkv
            injection hkv with h1 h2 h3
            subst h1; subst h3
            obtain ⟨M', hM'⟩ : ∃ M' : NdM, M' = ⟨⟨m.nd.k, m.nd.r, m.nd.p, m.nd.m, m.nd.ks.reverse⟩, o4, bk', 0, c4⟩ := ⟨_, rfl⟩
            have hs := hout5.setK (m' := M') (by rw [hM']; exact ⟨rfl, rfl, rfl, rfl⟩) (by rw [hM']; exact hKs) (by
              rw [hM']
              intro h0
              have hb := (hkb h0).1
              exact ⟨fun e => by have e2 : g = bk' := e; omega, fun e => e⟩)
            rw [HSPL.out] at hs
            have hsv : (Value.slice M'.pk M'.nd.ks.length M'.c) = .slice o4 nk c4 := by rw [hM', HNK.out]; show Value.slice _ _ _ = _; rw [List.length_reverse]
            rw [hsv] at hs
            refine ⟨i + 1, msj.take i ++ M' :: msj.drop (i + 1), by go_num, HJ.out, Lib.hid (tn_set HTN.out (by have := HJ.out; have := HN.out; omega) ?_), Lib.hid hs, Lib.hid ((HBW.out.trans (HBUT.out.below (by have := HBW.out.size; omega) (fun k hk e => by have := HBW.out.size; omega))).setCell (p := ⟨g, i * 5 + 4, none⟩) hgN _)⟩
            rw [← HMND.out, hM']
            unfold Nd.turn
            rw [if_pos HKQ.out.symm]
          case measure => have := HJ.out; simp [intOf]; omega
        · have hk7 : ¬ (kq : Int) = 6 := by omega
          have HK6 := Lib.hid hk6
          clear hk6 KK KR
          go_wp2_with fail
          go_roundw
          case rel =>
            refine ⟨i + 1, msj, by go_num, HJ.out, Lib.hid (tn_same HTN.out (fun _ => ?_)), Lib.hid (HOUT.out.next hBx.out), Lib.hid (HBW.out.trans (hBx.out.mono HBW.out.size))⟩
            rw [← HMND.out]
            unfold Nd.turn
            rw [if_neg (by rw [← HKQ.out]; exact HK6.out)]
          case measure => have := HJ.out; simp [intOf]; omega
      · obtain rfl : i = n := by omega
        have hnds : nds msj = (nds ms).map Nd.turn := tn_done (by rw [← HN.out]; exact HTN.out)
        have hlen : msj.length = i := by rw [HTN.out.1, ← HN.out]
        obtain ⟨pn', bn', c', e', hNI, _⟩ := HOUT.out.nsin (by omega)
        rw [hlen] at e'
        injection e' with e1 e2 e3
        subst e1; subst e3
        have hat : (tr0 (nds ms)).turn.At (nds msj) 0 := by rw [hnds]; exact Tr.At_turn (tr0_at HT.out)
        have hsz : (tr0 (nds ms)).turn.sz ≤ 100000 := by rw [Tr.turn_sz, tr0_sz HT.out, nds_length, ← HN.out]; omega
        have kn := numbered_any o bn' 0 cv msj wr hNI 0 (tr0 (nds ms)).turn hat hsz
        rw [hlen] at kn
        have KN := Lib.hid kn
        have d3 := (HBW.out.cell (p := ⟨w.heap.size + 1, 0, none⟩) (by show w.heap.size + 1 < _; omega))
        have HUP := Lib.hid (fun e w' (h : MkPost ((tr0 (nds ms)).turn.flat 0) wr e w') => h.up2 0 (w := w.alloc (.cells #[.slice pn i c] 24)) (HAS.out.trans (HBW.out.mono HAS.out.size)) (by have := HBW.out.size; simp; omega))
        clear kn hat hsz hNI
        have hd4 := d3.trans HD3'.out
        have hf4 := (HBW.out.frozen (p := ⟨w.heap.size + 1, 0, none⟩) (by show w.heap.size + 1 < _; omega)).trans HF3'.out
        have HD4 := Lib.hid hd4; have HF4 := Lib.hid hf4
        clear d3 hd4 hf4
        go_wp2_with fail
        refine KN.out.mono ?_
        intro e w6 hpost
        obtain ⟨o6, n6, c6, rfl, hb6, hR⟩ := HUP.out e w6 hpost
        have c0 := (hb6.cell (p := ⟨w.heap.size + 1, 0, none⟩) (by show w.heap.size + 1 < _; have := HBW.out.size; omega)).trans HD4.out
        have f0 := (hb6.frozen (p := ⟨w.heap.size + 1, 0, none⟩) (by show w.heap.size + 1 < _; have := HBW.out.size; omega)).trans HF4.out
        have HR := Lib.hid (fun u => (hR u).down (w := w) ((Below.refl _ _).alloc (Nat.le_refl _) _))
        clear hR hb6 hpost HUP KN
        go_wp2_with fail
        refine bodyPost_ret (v := .tuple #[.agg #[.slice o6 n6 c6], .int .i64 0]) (by simp [results, Tryd.results21, go_sem, *]) rfl ?_
        have h := HR.out (.slice o6 n6 c6)
        simp only [World.size_alloc] at h
        exact h
end Go.Proofs.YtmechinlaladiaaDoor
namespace Go.Proofs.YtmechinlaladiaaDoor
open Go.RowKit Go.Lib
set_option linter.unusedVariables false
/-- j trees are put below M's node. -/
structure RbL (N : Nat) (W0 : World) (M : NdM) (tl : List Tr) (j : Nat) (kv vj : Value) (msj : List NdM) (st : List Int) (wr : World) : Prop where
  below : Below N W0 wr
  out : OutN N (fun _ => False) vj (M.bare :: msj) wr
  far : SofarL tl j (nds msj) st
  stl : st.length = j
  kown : wr.ownsRow N 3 1 kv st.length (st.map fun k => .int .i64 k)
  kap : ∀ b, kv.ownBlock = some b → ¬ vj.ownBlock = some b ∧ ∀ q ∈ M.bare :: msj, 0 < q.nd.ks.length → ¬ q.bk = b
  frk : ∀ q ∈ msj, FrK N q wr
theorem RbL.next {N : Nat} {W0 : World} {M : NdM} {tl : List Tr} {j : Nat} {kv vj : Value} {msj : List NdM} {st : List Int} {wr wr' : World} (h : RbL N W0 M tl j kv vj msj st wr) (hN : N ≤ wr.heap.size) (hb : Below wr.heap.size wr wr') : RbL N W0 M tl j kv vj msj st wr' :=
  ⟨h.below.trans (hb.mono hN), h.out.next hb, h.far, h.stl, ownN_below h.kown hb, h.kap, fun q hq => (h.frk q hq).keep (But.of_below (X := fun _ => False) hb) (fun _ e => e)⟩
theorem RbL.step {N : Nat} {W0 : World} {M : NdM} {tl : List Tr} {j : Nat} {kv vj : Value} {msj : List NdM} {st : List Int} {wr : World}
    (h : RbL N W0 M tl j kv vj msj st wr) (hw : W0.heap.size = N) (hj : j < tl.length) (hsz : 1 + (ofL tl).sz ≤ 100000) :
    ∃ (z : Nat), z ≤ 100000 ∧ (∃ o c, vj = .slice o z c) ∧ (M.bare :: msj).length + (tl.getD j default).sz ≤ 100000 ∧
      ∀ o kv' w3, w3.ownsRow N 3 1 kv' (st ++ [(z : Int)]).length ((st ++ [(z : Int)]).map fun k => .int .i64 k) → (wr.alloc o).grownBy w3 kv.ownBlock → (kv'.ownBlock = kv.ownBlock ∨ kv'.ownBlock = some (wr.alloc o).heap.size) →
        Below N W0 w3 ∧ OutN N (fun _ => False) vj (M.bare :: msj) w3 ∧ N ≤ w3.heap.size ∧ ∀ e w4, PtR N vj (M.bare :: msj) (tl.getD j default) w3 e w4 →
          ∃ vj' msj', e = .returned vj' ∧ RbL N W0 M tl (j + 1) kv' vj' msj' (st ++ [(z : Int)]) w4 := by
  have hNw : N ≤ wr.heap.size := by have := h.below.size; omega
  obtain ⟨hle, hf2⟩ := h.far.step hj
  have hlp : (nds msj).length = msj.length := nds_length msj
  have hlen : (M.bare :: msj).length = 1 + msj.length := by simp; omega
  refine ⟨1 + msj.length, by omega, by obtain ⟨o, c, e⟩ := h.out.len; exact ⟨o, c, by rw [e, hlen]⟩, by omega, ?_⟩
  intro o kv' w3 hk3 hg3 hat3
  have hkb : ∀ b, kv.ownBlock = some b → N ≤ b ∧ b < wr.heap.size := fun b hb => h.kown.lt b hb
  have hB3 : But (fun q => kv.ownBlock = some q) wr w3 := (But.refl (fun q => kv.ownBlock = some q) wr).alloc o |>.trans (But.of_grown hg3 (fun k e => e)) (fun i _ e => e)
  have hs3 := hB3.size
  have hbel : Below N W0 w3 := h.below.trans (hB3.below (by omega) (fun k hk e => by have := hkb k e; omega))
  have ho3 : OutN N (fun _ => False) vj (M.bare :: msj) w3 := h.out.keep hB3 (fun k e hk => (h.kap k hk).1 e) (fun q hq h0 e => (h.kap q.bk e).2 q hq h0 rfl)
  refine ⟨hbel, ho3, by omega, ?_⟩
  rintro e w4 ⟨v', ms', rfl, hout, hnd, hfk, hbut, hvat⟩
  have hs4 := hbut.size
  have hk'b : ∀ b, kv'.ownBlock = some b → N ≤ b ∧ b < w3.heap.size ∧ ¬ vj.ownBlock = some b ∧ ∀ q ∈ M.bare :: msj, 0 < q.nd.ks.length → ¬ q.bk = b := fun b hb => by
    have h1 := hk3.lt b hb
    rcases hat3 with e | e
    · rw [e] at hb
      exact ⟨h1.1, h1.2, h.kap b hb⟩
    · rw [e] at hb
      cases hb
      refine ⟨h1.1, h1.2, fun e2 => ?_, fun q hq h0 e2 => ?_⟩
      · have := (h.out.own.lt _ e2).2
        simp at this
        omega
      · have := (h.out.kids q hq).lt h0
        simp at e2
        omega
  have hv'b : ∀ b, v'.ownBlock = some b → vj.ownBlock = some b ∨ w3.heap.size ≤ b := fun b hb => by
    rcases hvat with e | ⟨b', e, hle'⟩
    · exact Or.inl (e ▸ hb)
    · rw [e] at hb; cases hb; exact Or.inr hle'
  have happ : M.bare :: (msj ++ ms') = (M.bare :: msj) ++ ms' := rfl
  refine ⟨v', msj ++ ms', rfl, ?_, by rw [happ]; exact hout, ?_, ?_, own_keep hk3 hbut (fun k e => (hk'b k e).2.2.1), ?_, ?_⟩
  · exact hbel.trans (hbut.below (by omega) (fun k hk e => by have := (h.out.own.lt k e).1; omega))
  · rw [nds_app, hnd, show ((1 + msj.length : Nat) : Int) = ((1 + (nds msj).length : Nat) : Int) by rw [hlp], hlen, ← hlp]
    exact hf2
  · rw [List.length_append, h.stl]; rfl
  · intro b hb
    obtain ⟨k1, k2, k3, k4⟩ := hk'b b hb
    rw [happ]
    refine ⟨fun e => ?_, fun q hq h0 e => ?_⟩
    · rcases hv'b b e with e2 | e2
      · exact k3 e2
      · omega
    · rcases List.mem_append.1 hq with hq | hq
      · exact k4 q hq h0 e
      · have := (hfk q hq h0).1
        omega
  · intro q hq
    rcases List.mem_append.1 hq with hq2 | hq2
    · exact ((h.frk q hq2).keep hB3 (fun h0 e => (h.kap q.bk e).2 q (by simp [hq2]) h0 rfl)).keep hbut (fun h0 e => (ho3.apart q (by simp [hq2]) h0).1 e)
    · exact (hfk q hq2).mono (by omega)
theorem RbL.fin {N : Nat} {W0 : World} {kind : Nat} {tl : List Tr} {j : Nat} {kv vj : Value} {msj : List NdM} {st : List Int} {wr : World} {M : NdM} (hM : M = ⟨⟨kind, 0, 0, 0, []⟩, none, 0, 0, 0⟩)
    (h : RbL N W0 M tl j kv vj msj st wr) (hj : j = tl.length) (hsz : 1 + (ofL tl).sz ≤ 100000) (hjl : j ≤ 100000) :
    ∃ g n c u, vj = .slice (some ⟨g, 0, none⟩) n c ∧ 0 < n ∧ n ≤ 100000 ∧ N ≤ g ∧ wr.cell? ⟨g, 4, none⟩ = some u ∧ wr.frozen? ⟨g, 4, none⟩ = false ∧
      ∃ q : PtM, q.v = .agg #[vj] ∧ nds q.ms = (Tr.nd kind 0 0 0 (ofL tl)).flat 0 ∧ Mine N q (wr.setCell ⟨g, 4, none⟩ kv) := by
  have hfar := h.far
  rw [hj] at hfar
  obtain ⟨hfl, hst⟩ := hfar.done
  have hszj : msj.length ≤ (ofL tl).sz := by have := hfar.sz; rw [nds_length] at this; omega
  obtain ⟨g, c, hv, hvb, hgN, hgl, hcell, hfz⟩ := h.out.some (by simp)
  have hlen : (M.bare :: msj).length = 1 + msj.length := by simp; omega
  have hbits : ∀ k ∈ st, -9223372036854775808 ≤ k ∧ k ≤ 9223372036854775807 := by rw [hst]; exact starts_bits _ _ (by omega)
  obtain ⟨pk', bk', c', hkv, hKs, hkb⟩ := own_ks h.kown (by rw [h.stl]; omega) hbits
  obtain ⟨M', hM'⟩ : ∃ M' : NdM, M' = ⟨⟨M.nd.k, M.nd.r, M.nd.p, M.nd.m, st⟩, pk', bk', 0, c'⟩ := ⟨_, rfl⟩
  have hcu : ∃ u, wr.cell? ⟨g, 4, none⟩ = some u := by
    have h1 := hcell 4 (by omega)
    have h2 := (nsC_at (M.bare :: msj) 0 (by omega)).2.2.2.2
    exact ⟨_, h1.trans h2⟩
  obtain ⟨u, hu⟩ := hcu
  have hB : But (fun q => q = g) wr (wr.setCell ⟨g, 4, none⟩ kv) := (But.refl (fun q => q = g) wr).setCell (p := ⟨g, 4, none⟩) (fun _ => rfl) _
  have hout := h.out
  have hkap := h.kap
  rw [hv] at hout
  have hmo : OutN N (fun _ => False) vj (M' :: msj) (wr.setCell ⟨g, 4, none⟩ kv) := by
    have := OutN.setK (a := []) (m' := M') hout (by rw [hM']; exact ⟨rfl, rfl, rfl, rfl⟩) (by rw [hM']; exact hKs) (by
      rw [hM']
      intro h0
      have hb := hkb h0
      exact ⟨fun e => (hkap bk' hb.2).1 (by rw [hvb, e]), fun e => e⟩)
    rw [hv, hkv]
    rw [hM'] at this ⊢
    simpa using this
  have hfk : ∀ q ∈ M' :: msj, FrK N q (wr.setCell ⟨g, 4, none⟩ kv) := by
    intro q hq
    rcases List.mem_cons.1 hq with rfl | hq
    · intro h0
      rw [hM'] at h0 ⊢
      have hb := hkb h0
      refine ⟨hb.1, ?_, fun o => ?_⟩
      · have := (h.kown.lt bk' hb.2).2
        simpa [World.setCell] using this
      · rw [World.frozen?_setCell]; exact own_unfrozen h.kown hb.2 o
    · exact (h.frk q hq).keep hB (fun h0 e => (h.out.apart q (by simp [hq]) h0).1 (by rw [hvb]; exact congrArg some e.symm))
  rw [hv] at hmo
  obtain ⟨q, h1, h2, h3⟩ := mine_of hmo hfk (by simp; omega)
  refine ⟨g, 1 + msj.length, c, u, by rw [hv, hlen], by omega, by omega, hgN, hu, hfz _, q, by rw [h1, hv], ?_, h3⟩
  rw [h2, show nds (M' :: msj) = M'.nd :: nds msj from rfl, hfl, hM', hst, hM]
  rfl
/-- Some patterns' nodes. -/
def pN (ps : List PtM) : List (List Nd) := ps.map fun p => nds p.ms
theorem pN_len (ps : List PtM) : (pN ps).length = ps.length := by simp [pN]
theorem pN_take {ps : List PtM} {i : Nat} (h : i < ps.length) : (pN ps).take (i + 1) = (pN ps).take i ++ [nds (ps.getD i default).ms] := by
  unfold pN
  rw [← List.map_take, ← List.map_take, List.take_succ_eq_append_getElem h, List.map_append, List.getD_eq_getElem?_getD, List.getElem?_eq_getElem h]
  rfl
theorem pN_tl {ps : List PtM} {i : Nat} (h : i < ps.length) : ((pN ps).map tr0).getD i default = tr0 (nds (ps.getD i default).ms) := by
  rw [List.getD_eq_getElem?_getD, List.getElem?_map, List.getElem?_eq_getElem (by rw [pN_len]; exact h), List.getD_eq_getElem?_getD, List.getElem?_eq_getElem h]
  simp [pN]
theorem all_take {l : List (List Nd)} (h : l.all treeB = false) (i : Nat) (hi : l.length ≤ i) : (l.take i).all treeB = false := by rw [List.take_of_length_le hi]; exact h
theorem all_no {l : List (List Nd)} {i : Nat} (h : i < l.length) (hx : treeB l[i] = false) : l.all treeB = false := by
  cases ha : l.all treeB with
  | false => rfl
  | true => have := List.all_eq_true.1 ha l[i] (List.getElem_mem h); rw [hx] at this; cases this
noncomputable def madeR (kind : Nat) (l : List (List Nd)) : List Nd := if madeE l = 0 then madeN kind l else []
end Go.Proofs.YtmechinlaladiaaDoor
