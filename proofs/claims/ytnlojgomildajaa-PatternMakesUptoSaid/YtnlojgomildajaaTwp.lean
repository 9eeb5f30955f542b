/-
  WALKS: cognateref04.Twin.
-/
import Derived.Test.YtnlojgomildajaaSgl
namespace Go.Proofs.Ytnlojgomildajaa
open Go.RowKit Go.Lib
set_option linter.unusedVariables false
theorem nds_take {ms : List NdM} {i : Nat} (h : i < ms.length) : (nds ms).take (i + 1) = (nds ms).take i ++ [(ms.getD i default).nd] := by
  have hl : i < (nds ms).length := by rw [nds_length]; exact h
  rw [List.take_succ_eq_append_getElem hl, nds_at ms i h]
/-- append of a row of ints that came in onto nothing. -/
theorem app_ks {w : World} {ops : Array Oper} {rest : List Oper} {o : Oper} {a : Act} {Q : Exit → Act → World → Prop} (hgd : o.guard = none) (s x : Operand)
    (ho : o.op = .call { callee := .builtin .append, args := #[s, x], argTypes := #[40, 40] }) (base : Nat) (hs : a.eval s = .slice none 0 0)
    (px : Option Addr) (m c : Nat) (ks : List Int) (hx : a.eval x = .slice px m c) (hm : m = ks.length) (h0 : px = none → m = 0 ∧ c = 0) (hS : ∀ ad, px = some ad → ∀ j u, (ks.map fun k => Value.int .i64 k)[j]? = some u → w.cell? (ad.add j) = some u)
    (hbytes : ks.length * 8 ≤ 140737488355328) (hbase : base ≤ w.heap.size)
    (h : ∀ v' w', w'.ownsRow base 3 1 v' ks.length (ks.map fun k => .int .i64 k) → w.grownBy w' none → wpList Try.prog ops Q rest (a.put o.dst v') w') :
    wpList Try.prog ops Q (o :: rest) a w := by
  obtain ⟨i0, hi, hz0, hz1, hz2⟩ := info_parts int_info
  cases px with
  | none =>
    obtain ⟨rfl, rfl⟩ := h0 rfl
    obtain rfl : ks = [] := List.eq_nil_of_length_eq_zero hm.symm
    refine wpList_append_own_none hgd s x 40 ho base 3 i0 1 Try.underlying40 hi (.slice none 0 0) 0 [] hs (World.ownsRow_nil _ _ _ _) hx ?_
    exact h _ w (World.ownsRow_nil _ _ _ _) ⟨rfl, rfl, rfl, Nat.le_refl _, fun _ _ _ => rfl⟩
  | some ad =>
    refine wpList_append_own_at w hgd s x 40 ho base 3 i0 (.int .i64 0) 1 8 Try.underlying40 hi hz0 hz1 hz2 rfl (by decide) (.slice none 0 0) 0 [] hs (World.ownsRow_nil _ _ _ _) ad m c (ks.map fun k => .int .i64 k) hx (by simp [hm]) (hS ad rfl) (fun u hu => by obtain ⟨t, _, rfl⟩ := List.mem_map.1 hu; rfl) (by unfold maxLen; omega) (by omega) hbase ?_
    intro v' w' h1 h2 _ h4
    refine h v' w' ?_ h2
    rw [← hm]
    simpa using h1
set_option maxHeartbeats 8000000 in
set_option maxRecDepth 100000 in
theorem twin_p (p : PtM) (w : World) (h : p.In w) (hl : p.ms.length ≤ 100000) :
    Calls Try.prog 5 #[p.v] w (MkPost (nds p.ms) w) := by
  obtain ⟨n, hn⟩ : ∃ n, n = p.ms.length := ⟨_, rfl⟩
  obtain ⟨pn, hpn⟩ : ∃ n, n = p.pn := ⟨_, rfl⟩
  obtain ⟨cp, hcp⟩ : ∃ n, n = p.c := ⟨_, rfl⟩
  unfold PtM.v
  rw [← hn, ← hpn, ← hcp]
  rw [← hn] at hl
  have hat := h.i.at_
  rw [← hn, ← hpn] at hat
  have H := Lib.hid h; have HN := Lib.hid hn; have HAT := Lib.hid hat
  have hA : Below w.heap.size w (((w.alloc (.cells #[.slice pn n cp] 25)).alloc (.cells #[.slice none 0 0] 25)).alloc (.cells #[.slice none 0 0] 25)) := (((Below.refl _ _).alloc (Nat.le_refl _) _).alloc (by simp) _).alloc (by simp; omega) _
  have hlit := (three_boxes w (.slice pn n cp) (.slice none 0 0) (.slice none 0 0) 25 25 25)
  obtain ⟨i0, hi, hz0, hz1, hz2⟩ := info_parts int_info
  have HI0 := Lib.hid hi; have HZ0 := Lib.hid hz0; have HZ1 := Lib.hid hz1; have HZ2 := Lib.hid hz2
  have HA := Lib.hid hA; have HL := Lib.hid hlit
  clear h hn hpn hcp hat hA hlit hi hz0 hz1 hz2
  go_enter Try.func5, Try.ntmps5
  go_wp2_with fail
  obtain ⟨W3, hW3⟩ : ∃ W3, W3 = (((w.alloc (.cells #[.slice pn n cp] 25)).alloc (.cells #[.slice none 0 0] 25)).alloc (.cells #[.slice none 0 0] 25)) := ⟨_, rfl⟩
  have hA := HA.out
  have hc0 := HL.out.1
  have hc1 := HL.out.2.1
  have hc2 := HL.out.2.2.1
  have hz3 : (((w.alloc (.cells #[.slice pn n cp] 25)).alloc (.cells #[.slice none 0 0] 25)).alloc (.cells #[.slice none 0 0] 25)).heap.size = w.heap.size + 3 := by simp
  have hf1 : (((w.alloc (.cells #[.slice pn n cp] 25)).alloc (.cells #[.slice none 0 0] 25)).alloc (.cells #[.slice none 0 0] 25)).frozen? ⟨w.heap.size + 1, 0, none⟩ = false := by
    have hb3 : Below ((w.alloc (.cells #[.slice pn n cp] 25)).alloc (.cells #[.slice none 0 0] 25)).heap.size ((w.alloc (.cells #[.slice pn n cp] 25)).alloc (.cells #[.slice none 0 0] 25)) (((w.alloc (.cells #[.slice pn n cp] 25)).alloc (.cells #[.slice none 0 0] 25)).alloc (.cells #[.slice none 0 0] 25)) := (Below.refl _ _).alloc (Nat.le_refl _) _
    exact (hb3.frozen (p := ⟨w.heap.size + 1, 0, none⟩) (by simp)).trans (by simp)
  have hf2 : (((w.alloc (.cells #[.slice pn n cp] 25)).alloc (.cells #[.slice none 0 0] 25)).alloc (.cells #[.slice none 0 0] 25)).frozen? ⟨w.heap.size + 2, 0, none⟩ = false := by
    have e : (⟨w.heap.size + 2, 0, none⟩ : Addr) = ⟨((w.alloc (.cells #[.slice pn n cp] 25)).alloc (.cells #[.slice none 0 0] 25)).heap.size, 0, none⟩ := by simp
    rw [e]
    have hh := heap_alloc_new ((w.alloc (.cells #[.slice pn n cp] 25)).alloc (.cells #[.slice none 0 0] 25)) (.cells #[.slice none 0 0] 25)
    simp only [World.frozen?, hh]
    rfl
  rw [← hW3] at hA hc0 hc1 hc2 hz3 hf1 hf2 ⊢
  have C0 := Lib.hid hc0; have C1 := Lib.hid hc1; have C2 := Lib.hid hc2; have Z3 := Lib.hid hz3; have F1 := Lib.hid hf1; have F2 := Lib.hid hf2; have HA3 := Lib.hid hA
  clear hW3 hA hc0 hc1 hc2 hz3 hf1 hf2 HA HL
  go_wp2_with fail
  go_loopw [4] (fun iv wr => ∃ (i : Nat) (v : Value) (msj : List NdM), iv = .int .i64 i ∧ i ≤ n ∧ Hid (wr.cell? ⟨w.heap.size + 2, 0, none⟩ = some v) ∧ Hid (wr.frozen? ⟨w.heap.size + 2, 0, none⟩ = false) ∧ Hid (OutN (w.heap.size + 3) (fun _ => False) v msj wr) ∧ Hid (nds msj = (nds p.ms).take i) ∧ Hid (∀ m ∈ msj, FrK (w.heap.size + 3) m wr) ∧ Hid (But (fun k => k = w.heap.size + 2) W3 wr)) (fun iv _ => n - (intOf iv).toNat)
  case atStart => exact ⟨0, .slice none 0 0, [], rfl, by omega, C2, F2, Lib.hid (OutN.nil _ _ _), Lib.hid rfl, Lib.hid (fun m hm => by cases hm), Lib.hid (But.refl _ _)⟩
  case round =>
    obtain ⟨i, v, msj, rfl, hi, HV, HFV, HOUT, HND, HFK, HBUT⟩ := hrel
    obtain ⟨ov, nv, cv, rfl⟩ : ∃ o n c, v = .slice o n c := by obtain ⟨o, c, h⟩ := HOUT.out.len; exact ⟨o, _, c, h⟩
    have hzr : w.heap.size + 3 ≤ wr.heap.size := by have := HBUT.out.size; have := Z3.out; omega
    have hbw : Below w.heap.size w wr := HA3.out.trans (HBUT.out.below (by have := Z3.out; omega) (fun k hk e => by omega))
    have c0 : wr.cell? ⟨w.heap.size, 0, none⟩ = some (.slice pn n cp) := HBUT.out.cell (p := ⟨w.heap.size, 0, none⟩) C0.out (fun e => by have e2 : w.heap.size = w.heap.size + 2 := e; omega)
    have hi0 : w.heap.size < wr.heap.size := by omega
    have HBW := Lib.hid hbw
    clear hbw
    by_cases hin : i < n
    · have hil : i < p.ms.length := by rw [← HN.out]; exact hin
      obtain rfl : pn = some ⟨p.bn, p.n0, none⟩ := HAT.out (by omega)
      obtain ⟨b0, b1, b2, b3, b4⟩ := (H.out.i.next HBW.out).node i hil
      have hkm := (H.out.i.next HBW.out).kids i hil
      have hok := H.out.i.ok i hil
      obtain ⟨m, hm⟩ : ∃ m, m = p.ms.getD i default := ⟨_, rfl⟩
      have hX : m.X := H.out.x m (by rw [hm, List.getD_eq_getElem?_getD, List.getElem?_eq_getElem hil]; exact List.getElem_mem hil)
      rw [← hm] at b0 b1 b2 b3 b4 hkm hok
      obtain ⟨nk, hnk⟩ : ∃ n, n = m.nd.ks.length := ⟨_, rfl⟩
      obtain ⟨pk, hpk⟩ : ∃ n, n = m.pk := ⟨_, rfl⟩
      obtain ⟨ck, hck⟩ : ∃ n, n = m.c := ⟨_, rfl⟩
      have hread : ∀ W, Below wr.heap.size wr W → ∀ ad, pk = some ad → ∀ j u, (m.nd.ks.map fun k => Value.int .i64 k)[j]? = some u → W.cell? (ad.add j) = some u := fun W hb ad had j u hu => by
        have hj : j < m.nd.ks.length := by simpa using (List.getElem?_eq_some_iff.1 hu).1
        have e := hkm.at_ (by omega)
        rw [← hpk, had] at e
        cases e
        rw [show (⟨m.bk, m.k0, none⟩ : Addr).add j = ⟨m.bk, m.k0 + j, none⟩ from by simp [Addr.add], (hkm.next hb).cells j hj, ← hu, List.getElem?_map, List.getD_eq_getElem?_getD, List.getElem?_eq_getElem hj]
        rfl
      have hnil := hX.nil
      have hroom := hX.room
      rw [← hnk, ← hpk, ← hck] at b4
      rw [← hpk, ← hnk, ← hck] at hnil
      have hzb := blk_of_cell b0
      have HM := Lib.hid hm; have HNK := Lib.hid hnk; have HRD := Lib.hid hread; have HNIL := Lib.hid hnil; have HROOM := Lib.hid hroom; have HOK := Lib.hid hok; have HKM := Lib.hid hkm
      have HJ := Lib.hid (show i + 1 ≤ n from hin)
      clear hm hnk hpk hck hread hnil hroom hX hok hkm
      go_wp2_with (at_builtin; refine app_ks rfl (.tmp 19) (.tmp 21) rfl (wr.heap.size + 1) rfl pk nk ck m.nd.ks rfl HNK.out HNIL.out (HRD.out _ ((Below.refl _ _).alloc (Nat.le_refl _) _)) HROOM.out (by simp) ?_)
      intro kv w5 hown5 hg5
      obtain ⟨ok, nkv, ckv, rfl⟩ : ∃ o n c, kv = .slice o n c := by obtain ⟨o, c, h⟩ := ownN_shape hown5; exact ⟨o, _, c, h⟩
      have hnkv : nkv = nk := by obtain ⟨o, c, h⟩ := ownN_shape hown5; injection h with _ h2 _; rw [h2]; exact HNK.out.symm
      subst hnkv
      have hb5 : Below (wr.alloc (.cells #[.int .u8 m.nd.k, .int .i32 m.nd.r, .int .u32 m.nd.p, .int .u32 m.nd.m, .slice pk nkv ck] 42)).heap.size (wr.alloc (.cells #[.int .u8 m.nd.k, .int .i32 m.nd.r, .int .u32 m.nd.p, .int .u32 m.nd.m, .slice pk nkv ck] 42)) w5 := ⟨hg5.os, hg5.tape, hg5.output, hg5.size, fun k hk => hg5.block k hk (fun e => by cases e)⟩
      obtain ⟨e0, e1, e2, e3, e4⟩ : w5.cell? ⟨wr.heap.size, 0, none⟩ = some (.int .u8 m.nd.k) ∧ w5.cell? ⟨wr.heap.size, 1, none⟩ = some (.int .i32 m.nd.r) ∧ w5.cell? ⟨wr.heap.size, 2, none⟩ = some (.int .u32 m.nd.p) ∧ w5.cell? ⟨wr.heap.size, 3, none⟩ = some (.int .u32 m.nd.m) ∧ w5.cell? ⟨wr.heap.size, 4, none⟩ = some (.slice pk nkv ck) :=
        ⟨(hb5.cell (p := ⟨wr.heap.size, 0, none⟩) (by simp)).trans (by simp), (hb5.cell (p := ⟨wr.heap.size, 1, none⟩) (by simp)).trans (by simp), (hb5.cell (p := ⟨wr.heap.size, 2, none⟩) (by simp)).trans (by simp), (hb5.cell (p := ⟨wr.heap.size, 3, none⟩) (by simp)).trans (by simp), (hb5.cell (p := ⟨wr.heap.size, 4, none⟩) (by simp)).trans (by simp)⟩
      have f4 : w5.frozen? ⟨wr.heap.size, 4, none⟩ = false := (hb5.frozen (p := ⟨wr.heap.size, 4, none⟩) (by simp)).trans (by simp)
      have hbr5 : Below wr.heap.size wr w5 := ((Below.refl _ _).alloc (Nat.le_refl _) _).trans (hb5.mono (by simp))
      have v5 := (hbr5.cell (p := ⟨w.heap.size + 2, 0, none⟩) (by show w.heap.size + 2 < _; omega)).trans HV.out
      have hs5 : wr.heap.size + 1 ≤ w5.heap.size := by have := hb5.size; simpa using this
      have hne : ¬ w.heap.size + 2 = wr.heap.size := by omega
      have hne' : ¬ wr.heap.size = w.heap.size + 2 := by omega
      have hB6 : But (fun k => wr.heap.size ≤ k) wr (w5.setCell ⟨wr.heap.size, 4, none⟩ (.slice ok nkv ckv)) := (But.of_below hbr5).setCell (p := ⟨wr.heap.size, 4, none⟩) (fun _ => Nat.le_refl _) _
      have hout6 : OutN (w.heap.size + 3) (fun _ => False) (.slice ov nv cv) msj (w5.setCell ⟨wr.heap.size, 4, none⟩ (.slice ok nkv ckv)) := HOUT.out.keep hB6 (fun k e h => by have := (HOUT.out.own.lt k e).2; have h2 : wr.heap.size ≤ k := h; omega) (fun q hq h0 h => by have := (HOUT.out.kids q hq).lt h0; have h2 : wr.heap.size ≤ q.bk := h; omega)
      obtain ⟨pk', bk', c', hkv, hKs, hkb⟩ := own_ks (ks := m.nd.ks) (by rw [← HNK.out] at hown5 ⊢; exact hown5) HKM.out.big HKM.out.bits
      rw [← HNK.out] at hkv
      injection hkv with h1 h2 h3
      subst h1; subst h3
      clear h2
      obtain ⟨m', hm'⟩ : ∃ m' : NdM, m' = ⟨m.nd, ok, bk', 0, ckv⟩ := ⟨_, rfl⟩
      have hB56 : But (fun k => k = wr.heap.size) w5 (w5.setCell ⟨wr.heap.size, 4, none⟩ (.slice ok nkv ckv)) := (But.refl (fun k => k = wr.heap.size) w5).setCell (p := ⟨wr.heap.size, 4, none⟩) (fun _ => rfl) _
      have hks6 : KsIn m'.pk m'.bk m'.k0 m'.c m'.nd.ks (w5.setCell ⟨wr.heap.size, 4, none⟩ (.slice ok nkv ckv)) := by
        rw [hm']
        exact hKs.keep hB56 (fun h0 e => by have := (hkb h0).1; have e2 : bk' = wr.heap.size := e; omega)
      have hfk6 : FrK (w.heap.size + 3) m' (w5.setCell ⟨wr.heap.size, 4, none⟩ (.slice ok nkv ckv)) := by
        intro h0
        rw [hm'] at h0 ⊢
        have hb := hkb h0
        have hlt := (hown5.lt bk' hb.2).2
        refine ⟨by show _ ≤ bk'; omega, by simpa [World.setCell] using hlt, fun o => ?_⟩
        rw [World.frozen?_setCell]
        exact own_unfrozen hown5 hb.2 o
      have hnews : ∀ j u, m'.vs[j]? = some u → ((w5.setCell ⟨wr.heap.size, 4, none⟩ (.slice ok nkv ckv)).alloc (.cells #[.int .u8 m.nd.k, .int .i32 m.nd.r, .int .u32 m.nd.p, .int .u32 m.nd.m, .slice ok nkv ckv] 42)).cell? ((⟨w5.heap.size, 0, none⟩ : Addr).add j) = some u := by
        have h := lit_news m' (w5.setCell ⟨wr.heap.size, 4, none⟩ (.slice ok nkv ckv)) ok nkv (by rw [hm']) (by rw [hm']; exact HNK.out)
        have e : (w5.setCell ⟨wr.heap.size, 4, none⟩ (.slice ok nkv ckv)).heap.size = w5.heap.size := by simp [World.setCell]
        rw [e, hm'] at h
        rw [hm']
        exact h
      have hap : 0 < m'.nd.ks.length → ¬ (Value.slice ov nv cv).ownBlock = some m'.bk ∧ ¬ False := fun h0 => by
        rw [hm'] at h0 ⊢
        have hb := (hkb h0).1
        exact ⟨fun e => by have := (HOUT.out.own.lt bk' e).2; omega, fun e => e⟩
      have hlm : msj.length < 1000000 := by have h := congrArg List.length HND.out; rw [nds_length, List.length_take] at h; omega
      have HB6 := Lib.hid hB6; have HO6 := Lib.hid hout6; have HK6 := Lib.hid hks6; have HF6 := Lib.hid hfk6; have HNW := Lib.hid hnews; have HAP := Lib.hid hap; have HM' := Lib.hid hm'; have HLM := Lib.hid hlm
      clear hown5 hg5 hb5 hbr5 hB6 hout6 hKs hkb hm' hB56 hks6 hfk6 hnews hap hlm b0 b1 b2 b3 b4 c0 HRD
      go_wp2_with (at_builtin; refine app_nd rfl (.tmp 26) (.tmp 28) rfl (w.heap.size + 3) (fun _ => False) (.slice ov nv cv) msj rfl (HO6.out.next ((Below.refl _ _).alloc (Nat.le_refl _) _)) ⟨w5.heap.size, 0, none⟩ m' rfl HNW.out (HK6.out.next ((Below.refl _ _).alloc (Nat.le_refl _) _)) HAP.out (by rw [HM'.out]; exact ⟨HOK.out.k, HOK.out.r, HOK.out.p, HOK.out.m_⟩) HLM.out (by simp; omega) ?_)
      intro v8 w8 ho8 hg8 hat8
      obtain ⟨o8, n8, c8, rfl⟩ : ∃ o n c, v8 = .slice o n c := by obtain ⟨o, c, h⟩ := ho8.len; exact ⟨o, _, c, h⟩
      have hvb : ∀ b, (Value.slice ov nv cv).ownBlock = some b → w.heap.size + 3 ≤ b ∧ b < wr.heap.size := fun b hb => HOUT.out.own.lt b hb
      have hB8 : But (fun q => (Value.slice ov nv cv).ownBlock = some q) (w5.setCell ⟨wr.heap.size, 4, none⟩ (.slice ok nkv ckv)) w8 := ((But.refl (fun q => (Value.slice ov nv cv).ownBlock = some q) _).alloc _).trans (But.of_grown hg8 (fun k e => e)) (fun i _ e => e)
      have hBr8 : But (fun k => w.heap.size + 3 ≤ k) wr w8 := (HB6.out.mono (Y := fun k => w.heap.size + 3 ≤ k) (fun i hi e => by have e2 : wr.heap.size ≤ i := e; show w.heap.size + 3 ≤ i; omega)).trans hB8 (fun i _ e => (hvb i e).1)
      have v8c := hBr8.cell (p := ⟨w.heap.size + 2, 0, none⟩) HV.out (fun e => by have e2 : w.heap.size + 3 ≤ w.heap.size + 2 := e; omega)
      have f8 := (hBr8.frozen (p := ⟨w.heap.size + 2, 0, none⟩) (by show w.heap.size + 2 < _; omega) (fun e => by have e2 : w.heap.size + 3 ≤ w.heap.size + 2 := e; omega)).trans HFV.out
      have hB9 : But (fun k => k = w.heap.size + 2) w8 (w8.setCell ⟨w.heap.size + 2, 0, none⟩ (.slice o8 n8 c8)) := (But.refl (fun k => k = w.heap.size + 2) w8).setCell (p := ⟨w.heap.size + 2, 0, none⟩) (fun _ => rfl) _
      have hout9 : OutN (w.heap.size + 3) (fun _ => False) (.slice o8 n8 c8) (msj ++ [m']) (w8.setCell ⟨w.heap.size + 2, 0, none⟩ (.slice o8 n8 c8)) := ho8.keep hB9 (fun k e h => by have := (ho8.own.lt k e).1; have h2 : k = w.heap.size + 2 := h; omega) (fun q hq h0 h => by
        have h2 : q.bk = w.heap.size + 2 := h
        rcases List.mem_append.1 hq with hq | hq
        · have := (HFK.out q hq h0).1; omega
        · rw [List.mem_singleton.1 hq] at h0 h2; have := (HF6.out h0).1; omega)
      have hfk9 : ∀ q ∈ msj ++ [m'], FrK (w.heap.size + 3) q (w8.setCell ⟨w.heap.size + 2, 0, none⟩ (.slice o8 n8 c8)) := fun q hq => by
        rcases List.mem_append.1 hq with hq | hq
        · exact ((((HFK.out q hq).keep HB6.out (fun h0 e => by have := (HFK.out q hq h0).2.1; have e2 : wr.heap.size ≤ q.bk := e; omega)).keep hB8 (fun h0 e => (HOUT.out.apart q hq h0).1 e))).keep hB9 (fun h0 e => by have := (HFK.out q hq h0).1; have e2 : q.bk = w.heap.size + 2 := e; omega)
        · rw [List.mem_singleton.1 hq]
          exact (HF6.out.keep hB8 (fun h0 e => (HAP.out h0).1 e)).keep hB9 (fun h0 e => by have := (HF6.out h0).1; have e2 : m'.bk = w.heap.size + 2 := e; omega)
      have hnd9 : nds (msj ++ [m']) = (nds p.ms).take (i + 1) := by
        rw [nds_take (by rw [← HN.out]; have := HJ.out; omega), nds_app, HND.out, HM'.out, ← HM.out]; rfl
      have hbut9 : But (fun k => k = w.heap.size + 2) W3 (w8.setCell ⟨w.heap.size + 2, 0, none⟩ (.slice o8 n8 c8)) := (HBUT.out.trans hBr8 (fun i hi e => by have e2 : w.heap.size + 3 ≤ i := e; have := Z3.out; omega)).trans hB9 (fun i _ e => e)
      have hv9 := World.cell?_setCell_same w8 ⟨w.heap.size + 2, 0, none⟩ (.slice o8 n8 c8) v8c
      have hf9 : (w8.setCell ⟨w.heap.size + 2, 0, none⟩ (.slice o8 n8 c8)).frozen? ⟨w.heap.size + 2, 0, none⟩ = false := by rw [World.frozen?_setCell]; exact f8
      have R1 := Lib.hid hout9; have R2 := Lib.hid hfk9; have R3 := Lib.hid hnd9; have R4 := Lib.hid hbut9; have R5 := Lib.hid hv9; have R6 := Lib.hid hf9
      clear ho8 hg8 hat8 hvb hB8 hBr8 hB9 hout9 hfk9 hnd9 hbut9 hv9 hf9 e0 e1 e2 e3 e4 v5
      go_wp2_with fail
      go_roundw
      case rel => exact ⟨i + 1, _, _, by go_num, HJ.out, R5, R6, R1, R3, R2, R4⟩
      case measure => have := HJ.out; simp [intOf]; omega
    · obtain rfl : i = n := by omega
      have hnds : nds msj = nds p.ms := by rw [HND.out, List.take_of_length_le (by rw [nds_length, ← HN.out]; exact Nat.le_refl _)]
      have hlen : msj.length ≤ 100000 := by have h := congrArg List.length hnds; rw [nds_length, nds_length, ← HN.out] at h; omega
      have d1 := HBUT.out.cell (p := ⟨w.heap.size + 1, 0, none⟩) C1.out (fun e => by have e2 : w.heap.size + 1 = w.heap.size + 2 := e; omega)
      have g1 := (HBUT.out.frozen (p := ⟨w.heap.size + 1, 0, none⟩) (by show w.heap.size + 1 < _; have := Z3.out; omega) (fun e => by have e2 : w.heap.size + 1 = w.heap.size + 2 := e; omega)).trans F1.out
      have d2 := HV.out
      obtain ⟨q, hq1, hq2, hq3⟩ := mine_of HOUT.out HFK.out hlen
      have hfin : ∀ u, MkPost (nds p.ms) w (.returned (.agg #[.slice ov nv cv])) (wr.setCell ⟨w.heap.size + 1, 0, none⟩ u) := fun u => by
        refine ⟨q, by rw [hq1], by rw [hq2]; exact hnds, ?_, HBW.out.setCell (p := ⟨w.heap.size + 1, 0, none⟩) (Nat.le_succ _) _⟩
        have hb4 : But (fun k => k = w.heap.size + 1) wr (wr.setCell ⟨w.heap.size + 1, 0, none⟩ u) := (But.refl (fun k => k = w.heap.size + 1) _).setCell (p := ⟨w.heap.size + 1, 0, none⟩) (fun _ => rfl) _
        exact (hq3.keep hb4 (fun k h1 h2 e => by omega)).lower (by omega)
      have HF := Lib.hid hfin
      clear hfin hq1 hq2 hq3 hnds hlen
      go_wp2_with fail
      refine bodyPost_ret (v := .agg #[.slice ov nv cv]) (by simp [results, Try.results5, go_sem, *]) rfl ?_
      exact HF.out _
end Go.Proofs.Ytnlojgomildajaa
