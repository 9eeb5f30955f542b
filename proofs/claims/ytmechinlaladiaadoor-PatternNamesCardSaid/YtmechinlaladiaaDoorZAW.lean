/-
  WALKS: pattern.textOf and its closure.
  The zero value of [256]bool, a constant that the walk doesn't open. (Where the seat has a zeroCells of its own, 'abbrev zbC' is that one.)
  WALKS: pattern.isTree.
-/
import Derived.Laws.EntriesVeiled
import Derived.Test.YtmechinlaladiaaDoorZAV
import Derived.Test.YtmechinlaladiaaDoorZAN
import Derived.Test.YtmechinlaladiaaDoorZAK
namespace Go.Proofs.YtmechinlaladiaaDoor
open Go.RowKit Go.Lib
set_option linter.unusedVariables false

theorem hp_new (w : World) (o : Obj) : (w.alloc o).heap[w.heap.size]? = some o := (MapKept.heap_alloc w o).1
/-- What the closure has in hand. -/
structure TxC where
  A : Al
  pn : Option Addr
  bn : Nat
  n0 : Nat
  cl : Nat
  ls : List NdM
  AB : Nat
  XB : Nat
  N : Nat
  W0 : World
structure TxC.Ok (C : TxC) : Prop where
  hA : C.A.In C.W0
  hI : NsIn C.pn C.bn C.n0 C.ls C.W0
  a0 : C.W0.cell? ⟨C.AB, 0, none⟩ = some (.slice C.A.pf C.A.fs.length C.A.cf)
  a1 : C.W0.cell? ⟨C.AB, 1, none⟩ = some (.slice C.A.pl C.A.ls.length C.A.cl)
  x0 : C.W0.cell? ⟨C.XB, 0, none⟩ = some (.slice C.pn C.ls.length C.cl)
  hN : C.W0.heap.size = C.N
def TxC.fn (C : TxC) : Value := .func (.func 52) #[] #[.pointer (some ⟨C.XB, 0, none⟩), .pointer (some ⟨C.AB, 0, none⟩), .pointer (some ⟨C.N, 0, none⟩), .pointer (some ⟨C.N + 1, 0, none⟩)]
structure TxW (C : TxC) (bs : List UInt8) (w : World) : Prop where
  below : Below C.N C.W0 w
  bld : IsB C.N C.N (byteCells bs) w
  ub : w.heap[C.N + 1]? = some (.cells #[C.fn] 102 (0, 0))
theorem TxW.size {C : TxC} {bs : List UInt8} {w : World} (h : TxW C bs w) : C.N + 1 < w.heap.size := (Array.getElem?_eq_some_iff.1 h.ub).1
theorem TxW.next {C : TxC} {bs : List UInt8} {w w' : World} (h : TxW C bs w) (hb : Below w.heap.size w w') : TxW C bs w' :=
  ⟨h.below.trans (hb.mono (by have := h.size; omega)), isB_next h.bld hb, (hb.block _ h.size).trans h.ub⟩
theorem TxW.write {C : TxC} {bs : List UInt8} {w : World} (h : TxW C bs w) (s : ByteArray) (l : List UInt8) (hl : s = bO l) (hlen : bs.length + l.length ≤ 10000000) :
    Calls Tryd.prog 54 #[.pointer (some ⟨C.N, 0, none⟩), .string s] w fun e w' => e = .returned (.tuple #[.int .i64 s.size, .nilIface]) ∧ TxW C (bs ++ l) w' ∧ But (U8 C.N C.N w) w w' := by
  subst hl
  have hN : C.N ≤ w.heap.size := by have := h.size; omega
  refine (writeB_any C.N C.N (byteCells bs) (bO l) w h.bld (by rw [byteCells_length, bO_size]; omega) hN).mono ?_
  rintro e w' ⟨he, hb, hbt⟩
  refine ⟨he, ⟨h.below.trans (U8.below hbt hN (Nat.le_refl _)), by rw [byteCells_append, ← bO_cells]; exact hb, U8.keep hbt h.ub (by omega) (by decide)⟩, hbt⟩
/-- The closure's loop. -/
structure PuL (C : TxC) (s : Nat) (w : World) (k : Nat) (ks : List Int) (MB : Nat) (ah : ByteArray) (R : List UInt8) (j : Nat) (wr : World) : Prop where
  ex : ∃ (bs : List UInt8) (rest : Ts), TxW C bs wr ∧ rest.Ats (nds C.ls) (ks.drop j) ∧ bs ++ (rest.txts C.A (beL k) (decide (j = 0)) ++ bhL k) = R ∧ rest.sz ≤ s
  but : But (U8 C.N C.N w) w wr
  mb : wr.heap[MB]? = some (.cells #[.string ah, .string (bO (beL k)), .string (bO (bhL k))] 104 (0, 0))
def PutIH (C : TxC) (s : Nat) : Prop := ∀ t : Tr, t.sz ≤ s → ∀ (i : Int) (w : World) (bs : List UInt8), TxW C bs w → t.At (nds C.ls) i → bs.length + (t.txt C.A).length ≤ 10000000 →
  Calls Tryd.prog 52 #[.int .i64 i, .pointer (some ⟨C.XB, 0, none⟩), .pointer (some ⟨C.AB, 0, none⟩), .pointer (some ⟨C.N, 0, none⟩), .pointer (some ⟨C.N + 1, 0, none⟩)] w fun e w' => e = .returned (.tuple #[]) ∧ TxW C (bs ++ t.txt C.A) w' ∧ But (U8 C.N C.N w) w w'
theorem PuL.mlt {C : TxC} {s : Nat} {w : World} {k : Nat} {ks : List Int} {MB : Nat} {ah : ByteArray} {R : List UInt8} {j : Nat} {wr : World} (h : PuL C s w k ks MB ah R j wr) : MB < wr.heap.size := (Array.getElem?_eq_some_iff.1 h.mb).1
/-- The text between, if it is not the first kid. -/
theorem PuL.sep {C : TxC} {s : Nat} {w : World} {k : Nat} {ks : List Int} {MB : Nat} {ah : ByteArray} {R : List UInt8} {j : Nat} {wr : World} (h : PuL C s w k ks MB ah R j wr) (hR : R.length ≤ 10000000) (hMB : MB ≠ C.N) (hj0 : j ≠ 0) (hj : j < ks.length) :
    Calls Tryd.prog 54 #[.pointer (some ⟨C.N, 0, none⟩), .string (bO (beL k))] wr fun e w' => e = .returned (.tuple #[.int .i64 (bO (beL k)).size, .nilIface]) ∧
      w'.heap[MB]? = some (.cells #[.string ah, .string (bO (beL k)), .string (bO (bhL k))] 104 (0, 0)) ∧ But (U8 C.N C.N w) w w' ∧ ∃ (t : Tr) (rest : Ts) (bs : List UInt8), TxW C bs w' ∧ t.At (nds C.ls) (ks.getD j 0) ∧ rest.Ats (nds C.ls) (ks.drop (j + 1)) ∧ bs ++ (t.txt C.A ++ (rest.txts C.A (beL k) false ++ bhL k)) = R ∧ t.sz ≤ s ∧ rest.sz ≤ s := by
  obtain ⟨bs, rest, hW, hats, hRR, hsz⟩ := h.ex
  rw [List.drop_eq_getElem_cons hj] at hats
  cases rest with
  | nil => exact absurd hats (by intro e; cases e)
  | cons t rest' =>
    obtain ⟨i, is', e, h1, h2⟩ := hats
    cases e
    simp only [Ts.txts, decide_eq_false hj0, Bool.false_eq_true, if_false] at hRR
    simp only [Ts.sz] at hsz
    have hl := congrArg List.length hRR
    simp only [List.length_append] at hl
    refine (hW.write (bO (beL k)) (beL k) rfl (by omega)).mono ?_
    rintro e w' ⟨he, hW', hb'⟩
    refine ⟨he, U8.keep hb' h.mb hMB (by decide), U8.trans h.but hb', t, rest', bs ++ beL k, hW', ?_, h2, ?_, by omega, by omega⟩
    · rw [List.getD_eq_getElem?_getD, List.getElem?_eq_getElem hj]; exact h1
    · rw [← hRR]; simp only [List.append_assoc]
theorem PuL.first {C : TxC} {s : Nat} {w : World} {k : Nat} {ks : List Int} {MB : Nat} {ah : ByteArray} {R : List UInt8} {wr : World} (h : PuL C s w k ks MB ah R 0 wr) (hj : 0 < ks.length) :
    ∃ (t : Tr) (rest : Ts) (bs : List UInt8), TxW C bs wr ∧ t.At (nds C.ls) (ks.getD 0 0) ∧ rest.Ats (nds C.ls) (ks.drop 1) ∧ bs ++ (t.txt C.A ++ (rest.txts C.A (beL k) false ++ bhL k)) = R ∧ t.sz ≤ s ∧ rest.sz ≤ s := by
  obtain ⟨bs, rest, hW, hats, hRR, hsz⟩ := h.ex
  rw [List.drop_eq_getElem_cons hj] at hats
  cases rest with
  | nil => exact absurd hats (by intro e; cases e)
  | cons t rest' =>
    obtain ⟨i, is', e, h1, h2⟩ := hats
    cases e
    have e0 : (Ts.cons t rest').txts C.A (beL k) (decide ((0 : Nat) = 0)) = t.txt C.A ++ rest'.txts C.A (beL k) false := by simp [Ts.txts]
    rw [e0] at hRR
    simp only [Ts.sz] at hsz
    refine ⟨t, rest', bs, hW, ?_, h2, ?_, by omega, by omega⟩
    · rw [List.getD_eq_getElem?_getD, List.getElem?_eq_getElem hj]; exact h1
    · rw [← hRR]; simp only [List.append_assoc]
/-- A kid's text. -/
theorem PuL.kid {C : TxC} {s : Nat} {w : World} {k : Nat} {ks : List Int} {MB : Nat} {ah : ByteArray} {R : List UInt8} {j : Nat} (ih : PutIH C s) {W : World} (hR : R.length ≤ 10000000) (hMB : MB ≠ C.N) (hm : W.heap[MB]? = some (.cells #[.string ah, .string (bO (beL k)), .string (bO (bhL k))] 104 (0, 0))) (hb : But (U8 C.N C.N w) w W)
    (h : ∃ (t : Tr) (rest : Ts) (bs : List UInt8), TxW C bs W ∧ t.At (nds C.ls) (ks.getD j 0) ∧ rest.Ats (nds C.ls) (ks.drop (j + 1)) ∧ bs ++ (t.txt C.A ++ (rest.txts C.A (beL k) false ++ bhL k)) = R ∧ t.sz ≤ s ∧ rest.sz ≤ s) :
    W.cell? ⟨C.N + 1, 0, none⟩ = some C.fn ∧ Calls Tryd.prog 52 #[.int .i64 (ks.getD j 0), .pointer (some ⟨C.XB, 0, none⟩), .pointer (some ⟨C.AB, 0, none⟩), .pointer (some ⟨C.N, 0, none⟩), .pointer (some ⟨C.N + 1, 0, none⟩)] W fun e w' => e = .returned (.tuple #[]) ∧ PuL C s w k ks MB ah R (j + 1) w' := by
  obtain ⟨t, rest, bs, hW, hat, hats, hRR, hsz, hsr⟩ := h
  have hl := congrArg List.length hRR
  simp only [List.length_append] at hl
  refine ⟨by rw [Lib.cell_of_heap hW.ub]; rfl, (ih t hsz _ W bs hW hat (by omega)).mono ?_⟩
  rintro e w' ⟨he, hW', hb'⟩
  exact ⟨he, ⟨bs ++ t.txt C.A, rest, hW', hats, by rw [decide_eq_false (Nat.succ_ne_zero j), ← hRR]; simp only [List.append_assoc], hsr⟩, U8.trans hb hb', U8.keep hb' hm hMB (by decide)⟩
/-- Behind the last kid. -/
theorem PuL.last {C : TxC} {s : Nat} {w : World} {k : Nat} {ks : List Int} {MB : Nat} {ah : ByteArray} {R : List UInt8} {wr : World} (h : PuL C s w k ks MB ah R ks.length wr) (hR : R.length ≤ 10000000) :
    Calls Tryd.prog 54 #[.pointer (some ⟨C.N, 0, none⟩), .string (bO (bhL k))] wr fun e w' => e = .returned (.tuple #[.int .i64 (bO (bhL k)).size, .nilIface]) ∧ TxW C R w' ∧ But (U8 C.N C.N w) w w' := by
  obtain ⟨bs, rest, hW, hats, hRR, hsz⟩ := h.ex
  rw [List.drop_eq_nil_of_le (Nat.le_refl _)] at hats
  cases rest with
  | cons t rest' => obtain ⟨i, is', e, _⟩ := hats; cases e
  | nil =>
    simp only [Ts.txts, List.nil_append] at hRR
    have hl := congrArg List.length hRR
    simp only [List.length_append] at hl
    refine (hW.write (bO (bhL k)) (bhL k) rfl (by omega)).mono ?_
    rintro e w' ⟨he, hW', hb'⟩
    exact ⟨he, by rw [← hRR]; exact hW', U8.trans h.but hb'⟩
set_option maxHeartbeats 4000000 in
set_option maxRecDepth 100000 in
theorem tput_step (C : TxC) (ok : C.Ok) (s : Nat) (ih : PutIH C s) : PutIH C (s + 1) := by
  intro t ht i w bs hW hat hsz
  obtain ⟨k, r, p, m, ts⟩ := t
  obtain ⟨hi0, nd, hnd, rfl, rfl, rfl, rfl, hats⟩ := hat
  obtain ⟨x, rfl⟩ : ∃ x : Nat, i = (x : Int) := ⟨i.toNat, by omega⟩
  rw [show ((x : Int)).toNat = x from rfl] at hnd
  have hxl : x < C.ls.length := by
    have := (List.getElem?_eq_some_iff.1 hnd).1
    rwa [nds_length] at this
  obtain ⟨M, hM⟩ : ∃ M, M = C.ls.getD x default := ⟨_, rfl⟩
  have hMn : M.nd = nd := by
    have h1 := nds_at C.ls x hxl
    rw [List.getElem?_eq_getElem (by rw [nds_length]; exact hxl)] at hnd
    rw [hM, ← h1]
    exact Option.some.inj hnd
  subst hMn
  have hNI := ok.hI.next (by rw [ok.hN]; exact hW.below)
  obtain ⟨b0, b1, b2, b3, b4⟩ := hNI.node x hxl
  have hk := hNI.kids x hxl
  have hok := hNI.ok x hxl
  have hpn := hNI.at_ (by omega)
  rw [← hM] at b0 b1 b2 b3 b4 hk hok
  have hbk0 := ok.hI.kids x hxl
  rw [← hM] at hbk0
  have hzw := hW.size
  have alt : C.AB < C.W0.heap.size := blk_of_cell ok.a0
  have xlt : C.XB < C.W0.heap.size := blk_of_cell ok.x0
  rw [ok.hN] at alt xlt
  have a0 := (hW.below.cell (p := ⟨C.AB, 0, none⟩) alt).trans ok.a0
  have a1 := (hW.below.cell (p := ⟨C.AB, 1, none⟩) alt).trans ok.a1
  have x0 := (hW.below.cell (p := ⟨C.XB, 0, none⟩) xlt).trans ok.x0
  have hmk := fun W (hb : Below w.heap.size w W) => marksOf_any C.A M.nd.k M.nd.r M.nd.p M.nd.m M.pk M.nd.ks.length M.c W ((ok.hA.next (by rw [ok.hN]; exact hW.below)).next hb) hok.p hok.m_
  unfold MkOf at hmk
  rw [show C.A.v = .agg #[.slice C.A.pf C.A.fs.length C.A.cf, .slice C.A.pl C.A.ls.length C.A.cl] from rfl] at hmk
  obtain ⟨R, hR⟩ : ∃ R, R = bs ++ (Tr.nd M.nd.k M.nd.r M.nd.p M.nd.m ts).txt C.A := ⟨_, rfl⟩
  have hRl : R.length ≤ 10000000 := by rw [hR, List.length_append]; exact hsz
  have hal : bs.length + (ahL C.A M.nd.k M.nd.r M.nd.p M.nd.m).length ≤ 10000000 := by
    have h1 : ((Tr.nd M.nd.k M.nd.r M.nd.p M.nd.m ts).txt C.A).length = (ahL C.A M.nd.k M.nd.r M.nd.p M.nd.m).length + ((ts.txts C.A (beL M.nd.k) true).length + (bhL M.nd.k).length) := by
      simp only [Tr.txt, List.length_append]
    omega
  rw [← hR]
  have hwr := fun W (hb : Below w.heap.size w W) => (hW.next hb).write (bO (ahL C.A M.nd.k M.nd.r M.nd.p M.nd.m)) _ rfl hal
  have hts : ts.sz ≤ s := by simp only [Tr.sz] at ht; omega
  have hstart : ∀ W w' MB, Below w.heap.size w W → TxW C (bs ++ ahL C.A M.nd.k M.nd.r M.nd.p M.nd.m) w' → But (U8 C.N C.N W) W w' → MB ≠ C.N → W.heap[MB]? = some (.cells #[.string (bO (ahL C.A M.nd.k M.nd.r M.nd.p M.nd.m)), .string (bO (beL M.nd.k)), .string (bO (bhL M.nd.k))] 104 (0, 0)) →
      PuL C s w M.nd.k M.nd.ks MB (bO (ahL C.A M.nd.k M.nd.r M.nd.p M.nd.m)) R 0 w' := fun W w' MB hb h1 h2 h3 h4 =>
    ⟨⟨_, ts, h1, by rw [List.drop_zero]; exact hats, by rw [hR]; simp only [Tr.txt, List.append_assoc, decide_true], hts⟩, U8.trans (U8.of_below hb) h2, U8.keep h2 h4 h3 (by decide)⟩
  have hsep := fun j wr MB (h : PuL C s w M.nd.k M.nd.ks MB (bO (ahL C.A M.nd.k M.nd.r M.nd.p M.nd.m)) R j wr) hMB hj0 hj => h.sep hRl hMB hj0 hj
  have hfirst := fun wr MB (h : PuL C s w M.nd.k M.nd.ks MB (bO (ahL C.A M.nd.k M.nd.r M.nd.p M.nd.m)) R 0 wr) hj => h.first hj
  have hkid := fun j W MB hMB hm hb h => PuL.kid (C := C) (s := s) (w := w) (k := M.nd.k) (ks := M.nd.ks) (MB := MB) (ah := (bO (ahL C.A M.nd.k M.nd.r M.nd.p M.nd.m))) (R := R) (j := j) (W := W) ih hRl hMB hm hb h
  have hlast := fun wr MB (h : PuL C s w M.nd.k M.nd.ks MB (bO (ahL C.A M.nd.k M.nd.r M.nd.p M.nd.m)) R M.nd.ks.length wr) => h.last hRl
  have hkl := hk.big
  have hbkl : 0 < M.nd.ks.length → M.bk < w.heap.size := fun h0 => hk.lt h0
  have hkc := fun W (hb : Below C.N C.W0 W) j (hj : j < M.nd.ks.length) => (ok.hI.next (by rw [ok.hN]; exact hb)).kids x hxl |>.cells j (by rw [← hM]; exact hj)
  have hkat := hk.at_
  rw [← hM] at hkc
  have hNw : C.N ≤ w.heap.size := by omega
  have hU8 := fun W (h : But (U8 C.N C.N w) w W) => hW.below.trans (U8.below h hNw (Nat.le_refl _))
  have hbn : C.bn < w.heap.size := blk_of_cell b0
  obtain ⟨ah, hah⟩ : ∃ z, z = bO (ahL C.A M.nd.k M.nd.r M.nd.p M.nd.m) := ⟨_, rfl⟩
  obtain ⟨be, hbe⟩ : ∃ z, z = bO (beL M.nd.k) := ⟨_, rfl⟩
  obtain ⟨bh, hbh⟩ : ∃ z, z = bO (bhL M.nd.k) := ⟨_, rfl⟩
  rw [← hah, ← hbe, ← hbh] at hmk
  rw [← hah] at hwr hsep hfirst hkid hlast
  rw [← hah, ← hbe, ← hbh] at hstart
  rw [← hbe, ← hbh] at hsep
  rw [← hbe, ← hbh] at hkid
  rw [← hbh] at hlast
  have hmb := fun wr MB j (h : PuL C s w M.nd.k M.nd.ks MB ah R j wr) => h.mb
  have hmbut := fun wr MB j (h : PuL C s w M.nd.k M.nd.ks MB ah R j wr) => h.but
  rw [← hbe, ← hbh] at hmb
  have hfn : C.fn = .func (.func 52) #[] #[.pointer (some ⟨C.XB, 0, none⟩), .pointer (some ⟨C.AB, 0, none⟩), .pointer (some ⟨C.N, 0, none⟩), .pointer (some ⟨C.N + 1, 0, none⟩)] := rfl
  rw [hfn] at hkid
  obtain ⟨nl, hnl⟩ : ∃ z, z = C.ls.length := ⟨_, rfl⟩
  obtain ⟨nk, hnk⟩ : ∃ z, z = M.nd.ks.length := ⟨_, rfl⟩
  obtain ⟨AB, hAB⟩ : ∃ z, z = C.AB := ⟨_, rfl⟩
  obtain ⟨XB, hXB⟩ : ∃ z, z = C.XB := ⟨_, rfl⟩
  obtain ⟨N, hN⟩ : ∃ z, z = C.N := ⟨_, rfl⟩
  obtain ⟨bn, hbn'⟩ : ∃ z, z = C.bn := ⟨_, rfl⟩
  obtain ⟨n0, hn0⟩ : ∃ z, z = C.n0 := ⟨_, rfl⟩
  obtain ⟨pk, hpk⟩ : ∃ z, z = M.pk := ⟨_, rfl⟩
  have hxi : (x : Int) < (nl : Int) := by omega
  have altw : AB < w.heap.size := by omega
  have HNE := Lib.hid (show w.heap.size ≠ N by omega)
  rw [hpn, ← hbn', ← hn0, ← hnl] at x0
  rw [← hbn', ← hn0] at b0 b1 b2 b3 b4
  rw [← hbn'] at hbn
  rw [← hAB] at a0 a1 alt hkid
  rw [← hXB] at x0 xlt hkid
  rw [← hN] at hwr hsep hkid hlast hNw hzw hstart
  rw [← hpk, ← hnk] at b4 hmk
  rw [← hpk] at hkat
  rw [← hnk] at hkat hkl hbkl hsep hfirst hlast hkc
  rw [← hN, ← hXB, ← hAB]
  have HMK := Lib.hid hmk; have HWR := Lib.hid hwr; have HST := Lib.hid hstart; have HSEP := Lib.hid hsep; have HFI := Lib.hid hfirst; have HKID := Lib.hid hkid; have HLA := Lib.hid hlast; have HKC := Lib.hid hkc; have HKAT := Lib.hid hkat; have HMB := Lib.hid hmb; have HMBUT := Lib.hid hmbut; have HU := Lib.hid hU8; have HN := Lib.hid hN; have HBKL := Lib.hid hbkl
  clear hmk hwr hstart hsep hfirst hkid hlast hkc hkat hmb hmbut hU8 hbkl hfn hN hAB hXB hbn' hn0 hpk hnk hnl hah hbe hbh hRl hal hts hR hats hNI hk hok hpn hM hbk0 hW ht hsz hi0 hnd ih ok
  go_enter Tryd.func52, Tryd.ntmps52
  go_wp2_with fail
  (with_reducible refine (HMK.out _ ((Below.refl _ _).alloc (Nat.le_refl _) _)).mono ?_)
  rintro e w1 ⟨rfl, hb1⟩
  have hn1 : w1.heap[w.heap.size]? = some (.cells #[.int .u8 M.nd.k, .int .i32 M.nd.r, .int .u32 M.nd.p, .int .u32 M.nd.m, .slice pk nk M.c] 36 (0, 0)) := (hb1.block _ (by simp)).trans (hp_new _ _)
  have hB1 : Below w.heap.size w w1 := ((Below.refl w.heap.size w).alloc (Nat.le_refl _) _).trans (hb1.mono (by simp))
  have hs1 : w.heap.size < w1.heap.size := (Array.getElem?_eq_some_iff.1 hn1).1
  have hB2 : Below w.heap.size w (w1.alloc (.cells #[.string ah, .string be, .string bh] 104)) := hB1.alloc hB1.size _
  have HN1 := Lib.hid hn1; have HB2 := Lib.hid hB2; have HS1 := Lib.hid hs1
  clear hb1 hn1 hB1 hB2 HMK a0 a1 b0 b1 b2 b3 b4 x0
  go_wp2_with fail
  (with_reducible refine (HWR.out _ HB2.out).mono ?_)
  rintro e w2 ⟨rfl, hW2, hbt⟩
  have hP := HST.out _ w2 w1.heap.size HB2.out hW2 hbt (by have := HS1.out; omega) (hp_new _ _)
  have hn2 : w2.heap[w.heap.size]? = some (.cells #[.int .u8 M.nd.k, .int .i32 M.nd.r, .int .u32 M.nd.p, .int .u32 M.nd.m, .slice pk nk M.c] 36 (0, 0)) := U8.keep hbt ((((Below.refl w1.heap.size w1).alloc (Nat.le_refl _) _).block _ HS1.out).trans HN1.out) HNE.out (by decide)
  have q4 : w2.cell? ⟨w.heap.size, 4, none⟩ = some (.slice pk nk M.c) := by rw [Lib.cell_of_heap hn2]; rfl
  have HP := Lib.hid hP
  have HMN := Lib.hid (show w1.heap.size ≠ N by have := HS1.out; omega)
  clear hW2 hbt hP hn2 HN1 HST HWR
  go_wp2_with fail
  go_loopw [24] (fun iv wr => ∃ j : Nat, iv = .int .i64 j ∧ j ≤ nk ∧ Hid (PuL C s w M.nd.k M.nd.ks w1.heap.size ah R j wr)) (fun iv _ => nk - (intOf iv).toNat)
  case atStart => exact ⟨0, rfl, Nat.zero_le _, HP⟩
  case round =>
    clear HP q4
    obtain ⟨j, rfl, hj, HP⟩ := hrel
    have hmb := HMB.out wr w1.heap.size j HP.out
    have hbut := HMBUT.out wr w1.heap.size j HP.out
    by_cases hjn : j < nk
    · obtain rfl := HKAT.out (by omega)
      have k0 := HKC.out wr (HU.out wr hbut) j hjn
      have HJ := Lib.hid (show j + 1 ≤ nk from hjn)
      by_cases hj0 : j = 0
      · subst hj0
        rw [← HN.out] at hbut
        obtain ⟨cN, hcall⟩ := HKID.out 0 wr w1.heap.size HMN.out hmb hbut (HFI.out wr w1.heap.size HP.out hjn)
        obtain ⟨kk, hkk⟩ : ∃ z, z = M.nd.ks.getD 0 0 := ⟨_, rfl⟩
        rw [← hkk] at k0 hcall
        rw [Nat.add_zero] at k0
        have HC := Lib.hid hcall
        clear hcall hmb hbut HP hkk
        go_wp2_with fail
        (with_reducible refine (HC.out).mono ?_)
        rintro e w4 ⟨rfl, hP4⟩
        have HP4 := Lib.hid hP4
        clear hP4 HC cN k0
        go_wp2_with fail
        go_roundw
        case rel => exact ⟨1, by go_num, HJ.out, HP4⟩
        case measure => have := HJ.out; simp [intOf]; omega
      · have m1 : wr.cell? ⟨w1.heap.size, 1, none⟩ = some (.string be) := by rw [Lib.cell_of_heap hmb]; rfl
        have hpos : (0 : Int) < (j : Int) := by omega
        have HW := Lib.hid (HSEP.out j wr w1.heap.size HP.out HMN.out hj0 hjn)
        have HPB := Lib.hid hbut
        obtain ⟨kk, hkk⟩ : ∃ z, z = M.nd.ks.getD j 0 := ⟨_, rfl⟩
        rw [← hkk] at k0
        have HKK := Lib.hid hkk
        clear hmb hbut HP hj0 hkk
        go_wp2_with fail
        (with_reducible refine (HW.out).mono ?_)
        rintro e w3 ⟨rfl, hm3, hb3, hex⟩
        obtain ⟨cN, hcall⟩ := HKID.out j w3 w1.heap.size HMN.out hm3 hb3 hex
        rw [← HKK.out] at hcall
        have HC := Lib.hid hcall
        clear hcall hm3 hb3 hex HW m1
        go_wp2_with fail
        (with_reducible refine (HC.out).mono ?_)
        rintro e w4 ⟨rfl, hP4⟩
        have HP4 := Lib.hid hP4
        clear hP4 HC cN k0
        go_wp2_with fail
        go_roundw
        case rel => exact ⟨j + 1, by go_num, HJ.out, HP4⟩
        case measure => have := HJ.out; simp [intOf]; omega
    · obtain rfl : j = nk := by omega
      have m2 : wr.cell? ⟨w1.heap.size, 2, none⟩ = some (.string bh) := by rw [Lib.cell_of_heap hmb]; rfl
      have HL := Lib.hid (HLA.out wr w1.heap.size HP.out)
      clear hmb hbut HP
      go_wp2_with fail
      (with_reducible refine (HL.out).mono ?_)
      rintro e w3 ⟨rfl, hW3, hb3⟩
      have HF := Lib.hid (And.intro hW3 hb3)
      clear hW3 hb3 HL m2
      go_wp2_with fail
      go_end0
      exact ⟨rfl, HF.out.1, HF.out.2⟩
theorem tput_all (C : TxC) (ok : C.Ok) : ∀ s, PutIH C s
  | 0 => fun t ht => by cases t; simp [Tr.sz] at ht
  | s + 1 => tput_step C ok s (tput_all C ok s)
set_option maxHeartbeats 4000000 in
set_option maxRecDepth 100000 in
theorem textOf_any (A : Al) (q : PtM) (w : World) (hA : A.In w) (hI : NsIn q.pn q.bn q.n0 q.ms w) (t : Tr) (hat : t.At (nds q.ms) 0) (hsz : t.sz ≤ 10000) :
    Calls Tryd.prog 36 #[A.v, q.v] w fun e w' => e = .returned (.string (bO (t.txt A))) ∧ Below w.heap.size w w' := by
  have hlen := Tr.txt_len A t
  have hv : A.v = .agg #[.slice A.pf A.fs.length A.cf, .slice A.pl A.ls.length A.cl] := rfl
  have hqv : q.v = .agg #[.slice q.pn q.ms.length q.c] := rfl
  rw [hv, hqv]
  obtain ⟨W0, hW0⟩ : ∃ W0, W0 = (w.alloc (.cells #[.slice A.pf A.fs.length A.cf, .slice A.pl A.ls.length A.cl] 31)).alloc (.cells #[.slice q.pn q.ms.length q.c] 24) := ⟨_, rfl⟩
  have hB0 : Below w.heap.size w W0 := by rw [hW0]; exact ((Below.refl _ _).alloc (Nat.le_refl _) _).alloc (by simp) _
  have hz0 : W0.heap.size = w.heap.size + 2 := by rw [hW0]; simp
  have hok : (⟨A, q.pn, q.bn, q.n0, q.c, q.ms, w.heap.size, w.heap.size + 1, W0.heap.size, W0⟩ : TxC).Ok := by
    have e : w.heap.size + 1 = (w.alloc (.cells #[.slice A.pf A.fs.length A.cf, .slice A.pl A.ls.length A.cl] 31)).heap.size := by simp
    refine ⟨hA.next hB0, hI.next hB0, ?_, ?_, ?_, rfl⟩
    · rw [hW0]; simp
    · rw [hW0]; simp
    · show W0.cell? ⟨w.heap.size + 1, 0, none⟩ = _
      rw [hW0, e]; simp
  have key : ∀ w3, Below W0.heap.size W0 w3 → w3.heap[W0.heap.size]? = some (.cells #[.pointer none, .slice none 0 0] 101 (0, 0)) → w3.heap[W0.heap.size + 1]? = some (.cells #[.func (.func 52) #[] #[.pointer (some ⟨w.heap.size + 1, 0, none⟩), .pointer (some ⟨w.heap.size, 0, none⟩), .pointer (some ⟨W0.heap.size, 0, none⟩), .pointer (some ⟨W0.heap.size + 1, 0, none⟩)]] 102 (0, 0)) →
      w3.cell? ⟨W0.heap.size + 1, 0, none⟩ = some (.func (.func 52) #[] #[.pointer (some ⟨w.heap.size + 1, 0, none⟩), .pointer (some ⟨w.heap.size, 0, none⟩), .pointer (some ⟨W0.heap.size, 0, none⟩), .pointer (some ⟨W0.heap.size + 1, 0, none⟩)]) ∧
      Calls Tryd.prog 52 #[.int .i64 0, .pointer (some ⟨w.heap.size + 1, 0, none⟩), .pointer (some ⟨w.heap.size, 0, none⟩), .pointer (some ⟨W0.heap.size, 0, none⟩), .pointer (some ⟨W0.heap.size + 1, 0, none⟩)] w3 fun e w' => e = .returned (.tuple #[]) ∧ IsB W0.heap.size W0.heap.size (byteCells (t.txt A)) w' ∧ Below W0.heap.size W0 w' := by
    intro w3 hb3 h1 h2
    have hTW : TxW (⟨A, q.pn, q.bn, q.n0, q.c, q.ms, w.heap.size, w.heap.size + 1, W0.heap.size, W0⟩ : TxC) [] w3 := ⟨hb3, Or.inl ⟨Nat.le_refl _, .slice none 0 0, h1, World.ownsRow_nil _ _ _ _, by simp [Value.ownBlock]⟩, h2⟩
    refine ⟨by rw [Lib.cell_of_heap h2]; rfl, (tput_all _ hok t.sz t (Nat.le_refl _) 0 w3 [] hTW hat (by simp only [List.length_nil]; show 0 + (t.txt A).length ≤ _; omega)).mono ?_⟩
    rintro e w' ⟨he, hW', hbt⟩
    exact ⟨he, by have := hW'.bld; simpa using this, hW'.below⟩
  obtain ⟨nf, hnf⟩ : ∃ z, z = A.fs.length := ⟨_, rfl⟩
  obtain ⟨nl, hnl⟩ : ∃ z, z = A.ls.length := ⟨_, rfl⟩
  obtain ⟨nm, hnm⟩ : ∃ z, z = q.ms.length := ⟨_, rfl⟩
  rw [← hnf, ← hnl, ← hnm] at hW0 ⊢
  have hz2 : W0.heap.size = w.heap.size + 1 + 1 := hz0
  have hz1 : W0.heap.size + 1 = w.heap.size + 1 + 1 + 1 := by omega
  rw [hz1, hz2] at key
  have HZ2 := Lib.hid hz2; have HZ1 := Lib.hid hz1
  clear hz2
  have HK := Lib.hid key; have HW0 := Lib.hid hW0; have HB0 := Lib.hid hB0; have HZ0 := Lib.hid hz0
  clear key hok hW0 hB0 hz0 hz1 hv hqv hA hI hat hsz hlen hnf hnl hnm
  go_enter Tryd.func36, Tryd.ntmps36
  go_wp2_with fail
  rw [← HW0.out]
  (with_reducible refine (HK.out _ ?_ ?_ ?_).2.mono ?_)
  case refine_1 => rw [← HZ2.out]; exact ((Below.refl _ _).alloc (Nat.le_refl _) _).alloc (by simp) _
  case refine_2 =>
    rw [← HZ2.out]
    exact ((((Below.refl (W0.alloc _).heap.size (W0.alloc _)).alloc (Nat.le_refl _) _).block _ (by simp)).trans (hp_new W0 _))
  case refine_3 =>
    have e : w.heap.size + 1 + 1 + 1 = (W0.alloc (.cells #[.pointer none, .slice none 0 0] 101)).heap.size := by rw [← HZ1.out]; simp
    rw [e]
    exact hp_new _ _
  rintro e w4 ⟨rfl, hb, hbl⟩
  have hs4 := hbl.size
  have hz4 := HZ2.out
  have HB := Lib.hid hb; have HBL := Lib.hid (HB0.out.trans (hbl.mono (by omega))); have HS4 := Lib.hid (show w.heap.size + 1 + 1 ≤ w4.heap.size by omega)
  clear hb hbl hs4 hz4 HK HW0
  go_wp2_with fail
  (with_reducible refine (Tryd.Builder_String_any (w.heap.size + 1 + 1) (w.heap.size + 1 + 1) (t.txt A) _ HB.out HS4.out).mono ?_)
  rintro e w5 ⟨rfl, hb5⟩
  have HB5 := Lib.hid (HBL.out.trans (hb5.mono (by omega)))
  clear hb5 HB HBL
  go_wp2_with fail
  go_ret
  exact ⟨rfl, HB5.out⟩
end Go.Proofs.YtmechinlaladiaaDoor
namespace Go.Proofs.YtmechinlaladiaaDoor
open Go.RowKit Go.Lib
@[irreducible] def zbC : Array Value := Array.replicate 256 (.bool false)
theorem zb_list : zbC.toList = List.replicate 256 (.bool false) := by unfold zbC; simp
theorem zb_ne : zbC ≠ #[] := by
  intro h
  have := congrArg Array.toList h
  rw [zb_list] at this
  cases this
theorem zb_value (w : World) : Sem.run Tryd.prog (zeroValue 86) w = Result.ok (.agg zbC) w := by
  have h : (Tryd.prog.info? 86).map (fun i => i.zero) = some (some (.agg (Array.replicate 256 (.bool false)))) := by kernel_rfl
  have e : zbC = Array.replicate 256 (.bool false) := by unfold zbC; rfl
  rw [e]
  cases hi : Tryd.prog.info? 86 with
  | none => rw [hi] at h; cases h
  | some i =>
    rw [hi] at h
    simp only [Option.map_some, Option.some.injEq] at h
    simp [zeroValue, typeInfo, hi, h]
end Go.Proofs.YtmechinlaladiaaDoor
namespace Go.Proofs.YtmechinlaladiaaDoor
open Go.RowKit Go.Lib
set_option linter.unusedVariables false

theorem zb_at (x : Nat) (hx : x < 256) : zbC[x]? = some (.bool false) := by
  rw [← Array.getElem?_toList, zb_list, List.getElem?_replicate, if_pos hx]
/-- What the program has seen of kids. -/
def KdIn (M : Nat) (l : List Nat) (w : World) : Prop := M < w.heap.size ∧ (∀ x, x < 256 → w.cell? ⟨M, x, none⟩ = some (.bool (decide (x ∈ l)))) ∧ ∀ x, x < 256 → w.frozen? ⟨M, x, none⟩ = false
theorem KdIn.next {M : Nat} {l : List Nat} {w w' : World} (h : KdIn M l w) (hb : Below w.heap.size w w') : KdIn M l w' :=
  ⟨Nat.lt_of_lt_of_le h.1 hb.size, fun j hj => (hb.cell (p := ⟨M, j, none⟩) h.1).trans (h.2.1 j hj), fun j hj => (hb.frozen (p := ⟨M, j, none⟩) h.1).trans (h.2.2 j hj)⟩
theorem KdIn.made (w : World) : KdIn w.heap.size [] (w.alloc (.cells zbC 86)) := by
  refine ⟨by simp, fun j hj => ?_, fun j hj => by simp⟩
  have := zb_at j hj
  simp [this]
theorem KdIn.set {M k : Nat} {l : List Nat} {w : World} (h : KdIn M l w) (hk : k < 256) : KdIn M (l ++ [k]) (w.setCell ⟨M, k, none⟩ (.bool true)) := by
  refine ⟨by simpa using h.1, fun j hj => ?_, fun j hj => by rw [World.frozen?_setCell]; exact h.2.2 j hj⟩
  by_cases e : j = k
  · subst e
    rw [World.cell?_setCell_same _ _ _ (h.2.1 j hj)]
    simp
  · rw [World.cell?_setCell_other _ _ _ _ (fun h => e (by injection h with _ h2; exact h2.symm)), h.2.1 j hj]
    simp [e]
theorem pK_len {ns : List Nd} {i t : Nat} (h : PreT ns i t) : (pK ns i t).length ≤ ns.length := nodup_le _ _ h.once (fun x hx => (h.lt x hx).2)
set_option maxHeartbeats 4000000 in
set_option maxRecDepth 100000 in
theorem isTree_any (pn : Option Addr) (bn n0 c : Nat) (ms : List NdM) (w : World) (h : NsIn pn bn n0 ms w) (B : Bool) (hBT : B = true ↔ IsTree (nds ms)) : Calls Tryd.prog 22 #[.agg #[.slice pn ms.length c]] w fun e w' => e = .returned (.bool B) ∧ Below w.heap.size w w' := by
  have hl := nds_length ms
  obtain ⟨n, hn⟩ : ∃ n, n = ms.length := ⟨_, rfl⟩
  obtain ⟨ns, hns⟩ : ∃ ns, ns = nds ms := ⟨_, rfl⟩
  have hnd : ∀ j, j < ms.length → ns[j]? = some (ms.getD j default).nd := fun j hj => by
    rw [hns, ← nds_at ms j hj]; exact List.getElem?_eq_getElem _
  have hbig := h.big
  rw [← hns] at hl hBT
  rw [← hn] at hl hnd hbig ⊢
  have HN := Lib.hid h; have HND := Lib.hid hnd; have HL := Lib.hid hl; have HLN := Lib.hid hn
  have HB := Lib.hid (show Below w.heap.size w (w.alloc (.cells #[.slice pn n c] 24)) from (Below.refl _ _).alloc (Nat.le_refl _) _)
  clear h hnd hns hn
  by_cases h1 : n < 1
  · have hno : ¬ IsTree ns := fun t => by have := t.one; omega
    clear hl
    obtain rfl : n = 0 := by omega
    obtain rfl : B = false := by cases B with | false => rfl | true => exact absurd (hBT.1 rfl) hno
    clear hno hBT
    go_enter Tryd.func22, Tryd.ntmps22
    go_wp2_with fail
    go_ret
    exact ⟨rfl, HB.out⟩
  by_cases h2 : 256 < n
  · have hno : ¬ IsTree ns := fun t => by have := t.most; omega
    clear hl
    obtain rfl : B = false := by cases B with | false => rfl | true => exact absurd (hBT.1 rfl) hno
    have a1 : ¬ (n : Int) < 1 := by omega
    have a2 : (256 : Int) < (n : Int) := by omega
    clear hno hBT
    go_enter Tryd.func22, Tryd.ntmps22
    go_wp2_with fail
    go_ret
    exact ⟨rfl, HB.out⟩
  clear hl
  have a1 : ¬ (n : Int) < 1 := by omega
  have a2 : ¬ (256 : Int) < (n : Int) := by omega
  have zne := zb_ne
  have zva := zb_value
  go_enter Tryd.func22, Tryd.ntmps22
  go_wp2_with fail
  clear zne zva
  have HK := Lib.hid (KdIn.made (w.alloc (.cells #[.slice pn n c] 24)))
  have HB2 := Lib.hid (HB.out.alloc (by simp) (.cells zbC 86))
  have HP := Lib.hid (PreT.start ns)
  have hc0 : ((w.alloc (.cells #[.slice pn n c] 24)).alloc (.cells zbC 86)).cell? ⟨w.heap.size, 0, none⟩ = some (.slice pn n c) := by simp
  have HC := Lib.hid hc0
  have hn256 : n ≤ 256 := by omega
  clear hc0 h1 h2
  go_loopw [4, 22] (fun kv iv wr => ∃ i K : Nat, kv = .int .i64 K ∧ iv = .int .i64 i ∧ i ≤ n ∧ K ≤ n ∧ Hid (K = (pK ns i 0).length) ∧ Hid (PreT ns i 0) ∧ Hid (KdIn (w.heap.size + 1) (pK ns i 0) wr) ∧ Hid (Below w.heap.size w wr) ∧ Hid (wr.cell? ⟨w.heap.size, 0, none⟩ = some (.slice pn n c))) (fun _ iv _ => n - (intOf iv).toNat)
  case atStart => exact ⟨0, 0, rfl, rfl, by omega, by omega, Lib.hid rfl, HP, by have := HK.out; simp only [World.size_alloc] at this; exact Lib.hid this, HB2, HC⟩
  case round =>
    clear HP HK HB2 HC HB
    obtain ⟨i, K, rfl, rfl, hi, hKn, HKL, HP, HK, HB, HC⟩ := hrel
    have c0 := HC.out
    have hi0 : w.heap.size < wr.heap.size := blk_of_cell c0
    by_cases hin : i < n
    · have hpn : pn = some ⟨bn, n0, none⟩ := HN.out.at_ (by have := HLN.out; omega)
      subst hpn
      have hil : i < ms.length := by have := HLN.out; omega
      obtain ⟨m, hm⟩ : ∃ m, m = ms.getD i default := ⟨_, rfl⟩
      have hni := HND.out i hin
      have hok := HN.out.ok i hil
      obtain ⟨b0, b1, b2, b3, b4⟩ := (HN.out.next HB.out).node i hil
      have hkm := (HN.out.next HB.out).kids i hil
      rw [← hm] at hni b0 b1 b2 b3 b4 hkm hok
      have HNI := Lib.hid hni; have HOK := Lib.hid hok; have HKM := Lib.hid hkm
      have HM := Lib.hid hm
      clear hm hni hok hkm
      have ci := fun W => isNode_m m W HOK.out
      unfold NdM.v at ci
      obtain ⟨pk, hpk⟩ : ∃ x, x = m.pk := ⟨_, rfl⟩
      obtain ⟨ck, hck⟩ : ∃ x, x = m.c := ⟨_, rfl⟩
      obtain ⟨ks, hks⟩ : ∃ x, x = m.nd.ks := ⟨_, rfl⟩
      obtain ⟨L, hL⟩ : ∃ x, x = ks.length := ⟨_, rfl⟩
      rw [← hpk, ← hck, ← hks, ← hL] at b4 ci
      have CI := Lib.hid ci
      have HKS := Lib.hid hks; have HLL := Lib.hid hL; have HPK := Lib.hid hpk
      clear ci hpk hck hks hL
      have hA : Below wr.heap.size wr (wr.alloc (.cells #[.int .u8 m.nd.k, .int .i32 m.nd.r, .int .u32 m.nd.p, .int .u32 m.nd.m, .slice pk L ck] 36)) := (Below.refl _ _).alloc (Nat.le_refl _) _
      have hd4 : (wr.alloc (.cells #[.int .u8 m.nd.k, .int .i32 m.nd.r, .int .u32 m.nd.p, .int .u32 m.nd.m, .slice pk L ck] 36)).cell? ⟨wr.heap.size, 4, none⟩ = some (.slice pk L ck) := by simp
      have HA := Lib.hid hA; have HD := Lib.hid hd4
      clear hA hd4
      go_wp2_with fail
      refine (CI.out _).mono ?_
      rintro e w2 ⟨rfl, hb⟩
      have d4 := (hb.cell (p := ⟨wr.heap.size, 4, none⟩) (by simp)).trans HD.out
      have hb2 := HA.out.trans (hb.mono HA.out.size)
      replace HB := Lib.hid (HB.out.trans (hb2.mono HB.out.size))
      replace HK := Lib.hid (HK.out.next hb2)
      replace HC := Lib.hid ((hb2.cell (p := ⟨w.heap.size, 0, none⟩) hi0).trans HC.out)
      clear c0 b0 b1 b2 b3 b4 hb hb2 CI HA HD
      have hin2 : i < ns.length := by have := HL.out; omega
      have hnsi : ns[i] = m.nd := by
        have := HNI.out
        rw [List.getElem?_eq_getElem hin2] at this
        exact Option.some.inj this
      cases hnb : nodeB m.nd with
      | false =>
        obtain rfl : B = false := by
          cases B with
          | false => rfl
          | true => exact absurd (hBT.1 rfl) (no_node hin2 (by rw [hnsi]; exact hnb))
        clear hBT hnsi hnb
        go_wp2_with fail
        go_ret
        exact ⟨rfl, HB.out⟩
      | true =>
        have HNB := Lib.hid hnb; have HNS := Lib.hid hnsi; have HBT := Lib.hid hBT
        have hD := Lib.hid d4
        clear hnb hnsi hBT
        go_wp2_with fail
        go_loopw [4, 33] (fun kv tv wr => ∃ t K : Nat, kv = .int .i64 K ∧ tv = .int .i64 t ∧ t ≤ L ∧ K ≤ n ∧ Hid (K = (pK ns i t).length) ∧ Hid (PreT ns i t) ∧ Hid (KdIn (w.heap.size + 1) (pK ns i t) wr) ∧ Hid (Below w.heap.size w wr) ∧ Hid (wr.cell? ⟨w.heap.size, 0, none⟩ = some (.slice (some ⟨bn, n0, none⟩) n c))) (fun _ tv _ => L - (intOf tv).toNat)
        case atStart => exact ⟨0, K, rfl, rfl, by omega, hKn, HKL, HP, HK, HB, HC⟩
        case round =>
          clear HP HK HB HC d4 hD HKL hKn hi0
          obtain ⟨t, K2, rfl, rfl, ht, hK2, HKL, HP, HK, HB, HC⟩ := hrel
          by_cases htL : t < L
          · have hkk := (HN.out.next HB.out).kids i hil
            rw [← HM.out] at hkk
            have hLm : t < m.nd.ks.length := by have := HLL.out; rw [HKS.out] at this; omega
            obtain rfl : pk = some ⟨m.bk, m.k0, none⟩ := HPK.out.trans (hkk.at_ (by omega))
            have a0 := hkk.cells t hLm
            obtain ⟨x, hx⟩ : ∃ x, x = m.nd.ks.getD t 0 := ⟨_, rfl⟩
            rw [← hx] at a0
            have htn : t < ns[i].ks.length := by rw [HNS.out]; exact hLm
            have hkt : ns[i].ks[t] = x := by
              have e : ∀ (l : List Int) (h : t < l.length), l = m.nd.ks → l[t] = x := fun l h e => by
                subst e
                rw [hx, List.getD_eq_getElem?_getD, List.getElem?_eq_getElem h]; rfl
              exact e _ htn (by rw [HNS.out])
            have hbx := hkk.bits x (by rw [hx, List.getD_eq_getElem?_getD, List.getElem?_eq_getElem hLm]; exact List.getElem_mem hLm)
            have hBf : ¬ IsTree ns → B = false := fun h => by
              cases hB : B with
              | false => rfl
              | true => exact absurd (HBT.out.1 hB) h
            have HKK := Lib.hid hkk
            have c0 := HC.out
            have hLn := HL.out
            have HT1 := Lib.hid (show t + 1 ≤ L from htL)
            have hLbig : L ≤ 140737488355328 := by
              have h1 := hkk.big
              have h2 := HLL.out
              rw [HKS.out] at h2
              omega
            clear hkk hx
            by_cases hx1 : x ≤ (i : Int)
            · obtain rfl : B = false := hBf (no_kid hin2 htn (Or.inl (by rw [hkt]; exact hx1)))
              clear hBf hkt
              go_wp2_with fail
              go_ret
              exact ⟨rfl, HB.out⟩
            by_cases hx2 : (n : Int) ≤ x
            · obtain rfl : B = false := hBf (no_kid hin2 htn (Or.inr (by rw [hkt, hLn]; exact hx2)))
              clear hBf hkt
              go_wp2_with fail
              go_ret
              exact ⟨rfl, HB.out⟩
            obtain ⟨y, rfl⟩ : ∃ y : Nat, x = (y : Int) := ⟨x.toNat, by omega⟩
            have hy256 : y < 256 := by omega
            have e0 := HK.out.2.1 y hy256
            have f0 := HK.out.2.2 y hy256
            by_cases hy : y ∈ pK ns i t
            · rw [decide_eq_true hy] at e0
              obtain rfl : B = false := hBf (no_twice hin2 htn (by rw [hkt]; exact hy))
              clear hBf hkt hy
              go_wp2_with fail
              go_ret
              exact ⟨rfl, HB.out⟩
            · rw [decide_eq_false hy] at e0
              have HNX := Lib.hid (HP.out.kid hin2 htn (by rw [hkt]; omega) (by rw [hkt]; omega) (by rw [hkt]; exact hy))
              have hsn : pK ns i (t + 1) = pK ns i t ++ [y] := by
                have hks : kidsN ns i = (ns[i].ks).map Int.toNat := kidsN_at hin2
                have htk : t < (kidsN ns i).length := by rw [hks, List.length_map]; exact htn
                rw [pK_snoc htk]
                have : (kidsN ns i)[t] = y := by
                  have e : ∀ (l : List Nat) (h : t < l.length), l = (ns[i].ks).map Int.toNat → l[t] = y := fun l h e => by
                    subst e
                    rw [List.getElem_map, hkt]; rfl
                  exact e _ htk hks
                rw [this]
              have HSN := Lib.hid hsn
              have hlen : (pK ns i (t + 1)).length ≤ n := by have := pK_len HNX.out; omega
              rw [hsn, List.length_append, ← HKL.out] at hlen
              have hlen2 : K2 + 1 ≤ n := hlen
              clear hBf hkt hy hsn hlen
              go_wp2_with fail
              go_roundw
              case rel =>
                refine ⟨t + 1, K2 + 1, by go_num, by go_num, HT1.out, hlen2, Lib.hid ?_, HNX, Lib.hid ?_, HB.out.setCell (p := ⟨w.heap.size + 1, y, none⟩) (Nat.le_succ _) _, Lib.hid ?_⟩
                · rw [HSN.out, List.length_append, ← HKL.out]; rfl
                · rw [HSN.out]; exact HK.out.set hy256
                · exact (World.cell?_setCell_other _ _ _ _ (by simp)).trans HC.out
              case measure =>
                have := HT1.out
                simp [intOf]; omega
          · obtain rfl : t = L := by omega
            go_wp2_with fail
            have hpn : pK ns i t = pK ns (i + 1) 0 := pK_next t (by rw [kidsN_at hin2, List.length_map, HNS.out, ← HKS.out, ← HLL.out]; exact Nat.le_refl _)
            have hnx := HP.out.next hin2 (by rw [HNS.out]; exact HNB.out) (by rw [HNS.out, ← HKS.out, ← HLL.out]; exact Nat.le_refl _)
            exact ⟨⟨i + 1, K2, rfl, by go_num, by omega, hK2, Lib.hid (by rw [← hpn]; exact HKL.out), Lib.hid hnx, Lib.hid (by rw [← hpn]; exact HK.out), HB, HC⟩, by simp [intOf]; omega⟩
    · obtain rfl : i = n := by omega
      have hall := pre_all (ns := ns) (by rw [HL.out]; exact HP.out) (by rw [HL.out]; omega) (by rw [HL.out]; omega)
      rw [HL.out, ← HKL.out] at hall
      obtain ⟨b, hb⟩ : ∃ b, b = decide (K = i - 1) := ⟨_, rfl⟩
      have hBb : B = b := by
        rw [hb, Bool.eq_iff_iff, decide_eq_true_iff]
        exact hBT.trans hall
      subst hBb
      have HBV := Lib.hid hb
      clear hb hall hBT
      have hfin : ((K : Int) == (i : Int) - 1) = B := by
        rw [HBV.out, Bool.eq_iff_iff, beq_iff_eq, decide_eq_true_iff]
        omega
      have HF := Lib.hid hfin
      clear hfin
      go_wp2_with fail
      go_ret
      exact ⟨by rw [← HF.out]; rfl, HB.out⟩
end Go.Proofs.YtmechinlaladiaaDoor
