/-
  WALKS: cognatelaw02.twin: an alphabet of one's own.
-/
import Derived.Test.YtmbekgfbnapelaaRfH
import Derived.Laws.AppendOwnNone
import Derived.Maps.AppendAt
import Derived.Deep.AppendLies
import Derived.Deep.RegionHeld3
namespace Go.Proofs.Ytmbekgfbnapelaa
open Go.RowKit Go.Lib
set_option linter.unusedVariables false

/-- append of what came in onto nothing: a row of the call's own. -/
theorem step_copy {P : Program} {w : World} {ops : Array Oper} {o : Oper} {a : Act} {K : Act → World → Prop} {Q : Exit → Act → World → Prop} {E : Prop} (hgd : o.guard = none) (s x : Operand) (t : TypeId)
    (ho : o.op = .call { callee := .builtin .append, args := #[s, x], argTypes := #[t, t] })
    (base : Nat) (e : TypeId) (i : TypeInfo) (z : Value) (size bytes : Nat) (ht : P.underlying t = some (.slice e)) (hi : P.info? e = some i) (hz : i.zero = some z)
    (hsize : i.size = size) (hby : i.bytes = bytes) (hzs : z.cells.size = size) (hsz : 0 < size)
    (hs : a.eval s = .slice none 0 0) (px : Option Addr) (m c : Nat) (news : List Value) (hx : a.eval x = .slice px m c) (hl : news.length = m * size) (h0 : px = none → m = 0 ∧ c = 0)
    (hnews : ∀ ad, px = some ad → ∀ j u, news[j]? = some u → w.cell? (ad.add j) = some u) (h1 : ∀ u ∈ news, u.oneCell' = true)
    (h63 : m ≤ maxLen) (hbytes : m * bytes ≤ 140737488355328) (hbase : base ≤ w.heap.size)
    (h : ∀ v' w', w'.ownsRow base e size v' m news → w.grownBy w' none → K (a.put o.dst v') w') :
    if Region.wanted o (yielded ops a.tmps) = true then Oper.wp P o a w K Q else E := by
  have hw : Region.wanted o (yielded ops a.tmps) = true := by simp [Region.wanted, hgd]
  rw [if_pos hw]
  have hnil : w.ownsRow base e size (.slice none 0 0) 0 [] := World.ownsRow_nil _ _ _ _
  have hr : ∃ v' w', (Builtin.append_ #[t, t] o.type #[.slice none 0 0, .slice px m c]).run P w = .ok v' w' ∧ w'.ownsRow base e size v' m news ∧ w.grownBy w' none := by
    cases px with
    | none =>
      obtain ⟨rfl, rfl⟩ := h0 rfl
      obtain rfl : news = [] := List.eq_nil_of_length_eq_zero (by rw [hl, Nat.zero_mul])
      exact ⟨_, w, run_append_owned_none (P := P) (w := w) base t o.type e i size ht hi _ 0 [] hnil, hnil, ⟨rfl, rfl, rfl, Nat.le_refl _, fun _ _ _ => rfl⟩⟩
    | some ad =>
      obtain ⟨v', w', hr, h2, h3, _⟩ := run_append_own_at (P := P) w base t o.type e i z size bytes ht hi hz hsize hby hzs hsz _ 0 [] hnil ad m c news hl (hnews ad rfl) h1 (by omega) (by rw [Nat.zero_add]; exact hbytes) hbase
      rw [Nat.zero_add, List.nil_append] at h2
      exact ⟨v', w', hr, h2, h3⟩
  obtain ⟨v', w', hr, h2, h3⟩ := hr
  unfold Oper.wp execOp
  simp only [ho, resolve, invoke, builtin, Sem.run_bind, Sem.run_pure, Result.andThen_ok, List.map_toArray, List.map_cons, List.map_nil, hs, hx, hr]
  exact h v' w' h2 h3

/-- An alphabet that came in, with what appends of it want. -/
structure AlX (A : Al) (w : World) : Prop where
  i : A.In w
  nilF : A.pf = none → A.fs.length = 0 ∧ A.cf = 0
  nilL : A.pl = none → A.ls.length = 0 ∧ A.cl = 0
  roomF : A.fs.length * 16 ≤ 140737488355328
  roomL : A.ls.length * 12 ≤ 140737488355328
theorem AlX.next {A : Al} {w w' : World} (h : AlX A w) (hb : Below w.heap.size w w') : AlX A w' := ⟨h.i.next hb, h.nilF, h.nilL, h.roomF, h.roomL⟩
def lsC (ls : List Ltr) : List Value := ls.flatMap fun l => [.int .i32 l.r, .int .u32 l.p, .int .u32 l.m]
theorem lsC_length : ∀ ls : List Ltr, (lsC ls).length = ls.length * 3
  | [] => rfl
  | l :: ls => by
    have ih := lsC_length ls
    unfold lsC at ih ⊢
    rw [List.flatMap_cons, List.length_append, ih]
    simp; omega
theorem lsC_at : ∀ (ls : List Ltr) (j : Nat), j < ls.length → (lsC ls)[j * 3]? = some (.int .i32 (ls.getD j default).r) ∧ (lsC ls)[j * 3 + 1]? = some (.int .u32 (ls.getD j default).p) ∧ (lsC ls)[j * 3 + 2]? = some (.int .u32 (ls.getD j default).m)
  | l :: ls, 0, _ => ⟨rfl, rfl, rfl⟩
  | l :: ls, j + 1, h => by
    have ih := lsC_at ls j (by simpa using h)
    have e : ∀ i, (lsC (l :: ls))[i + 3]? = (lsC ls)[i]? := fun i => rfl
    rw [show (j + 1) * 3 = j * 3 + 3 by omega, e, show j * 3 + 3 + 1 = j * 3 + 1 + 3 by omega, e, show j * 3 + 3 + 2 = j * 3 + 2 + 3 by omega, e]
    exact ih
theorem lsC_one : ∀ (ls : List Ltr) (u : Value), u ∈ lsC ls → u.oneCell' = true := fun ls u hu => by
  obtain ⟨l, _, hl⟩ := List.mem_flatMap.1 hu
  simp at hl
  rcases hl with rfl | rfl | rfl <;> rfl
theorem LsIn.cell {pl : Option Addr} {bl l0 : Nat} {ls : List Ltr} {w : World} (h : LsIn pl bl l0 ls w) : ∀ i u, (lsC ls)[i]? = some u → w.cell? ⟨bl, l0 + i, none⟩ = some u := by
  intro i u hu
  have hi : i < ls.length * 3 := by
    have := (List.getElem?_eq_some_iff.1 hu).1
    rw [lsC_length] at this; exact this
  obtain ⟨j, hj⟩ : ∃ j, j = i / 3 := ⟨_, rfl⟩
  have hjl : j < ls.length := by omega
  have hc := lsC_at ls j hjl
  have hm : i = j * 3 ∨ i = j * 3 + 1 ∨ i = j * 3 + 2 := by omega
  rcases hm with rfl | rfl | rfl
  · rw [hc.1] at hu; rw [h.cr j hjl]; exact hu
  · rw [hc.2.1] at hu; rw [show l0 + (j * 3 + 1) = l0 + j * 3 + 1 by omega, h.cp j hjl]; exact hu
  · rw [hc.2.2] at hu; rw [show l0 + (j * 3 + 2) = l0 + j * 3 + 2 by omega, h.cm j hjl]; exact hu
theorem own_fs {w : World} {B : Nat} {v : Value} {fs : List ByteArray} (h : w.ownsRow B 9 1 v fs.length (fs.map Value.string)) (hb : fs.length ≤ 140737488355328) (hsm : ∀ j, j < fs.length → (fs.getD j ByteArray.empty).size ≤ 140737488355328) : ∃ pf bf cf, v = .slice pf fs.length cf ∧ FsIn pf bf 0 cf fs w := by
  rcases h.2 with ⟨rfl, hn⟩ | ⟨g, cap, cur, rfl, _, _, hc, _⟩
  · exact ⟨none, 0, 0, by rw [hn], ⟨fun h => absurd h (by omega), fun j hj => absurd hj (by omega), by omega, hb, hsm⟩⟩
  · refine ⟨_, g, cap, rfl, ⟨fun _ => rfl, fun j hj => ?_, hc, hb, hsm⟩⟩
    rw [Nat.zero_add, h.cellAt j (by omega), List.getElem?_map, List.getD_eq_getElem?_getD, List.getElem?_eq_getElem hj]
    rfl
theorem own_ls {w : World} {B : Nat} {v : Value} {ls : List Ltr} (h : w.ownsRow B 35 3 v ls.length (lsC ls)) (hb : ls.length ≤ 140737488355328) (hbits : ∀ l ∈ ls, l.p < 4294967296 ∧ l.m < 4294967296 ∧ -2147483648 ≤ l.r ∧ l.r ≤ 2147483647) : ∃ pl bl cl, v = .slice pl ls.length cl ∧ LsIn pl bl 0 ls w := by
  rcases h.2 with ⟨rfl, hn⟩ | ⟨g, cap, cur, rfl, _, _, hc, _⟩
  · exact ⟨none, 0, 0, by rw [hn], ⟨fun h => absurd h (by omega), fun j hj => absurd hj (by omega), fun j hj => absurd hj (by omega), fun j hj => absurd hj (by omega), hb, hbits⟩⟩
  · have hc := fun i (hi : i < ls.length * 3) => h.cellAt i hi
    refine ⟨_, g, cap, rfl, ⟨fun _ => rfl, fun j hj => ?_, fun j hj => ?_, fun j hj => ?_, hb, hbits⟩⟩
    · rw [Nat.zero_add, hc _ (by omega)]; exact (lsC_at ls j hj).1
    · rw [Nat.zero_add, hc _ (by omega)]; exact (lsC_at ls j hj).2.1
    · rw [Nat.zero_add, hc _ (by omega)]; exact (lsC_at ls j hj).2.2
theorem ltr_info : (Try.prog.info? 35).map (fun i => (i.zero, i.size, i.bytes)) = some (some (.agg #[.int .i32 0, .int .u32 0, .int .u32 0]), 3, 12) := by kernel_rfl
theorem str_info2 : (Try.prog.info? 9).map (fun i => (i.zero, i.size, i.bytes)) = some (some (.string ByteArray.empty), 1, 16) := by kernel_rfl

theorem cell_set2 (w : World) (b c o : Nat) (x y v : Value) (hne : c ≠ b) (h : w.cell? ⟨c, o, none⟩ = some v) : ((w.setCell ⟨b, 0, none⟩ x).setCell ⟨b, 1, none⟩ y).cell? ⟨c, o, none⟩ = some v := by
  have e : ((w.setCell ⟨b, 0, none⟩ x).setCell ⟨b, 1, none⟩ y).heap[c]? = w.heap[c]? := by
    rw [Below.heap_setCell _ _ _ _ hne, Below.heap_setCell _ _ _ _ hne]
  exact (World.cell?_of_block (a := ⟨c, o, none⟩) e).trans h
theorem below_g {w w' : World} (h : w.grownBy w' none) : Below w.heap.size w w' := (Below.refl _ _).grown h (Nat.le_refl _) (fun k hk => by cases hk)
def TwinPost (A : Al) (w : World) (e : Ending) (w' : World) : Prop := ∃ A' : Al, e = .returned A'.v ∧ A'.fs = A.fs ∧ A'.ls = A.ls ∧ A'.In w' ∧ Below w.heap.size w w'
set_option maxHeartbeats 8000000 in
set_option maxRecDepth 100000 in
theorem twin_any (A : Al) (w : World) (hA : AlX A w) : Calls Try.prog 11 #[A.v] w (TwinPost A w) := by
  have hFsm := hA.i.F.small
  have hFb := hA.i.F.big
  have hLb := hA.i.L.big
  have hLbits := hA.i.L.bits
  have hrF := hA.roomF
  have hrL := hA.roomL
  have hnF := hA.nilF
  have hnL := hA.nilL
  have hReadF : ∀ W, Below w.heap.size w W → ∀ ad, A.pf = some ad → ∀ j u, (A.fs.map Value.string)[j]? = some u → W.cell? (ad.add j) = some u := fun W hb ad had j u hu => by
    have hj : j < A.fs.length := by simpa using (List.getElem?_eq_some_iff.1 hu).1
    have := (hA.i.F.next hb).at_ (by omega)
    rw [had] at this
    cases this
    rw [show (⟨A.bf, A.f0, none⟩ : Addr).add j = ⟨A.bf, A.f0 + j, none⟩ from by simp [Addr.add], (hA.i.F.next hb).cells j hj, ← hu, List.getElem?_map, List.getD_eq_getElem?_getD, List.getElem?_eq_getElem hj]
    rfl
  have hReadL : ∀ W, Below w.heap.size w W → ∀ ad, A.pl = some ad → ∀ j u, (lsC A.ls)[j]? = some u → W.cell? (ad.add j) = some u := fun W hb ad had j u hu => by
    have hj : j < A.ls.length * 3 := by
      have := (List.getElem?_eq_some_iff.1 hu).1
      rw [lsC_length] at this; exact this
    have := (hA.i.L.next hb).at_ (by omega)
    rw [had] at this
    cases this
    rw [show (⟨A.bl, A.l0, none⟩ : Addr).add j = ⟨A.bl, A.l0 + j, none⟩ from by simp [Addr.add]]
    exact (hA.i.L.next hb).cell j u hu
  have hv : A.v = .agg #[.slice A.pf A.fs.length A.cf, .slice A.pl A.ls.length A.cl] := rfl
  have hfin : ∀ (B : Nat) (vf vl : Value) (W : World), W.ownsRow B 9 1 vf A.fs.length (A.fs.map Value.string) → W.ownsRow B 35 3 vl A.ls.length (lsC A.ls) → ∃ A' : Al, A'.v = .agg #[vf, vl] ∧ A'.fs = A.fs ∧ A'.ls = A.ls ∧ A'.In W := fun B vf vl W h1 h2 => by
    obtain ⟨pf, bf, cf, rfl, hF⟩ := own_fs h1 hFb hFsm
    obtain ⟨pl, bl, cl, rfl, hL⟩ := own_ls h2 hLb hLbits
    exact ⟨⟨pf, bf, 0, cf, A.fs, pl, bl, 0, cl, A.ls⟩, rfl, rfl, rfl, ⟨hF, hL⟩⟩
  have h1f : ∀ u ∈ A.fs.map Value.string, u.oneCell' = true := fun u hu => by obtain ⟨t, _, rfl⟩ := List.mem_map.1 hu; rfl
  have h1l := lsC_one A.ls
  have hlf : (A.fs.map Value.string).length = A.fs.length * 1 := by simp
  have hll := lsC_length A.ls
  unfold TwinPost
  rw [hv]
  obtain ⟨CF, hCF⟩ : ∃ x, x = A.fs.map Value.string := ⟨_, rfl⟩
  obtain ⟨CL, hCL⟩ : ∃ x, x = lsC A.ls := ⟨_, rfl⟩
  rw [← hCF] at hReadF hfin h1f hlf
  rw [← hCL] at hReadL hfin h1l hll
  obtain ⟨nf, hnf⟩ : ∃ x, x = A.fs.length := ⟨_, rfl⟩
  obtain ⟨nl, hnl⟩ : ∃ x, x = A.ls.length := ⟨_, rfl⟩
  obtain ⟨pf, hpf⟩ : ∃ x, x = A.pf := ⟨_, rfl⟩
  obtain ⟨pl, hpl⟩ : ∃ x, x = A.pl := ⟨_, rfl⟩
  obtain ⟨cf, hcf⟩ : ∃ x, x = A.cf := ⟨_, rfl⟩
  obtain ⟨cl, hcl⟩ : ∃ x, x = A.cl := ⟨_, rfl⟩
  rw [← hnf] at hFb hrF hnF hfin hlf ⊢
  rw [← hnl] at hLb hrL hnL hfin hll ⊢
  rw [← hpf] at hnF hReadF ⊢
  rw [← hpl] at hnL hReadL ⊢
  rw [← hcf] at hnF ⊢
  rw [← hcl] at hnL ⊢
  obtain ⟨i0, hi, hz0, hz1, hz2⟩ := info_parts str_info2
  obtain ⟨i1, ji, jz0, jz1, jz2⟩ := info_parts ltr_info
  have HI0 := Lib.hid hi; have HZ0 := Lib.hid hz0; have HZ1 := Lib.hid hz1; have HZ2 := Lib.hid hz2
  have JI0 := Lib.hid ji; have JZ0 := Lib.hid jz0; have JZ1 := Lib.hid jz1; have JZ2 := Lib.hid jz2
  have RF := Lib.hid hReadF; have RL := Lib.hid hReadL; have HFIN := Lib.hid hfin; have NF := Lib.hid hnF; have NL := Lib.hid hnL; have O1 := Lib.hid h1f; have O2 := Lib.hid h1l; have LF := Lib.hid hlf; have LL := Lib.hid hll
  clear hFsm hLbits hnF hnL hReadF hReadL hv hfin h1f h1l hlf hll hCF hCL hnf hnl hpf hpl hcf hcl hi hz0 hz1 hz2 ji jz0 jz1 jz2 hA
  go_enter Try.func11, Try.ntmps11
  go_wp2_with fail
  have hBW : Below w.heap.size w ((w.alloc (.cells #[.slice pf nf cf, .slice pl nl cl] 26)).alloc (.cells #[.slice none 0 0, .slice none 0 0] 26)) := ((Below.refl _ _).alloc (Nat.le_refl _) _).alloc (by simp) _
  have c0 : ((w.alloc (.cells #[.slice pf nf cf, .slice pl nl cl] 26)).alloc (.cells #[.slice none 0 0, .slice none 0 0] 26)).cell? ⟨w.heap.size, 0, none⟩ = some (.slice pf nf cf) := by simp
  have c1 : ((w.alloc (.cells #[.slice pf nf cf, .slice pl nl cl] 26)).alloc (.cells #[.slice none 0 0, .slice none 0 0] 26)).cell? ⟨w.heap.size, 1, none⟩ = some (.slice pl nl cl) := by simp
  obtain ⟨d0, d1, f0, f1⟩ : ((w.alloc (.cells #[.slice pf nf cf, .slice pl nl cl] 26)).alloc (.cells #[.slice none 0 0, .slice none 0 0] 26)).cell? ⟨w.heap.size + 1, 0, none⟩ = some (.slice none 0 0) ∧ ((w.alloc (.cells #[.slice pf nf cf, .slice pl nl cl] 26)).alloc (.cells #[.slice none 0 0, .slice none 0 0] 26)).cell? ⟨w.heap.size + 1, 1, none⟩ = some (.slice none 0 0) ∧
      ((w.alloc (.cells #[.slice pf nf cf, .slice pl nl cl] 26)).alloc (.cells #[.slice none 0 0, .slice none 0 0] 26)).frozen? ⟨w.heap.size + 1, 0, none⟩ = false ∧ ((w.alloc (.cells #[.slice pf nf cf, .slice pl nl cl] 26)).alloc (.cells #[.slice none 0 0, .slice none 0 0] 26)).frozen? ⟨w.heap.size + 1, 1, none⟩ = false := by simp
  have hz : w.heap.size + 1 < ((w.alloc (.cells #[.slice pf nf cf, .slice pl nl cl] 26)).alloc (.cells #[.slice none 0 0, .slice none 0 0] 26)).heap.size := by simp
  obtain ⟨W0, hW0⟩ : ∃ W, W = ((w.alloc (.cells #[.slice pf nf cf, .slice pl nl cl] 26)).alloc (.cells #[.slice none 0 0, .slice none 0 0] 26)) := ⟨_, rfl⟩
  rw [← hW0] at hBW c0 c1 d0 d1 f0 f1 hz ⊢
  have hz' : w.heap.size < W0.heap.size := by omega
  have HBW := Lib.hid hBW
  have RF' := Lib.hid (fun W (hb : Below W0.heap.size W0 W) => RF.out W (hBW.trans (hb.mono hBW.size)))
  have RL' := Lib.hid (fun W (hb : Below W0.heap.size W0 W) => RL.out W (hBW.trans (hb.mono hBW.size)))
  have D := Lib.hid (fun W (hb : Below W0.heap.size W0 W) => (⟨(hb.cell (p := ⟨w.heap.size + 1, 0, none⟩) hz).trans d0, (hb.cell (p := ⟨w.heap.size + 1, 1, none⟩) hz).trans d1, (hb.frozen (p := ⟨w.heap.size + 1, 0, none⟩) hz).trans f0, (hb.frozen (p := ⟨w.heap.size + 1, 1, none⟩) hz).trans f1, Nat.lt_of_lt_of_le hz hb.size⟩ : W.cell? ⟨w.heap.size + 1, 0, none⟩ = some (.slice none 0 0) ∧ W.cell? ⟨w.heap.size + 1, 1, none⟩ = some (.slice none 0 0) ∧ W.frozen? ⟨w.heap.size + 1, 0, none⟩ = false ∧ W.frozen? ⟨w.heap.size + 1, 1, none⟩ = false ∧ w.heap.size + 1 < W.heap.size))
  have hne1 : w.heap.size ≠ w.heap.size + 1 := by omega
  have hmf : nf ≤ maxLen := by unfold maxLen; omega
  have hml : nl ≤ maxLen := by unfold maxLen; omega
  clear hW0 hBW RF RL d0 d1 f0 f1
  go_region_held3 (fun w' => Below w.heap.size w w' ∧ w'.cell? ⟨w.heap.size, 0, none⟩ = some (.slice pf nf cf) ∧ w'.cell? ⟨w.heap.size, 1, none⟩ = some (.slice pl nl cl)) (first | exact ⟨HBW.out.drew, c0, c1⟩ | exact ⟨HBW.out.trans (hacc.mono HBW.out.size), (hacc.cell (p := ⟨w.heap.size, 0, none⟩) hz').trans c0, (hacc.cell (p := ⟨w.heap.size, 1, none⟩) hz').trans c1⟩ | exact ⟨((HBW.out.trans (hacc.mono HBW.out.size)).setCell (Nat.le_succ _) _).setCell (Nat.le_succ _) _, cell_set2 _ _ _ _ _ _ _ hne1 ((hacc.cell (p := ⟨w.heap.size, 0, none⟩) hz').trans c0), cell_set2 _ _ _ _ _ _ _ hne1 ((hacc.cell (p := ⟨w.heap.size, 1, none⟩) hz').trans c1)⟩) (first
    | (refine step_copy (by rfl) (.tmp 5) (.tmp 7) 23 (by rfl) W0.heap.size 9 i0 (.string ByteArray.empty) 1 16 Try.underlying23 HI0.out HZ0.out HZ1.out HZ2.out rfl (by decide) (by rfl) pf nf cf CF (by rfl) LF.out NF.out (RF'.out _ (by first | exact (Below.refl _ _).drew | exact hacc | exact hacc.drew)) O1.out hmf hrF (by first | exact Nat.le_refl _ | exact hacc.size) ?_; intro vf wf hof hgf; have hacc : Below W0.heap.size W0 wf := (by first | exact hacc.grown hgf hacc.size (fun k hk => by cases hk) | exact hacc.drew.grown hgf hacc.size (fun k hk => by cases hk) | exact ((Below.refl W0.heap.size W0).drew).grown hgf (Nat.le_refl _) (fun k hk => by cases hk)); obtain ⟨of, kf, rfl⟩ := ownF_shape hof; obtain ⟨d0, d1, f0, f1, hzz⟩ := D.out _ hacc)
    | (refine step_copy (by rfl) (.tmp 9) (.tmp 11) 24 (by rfl) W0.heap.size 35 i1 (.agg #[.int .i32 0, .int .u32 0, .int .u32 0]) 3 12 Try.underlying24 JI0.out JZ0.out JZ1.out JZ2.out rfl (by decide) (by rfl) pl nl cl CL (by rfl) LL.out NL.out (RL'.out _ (by first | exact (Below.refl _ _).drew | exact hacc | exact hacc.drew)) O2.out hml hrL (by first | exact Nat.le_refl _ | exact hacc.size) ?_; intro vl wl hol hgl; have hacc : Below W0.heap.size W0 wl := (by first | exact hacc.grown hgl hacc.size (fun k hk => by cases hk) | exact hacc.drew.grown hgl hacc.size (fun k hk => by cases hk) | exact ((Below.refl W0.heap.size W0).drew).grown hgl (Nat.le_refl _) (fun k hk => by cases hk)); obtain ⟨ol, kl, rfl⟩ := ownF_shape hol; obtain ⟨d0, d1, f0, f1, hzz⟩ := D.out _ hacc))
  all_goals
    have hB4 := ((HBW.out.trans (hacc.mono HBW.out.size)).setCell (p := ⟨w.heap.size + 1, 0, none⟩) (Nat.le_succ _) (.slice of nf kf)).setCell (p := ⟨w.heap.size + 1, 1, none⟩) (Nat.le_succ _) (.slice ol nl kl)
    have hz9 : w.heap.size + 1 < W0.heap.size := hz
    have hx : ∃ A' : Al, A'.v = .agg #[.slice of nf kf, .slice ol nl kl] ∧ A'.fs = A.fs ∧ A'.ls = A.ls ∧ A'.In ((wl.setCell ⟨w.heap.size + 1, 0, none⟩ (.slice of nf kf)).setCell ⟨w.heap.size + 1, 1, none⟩ (.slice ol nl kl)) :=
      HFIN.out W0.heap.size (.slice of nf kf) (.slice ol nl kl) _ (ownsRow_setCell_below (ownsRow_setCell_below (ownF_below hof (below_g hgl)) (a := ⟨w.heap.size + 1, 0, none⟩) hz9 (.slice of nf kf)) (a := ⟨w.heap.size + 1, 1, none⟩) hz9 (.slice ol nl kl)) (ownsRow_setCell_below (ownsRow_setCell_below hol (a := ⟨w.heap.size + 1, 0, none⟩) hz9 (.slice of nf kf)) (a := ⟨w.heap.size + 1, 1, none⟩) hz9 (.slice ol nl kl))
    obtain ⟨A', hA', e1, e2, hin⟩ := hx
    have HA' := Lib.hid hA'; have HIN := Lib.hid hin; have HB4 := Lib.hid hB4
    clear hA' hin hB4
    (try go_wp2_with fail)
    refine bodyPost_ret (v := .agg #[.slice of nf kf, .slice ol nl kl]) (by simp [results, Try.results11, go_sem, *]) rfl ?_
    exact ⟨A', by rw [HA'.out], e1, e2, HIN.out, HB4.out⟩
end Go.Proofs.Ytmbekgfbnapelaa
