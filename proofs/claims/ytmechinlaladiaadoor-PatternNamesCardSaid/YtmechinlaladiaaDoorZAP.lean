/-
  WALKS of pattern's reader: next, place, taken, keep.
  WALKS of pattern's reader: slices.IndexFunc at pieces, class.
  unicode/utf8's two tables in a world; DecodeRuneInString of what is left of a text.
  WALKS OF THE PROGRAM's runes.walk, once for each closure that is handed to it (made by program: one text): what the closure keeps, piece by piece, is kept through the whole text.
-/
import Derived.Deep.QuietTactic
import Derived.BigQuiet
import Derived.Lib.OthersKept
import Derived.Lib.RuneCountTail
import Derived.Shelf.Unicode.DecodeSlow
import Derived.Deep.RegionWith
import Derived.Deep.Cut
import Derived.Deep.CutRange
import Derived.Deep.LoopGhost
import Derived.LoopTactic
import Derived.Test.YtmechinlaladiaaDoorZAO
import Derived.Test.YtmechinlaladiaaDoorZAC
import Derived.Test.YtmechinlaladiaaDoorZAN
namespace Go.Proofs.YtmechinlaladiaaDoor
open Go.RowKit Go.Lib
set_option linter.unusedVariables false

theorem starts_most (s : ByteArray) : (starts s).length ≤ s.size := by
  have := startsF_le s s.size 0
  simpa [starts] using this
set_option maxHeartbeats 2000000 in
set_option maxRecDepth 100000 in
theorem next_any (C : RdC) (ok : C.Ok) (a : Nat) (v : Value) (w : World) (h : RdAt C a v w) (ha : a ≤ (starts C.s).length) :
    Calls Tryd.prog 34 #[.pointer (some ⟨C.RB, 0, none⟩)] w fun e w' => e = .returned (.int .i32 (nxR C.s a)) ∧ Below w.heap.size w w' := by
  obtain ⟨pq, g, c, hq, hc, hat, _hg, hcell⟩ := h.piece ok
  clear _hg
  have c5 := h.c5; have c4 := h.c4
  rw [hq] at c4
  have hbig := starts_most C.s
  have hsz := ok.size
  obtain ⟨RB, hRB⟩ : ∃ b, b = C.RB := ⟨_, rfl⟩
  rw [← hRB] at c4 c5 ⊢
  by_cases hk : a < (starts C.s).length
  · obtain ⟨p, hp⟩ : ∃ p, (starts C.s)[a]? = some p := ⟨_, List.getElem?_eq_getElem hk⟩
    obtain rfl : pq = some ⟨g, 0, none⟩ := hat.resolve_left (by omega)
    have cr := (hcell a p hp).1
    have hx : nxR C.s a = dR C.s p := by unfold nxR; rw [hp]
    rw [hx]
    obtain ⟨n, hn⟩ : ∃ n, n = (starts C.s).length := ⟨_, rfl⟩
    obtain ⟨x, hxx⟩ : ∃ x, x = dR C.s p := ⟨_, rfl⟩
    rw [← hn] at hk c4 hbig hc
    rw [← hxx] at cr ⊢
    have h1 : ((a : Int) == (n : Int)) = false := by simp; omega
    have h2 : (a : Int) < (n : Int) := by omega
    clear h hq hat hcell hRB hp hx hn hxx ha
    go_enter Tryd.func34, Tryd.ntmps34
    go_wp2_with fail
    go_quiet (fail)
    go_wp2_with fail
    go_quiet (fail)
    go_wp2_with fail
    go_ret
    exact ⟨rfl, below_drewN (below_drewN (Below.refl _ _) _) _⟩
  · obtain rfl : a = (starts C.s).length := by omega
    rw [nxR_end hk]
    obtain ⟨n, hn⟩ : ∃ n, n = (starts C.s).length := ⟨_, rfl⟩
    rw [← hn] at c4 c5 hbig
    have h1 : ((n : Int) == (n : Int)) = true := by simp
    clear h hq hat hcell hRB hn ha hk hc
    go_enter Tryd.func34, Tryd.ntmps34
    go_wp2_with fail
    go_quiet (fail)
    go_wp2_with fail
    go_ret
    exact ⟨rfl, below_drewN (Below.refl _ _) _⟩
set_option maxHeartbeats 2000000 in
set_option maxRecDepth 100000 in
theorem place_any (C : RdC) (ok : C.Ok) (a : Nat) (v : Value) (w : World) (h : RdAt C a v w) (ha : a ≤ (starts C.s).length) :
    Calls Tryd.prog 16 #[.pointer (some ⟨C.RB, 0, none⟩)] w fun e w' => e = .returned (.int .i64 (plR C.s a)) ∧ Below w.heap.size w w' := by
  obtain ⟨pq, g, c, hq, hc, hat, _hg, hcell⟩ := h.piece ok
  clear _hg
  have c5 := h.c5; have c4 := h.c4; have c3 := h.c3
  rw [hq] at c4
  have hbig := starts_most C.s
  have hsz := ok.size
  obtain ⟨RB, hRB⟩ : ∃ b, b = C.RB := ⟨_, rfl⟩
  rw [← hRB] at c3 c4 c5 ⊢
  by_cases hk : a < (starts C.s).length
  · obtain ⟨p, hp⟩ : ∃ p, (starts C.s)[a]? = some p := ⟨_, List.getElem?_eq_getElem hk⟩
    obtain rfl : pq = some ⟨g, 0, none⟩ := hat.resolve_left (by omega)
    have cr := (hcell a p hp).2.1
    have hx : plR C.s a = p := by unfold plR; rw [List.getD_eq_getElem?_getD, hp]; rfl
    rw [hx]
    obtain ⟨n, hn⟩ : ∃ n, n = (starts C.s).length := ⟨_, rfl⟩
    rw [← hn] at hk c4 hbig hc
    have h1 : ((a : Int) == (n : Int)) = false := by simp; omega
    have h2 : (a : Int) < (n : Int) := by omega
    clear h hq hat hcell hRB hp hx hn ha c3
    go_enter Tryd.func16, Tryd.ntmps16
    go_wp2_with fail
    go_quiet (fail)
    go_wp2_with fail
    go_quiet (fail)
    go_wp2_with fail
    go_ret
    exact ⟨rfl, below_drewN (below_drewN (Below.refl _ _) _) _⟩
  · obtain rfl : a = (starts C.s).length := by omega
    have hx : plR C.s (starts C.s).length = C.s.size := by unfold plR; rw [List.getD_eq_getElem?_getD, List.getElem?_eq_none (Nat.le_refl _)]; rfl
    rw [hx]
    obtain ⟨n, hn⟩ : ∃ n, n = (starts C.s).length := ⟨_, rfl⟩
    rw [← hn] at c4 c5 hbig
    have h1 : ((n : Int) == (n : Int)) = true := by simp
    clear h hq hat hcell hRB hn ha hk hc hx
    go_enter Tryd.func16, Tryd.ntmps16
    go_wp2_with fail
    go_quiet (fail)
    go_wp2_with fail
    go_ret
    exact ⟨rfl, below_drewN (Below.refl _ _) _⟩
/-- taken goes on behind the next piece. -/
def TakPost (C : RdC) (a : Nat) (v : Value) (k : Nat) (r : Int) (p m : Nat) (kv : Value) (w : World) (e : Ending) (w' : World) : Prop :=
  e = .returned (.tuple #[.agg #[.int .u8 k, .int .i32 r, .int .u32 p, .int .u32 m, kv], .bool true]) ∧ RdAt C (a + 1) v w' ∧ But (fun q => q = C.RB) w w'
set_option maxHeartbeats 2000000 in
set_option maxRecDepth 100000 in
theorem taken_any (C : RdC) (ok : C.Ok) (a : Nat) (v : Value) (k : Nat) (r : Int) (p m : Nat) (o : Option Addr) (n c : Nat) (w : World) (h : RdAt C a v w) (ha : a < 100000) :
    Calls Tryd.prog 50 #[.pointer (some ⟨C.RB, 0, none⟩), .agg #[.int .u8 k, .int .i32 r, .int .u32 p, .int .u32 m, .slice o n c]] w (TakPost C a v k r p m (.slice o n c) w) := by
  have key : ∀ o1 o2, TakPost C a v k r p m (.slice o n c) w (.returned (.tuple #[.agg #[.int .u8 k, .int .i32 r, .int .u32 p, .int .u32 m, .slice o n c], .bool true])) (((w.setCell ⟨C.RB, 5, none⟩ (.int .i64 ((a : Int) + 1))).alloc o1).alloc o2) := by
    intro o1 o2
    have h1 := h.setAt ok (a + 1)
    have e : (((a + 1 : Nat)) : Int) = (a : Int) + 1 := by omega
    rw [e] at h1
    have hb : Below (w.setCell ⟨C.RB, 5, none⟩ (.int .i64 ((a : Int) + 1))).heap.size (w.setCell ⟨C.RB, 5, none⟩ (.int .i64 ((a : Int) + 1))) (((w.setCell ⟨C.RB, 5, none⟩ (.int .i64 ((a : Int) + 1))).alloc o1).alloc o2) := ((Below.refl _ _).alloc (Nat.le_refl _) _).alloc (by simp) _
    exact ⟨rfl, h1.next ok hb, (((But.refl (fun q => q = C.RB) w).setCell (p := ⟨C.RB, 5, none⟩) (fun _ => rfl) _).alloc _).alloc _⟩
  have c5 := h.c5
  have fz := h.fz 5
  have hl := h.rlt
  have KEY := Lib.hid key
  obtain ⟨RB, hRB⟩ : ∃ b, b = C.RB := ⟨_, rfl⟩
  rw [← hRB] at c5 fz hl KEY ⊢
  clear key h hRB
  go_enter Tryd.func50, Tryd.ntmps50
  go_wp2_with fail
  refine bodyPost_ret (v := .tuple #[.agg #[.int .u8 k, .int .i32 r, .int .u32 p, .int .u32 m, .slice o n c], .bool true]) (by simp [results, Tryd.results50, go_sem, *]) rfl ?_
  exact KEY.out _ _
/-! ### keep -/
/-- keep puts a node behind those that were read. -/
def KepPost (C : RdC) (a : Nat) (v : Value) (ms : List NdM) (M : NdM) (lo : Nat) (w : World) (e : Ending) (w' : World) : Prop :=
  e = .returned (.int .i64 ms.length) ∧ ∃ v', RdAt C a v' w' ∧ RdN C v' (ms ++ [M]) w' ∧ FrK lo M w' ∧ But (fun k => k = C.RB ∨ v.ownBlock = some k) w w' ∧ (v'.ownBlock = v.ownBlock ∨ ∃ b, v'.ownBlock = some b ∧ w.heap.size ≤ b)
theorem kep_fin {C : RdC} (ok : C.Ok) {a : Nat} {v : Value} {ms : List NdM} {M : NdM} {lo : Nat} {w W2 w3 : World} (h : RdAt C a v w) (hn : RdN C v ms w) (hf : Fresh C lo v M w) (hl : ms.length < 70000) (hb : Below w.heap.size w W2)
    {g cap : Nat} (ho : w3.ownsRow C.N 36 5 (.slice (some ⟨g, 0, none⟩) (ms.length + 1) cap) (ms.length + 1) (nsC ms ++ M.vs)) (hg : W2.grownBy w3 v.ownBlock) (hat : v.ownBlock = some g ∨ g = W2.heap.size) :
    w3.cell? ⟨C.RB, 6, none⟩ = some v ∧ w3.frozen? ⟨C.RB, 6, none⟩ = false ∧ C.RB ≠ g ∧ KepPost C a v ms M lo w (.returned (.int .i64 ms.length)) (w3.setCell ⟨C.RB, 6, none⟩ (.slice (some ⟨g, 0, none⟩) (ms.length + 1) cap)) := by
  have h2 := h.next ok hb
  have hn2 := hn.next hb
  have hz := hb.size
  have hrl := h.rlt
  have hvb : ∀ b, v.ownBlock = some b → b < w.heap.size ∧ ¬ C.F b := fun b hb => ⟨(hn.out.own.lt b hb).2, hn.va b hb⟩
  have hB3 : But (fun q => v.ownBlock = some q) W2 w3 := But.of_grown hg (fun k e => e)
  have hB : But (fun q => v.ownBlock = some q) w w3 := (But.of_below (X := fun q => v.ownBlock = some q) hb).trans hB3 (fun i _ e => e)
  have hN : C.N ≤ w.heap.size := by have := h.below.size; rw [ok.hN] at this; exact this
  have h3 : RdAt C a v w3 := h.keep ok hB (fun k e => ⟨(hn.out.own.lt k e).1, (hvb k e).2⟩)
  have hv : ∃ o c, v = .slice o ms.length c := hn.out.len
  have hgF : ¬ C.F g := by
    rcases hat with e | e
    · exact (hvb g e).2
    · have hnl := blk_of_cell h2.cN; have hpl := blk_of_cell h2.cP
      have hr2 := h2.rlt
      intro f
      rcases f with f | f | f <;> omega
  have hgR : C.RB ≠ g := fun e => hgF (Or.inl e.symm)
  have hap : 0 < M.nd.ks.length → ¬ v.ownBlock = some M.bk ∧ ¬ C.F M.bk := hf.ap
  have hks2 := hf.ks.next hb
  have hout3 : OutN C.N C.F (.slice (some ⟨g, 0, none⟩) (ms.length + 1) cap) (ms ++ [M]) w3 := hn2.out.push ho hg (by
    rcases hat with e | e
    · exact Or.inl e.symm
    · exact Or.inr (by rw [e]; rfl)) hks2 hap hf.ok
  refine ⟨h3.c6, h3.fz 6, hgR, rfl, _, h3.setV ok _, (RdN.setR ⟨hout3, fun k e => by cases e; exact hgF⟩ 6 _), ?_, ?_, ?_⟩
  · have hfr2 : FrK lo M W2 := hf.fr.keep (But.of_below (X := fun _ => False) hb) (fun _ e => e)
    have hfr3 : FrK lo M w3 := hfr2.keep hB3 (fun h0 => (hap h0).1)
    exact hfr3.keep ((But.refl (fun k => k = C.RB) w3).setCell (p := ⟨C.RB, 6, none⟩) (fun _ => rfl) _) (fun h0 e => (hap h0).2 (Or.inl e))
  · exact (hB.mono (Y := fun k => k = C.RB ∨ v.ownBlock = some k) (fun i _ e => Or.inr e)).setCell (p := ⟨C.RB, 6, none⟩) (fun _ => Or.inl rfl) _
  · rcases hat with e | e
    · exact Or.inl e.symm
    · exact Or.inr ⟨g, rfl, by omega⟩
set_option maxHeartbeats 4000000 in
set_option maxRecDepth 100000 in
theorem keep_any (C : RdC) (ok : C.Ok) (a : Nat) (v : Value) (ms : List NdM) (M : NdM) (lo : Nat) (w : World) (h : RdAt C a v w) (hn : RdN C v ms w) (hf : Fresh C lo v M w) (hl : ms.length < 70000) :
    Calls Tryd.prog 33 #[.pointer (some ⟨C.RB, 0, none⟩), M.v] w (KepPost C a v ms M lo w) := by
  obtain ⟨ov, cv, hv⟩ := hn.out.len
  obtain ⟨i0, hi, hz0, hz1, hz2⟩ := node_parts
  have hfin := fun W2 w3 (hb : Below w.heap.size w W2) g cap ho hg hat => kep_fin (W2 := W2) (w3 := w3) ok h hn hf hl hb (g := g) (cap := cap) ho hg hat
  have hown := fun W2 (hb : Below w.heap.size w W2) => (hn.next hb).out.own
  have hnN : C.N ≤ w.heap.size := by have := h.below.size; rw [ok.hN] at this; exact this
  have c6 := h.c6
  have hlt := h.rlt
  have hcs : ∀ (W : World), ∀ j u, M.vs[j]? = some u → (W.alloc (.cells #[.int .u8 M.nd.k, .int .i32 M.nd.r, .int .u32 M.nd.p, .int .u32 M.nd.m, .slice M.pk M.nd.ks.length M.c] 36)).cell? ((⟨W.heap.size, 0, none⟩ : Addr).add j) = some u := by
    intro W j u hj
    match j, hj with
    | 0, hj => simp [NdM.vs] at hj; subst hj; simp [Addr.add]
    | 1, hj => simp [NdM.vs] at hj; subst hj; simp [Addr.add]
    | 2, hj => simp [NdM.vs] at hj; subst hj; simp [Addr.add]
    | 3, hj => simp [NdM.vs] at hj; subst hj; simp [Addr.add]
    | 4, hj => simp [NdM.vs] at hj; subst hj; simp [Addr.add]
    | (j + 5), hj => simp [NdM.vs] at hj
  have hv1 : ∀ u ∈ M.vs, u.oneCell' = true := fun u hu => nsC_one [M] u (by rw [nsC_single]; exact hu)
  have hvl : M.vs.length = 1 * 5 := rfl
  obtain ⟨nk, hnk⟩ : ∃ n, n = M.nd.ks.length := ⟨_, rfl⟩
  obtain ⟨pk, hpk⟩ : ∃ n, n = M.pk := ⟨_, rfl⟩
  obtain ⟨nm, hnm⟩ : ∃ n, n = ms.length := ⟨_, rfl⟩
  obtain ⟨RB, hRB⟩ : ∃ b, b = C.RB := ⟨_, rfl⟩
  obtain ⟨N, hN⟩ : ∃ b, b = C.N := ⟨_, rfl⟩
  obtain ⟨mv, hmv⟩ : ∃ b, b = M.vs := ⟨_, rfl⟩
  have hMv : M.v = .agg #[.int .u8 M.nd.k, .int .i32 M.nd.r, .int .u32 M.nd.p, .int .u32 M.nd.m, .slice pk nk M.c] := by rw [hpk, hnk]; rfl
  rw [← hnk, ← hpk] at hcs
  rw [← hmv] at hcs hv1 hvl
  rw [hMv]
  rw [← hnm] at hv hfin hown hl
  rw [← hRB] at c6 hlt hfin ⊢
  rw [← hN] at hfin hown hnN
  rw [← hmv] at hfin
  subst hv
  have HFIN := Lib.hid hfin; have HOWN := Lib.hid hown; have HCS := Lib.hid hcs; have HV1 := Lib.hid hv1; have HVL := Lib.hid hvl
  have HI := Lib.hid hi; have HZ0 := Lib.hid hz0; have HZ1 := Lib.hid hz1; have HZ2 := Lib.hid hz2
  clear hn hf h hnk hpk hnm hRB hMv hN hfin hown hcs hv1 hvl hmv hi hz0 hz1 hz2
  go_enter Tryd.func33, Tryd.ntmps33
  go_wp2_with fail
  obtain ⟨W1, hW1⟩ : ∃ W1, W1 = w.alloc (.cells #[.int .u8 M.nd.k, .int .i32 M.nd.r, .int .u32 M.nd.p, .int .u32 M.nd.m, .slice pk nk M.c] 36) := ⟨_, rfl⟩
  have hb1 : Below w.heap.size w W1 := by rw [hW1]; exact (Below.refl _ _).alloc (Nat.le_refl _) _
  have hz1 : w.heap.size < W1.heap.size := by rw [hW1]; simp
  obtain ⟨q0, q1, q2, q3, q4⟩ : W1.cell? ⟨w.heap.size, 0, none⟩ = some (.int .u8 M.nd.k) ∧ W1.cell? ⟨w.heap.size, 1, none⟩ = some (.int .i32 M.nd.r) ∧ W1.cell? ⟨w.heap.size, 2, none⟩ = some (.int .u32 M.nd.p) ∧ W1.cell? ⟨w.heap.size, 3, none⟩ = some (.int .u32 M.nd.m) ∧ W1.cell? ⟨w.heap.size, 4, none⟩ = some (.slice pk nk M.c) := by rw [hW1]; simp
  have c61 : W1.cell? ⟨RB, 6, none⟩ = some (.slice ov nm cv) := (hb1.cell (p := ⟨RB, 6, none⟩) hlt).trans c6
  rw [← hW1]
  have HB1 := Lib.hid hb1
  have hz0' : w.heap.size ≤ W1.heap.size := by omega
  have hlt1 : RB < W1.heap.size := by omega
  have HZ := Lib.hid hz0'
  have hb2 : Hid (∀ O, Below w.heap.size w ((W1.alloc O).drew)) := fun O => (HB1.out.alloc HZ.out _).drew
  have hbase : Hid (∀ O, N ≤ ((W1.alloc O).drew).heap.size) := fun O => by show N ≤ (W1.alloc O).heap.size; simp; omega
  have hm1 : Hid (nm + 1 ≤ maxLen) := by show nm + 1 ≤ maxLen; unfold maxLen; omega
  have hm2 : Hid ((nm + 1) * 40 ≤ 140737488355328) := by show (nm + 1) * 40 ≤ _; omega
  clear hb1 hW1 c6 hz0'
  go_region_law (refine step_append_lies _ rfl (.tmp 9) (.tmp 11) 22 rfl N 36 i0 (.agg #[.int .u8 0, .int .i32 0, .int .u32 0, .int .u32 0, .slice none 0 0]) 5 40 Tryd.underlying22 HI.out HZ0.out HZ1.out HZ2.out rfl (by decide) (.slice ov nm cv) nm (nsC ms) (by simp [Act.eval]) (HOWN.out _ (hb2.out _)) ⟨W1.heap.size, 0, none⟩ 1 1 mv (by simp [Act.eval]) HVL.out (HCS.out W1) HV1.out (by decide) hm1.out hm2.out (hbase.out _) _ rfl ?_; intro g cap w3 hown3 hgrow3 hob3 hlt3; obtain ⟨x6, f6, hgR, hpost⟩ := HFIN.out _ _ (hb2.out _) _ _ hown3 hgrow3 hob3; have HPOST := Lib.hid hpost; clear hown3 hgrow3 hob3 hpost)
  all_goals
    go_wp2_with fail
    go_ret
    exact HPOST.out
end Go.Proofs.YtmechinlaladiaaDoor
namespace Go.Proofs.YtmechinlaladiaaDoor
open Go.RowKit Go.Lib
set_option linter.unusedVariables false

theorem sl_pieces (pq : Option Addr) (g n c k : Nat) (z : Int) (hz : z = (k : Int)) (h : k ≤ n) (hn : n ≤ c) (hat : n = 0 ∨ pq = some ⟨g, 0, none⟩) :
    ∃ pb, (∀ W, (Instr.slice 49 (.slice pq n c) (some (.int .i64 z)) none none).run Tryd.prog W = .ok (.slice pb (n - k) (c - k)) W) ∧ (k < n → pb = some ⟨g, k * 4, none⟩) := by
  subst hz
  have ht : Tryd.prog.underlying 49 = some (.slice (Tryd.prog.elem 49)) := by kernel_rfl
  have hs : ∀ W, (sizeOf (Tryd.prog.elem 49)).run Tryd.prog W = .ok 4 W := fun W => by kernel_rfl
  refine ⟨if c = k then pq else pq.map (·.add (k * 4)), fun W => ?_, fun hk => ?_⟩
  · rw [run_slice_l W 49 pq n c ht .i64 (k : Int) (by omega) (by omega), hs W]
    simp [sliced, Result.andThen]
  · rw [if_neg (by omega), hat.resolve_left (by omega)]
    simp [Addr.add]
    omega
theorem isClose_any (s : ByteArray) (p : Nat) (w : World) : Calls Tryd.prog 62 #[.agg #[.int .i32 (dR s p), .int .i64 p, .int .i64 (dW s p), .bool (brk s p)]] w fun e w' => e = .returned (.bool ((dR s p : Int) == 93)) ∧ Below w.heap.size w w' := by
  obtain ⟨r, hr⟩ : ∃ r, r = dR s p := ⟨_, rfl⟩
  obtain ⟨l, hl⟩ : ∃ r, r = dW s p := ⟨_, rfl⟩
  obtain ⟨b, hb⟩ : ∃ r, r = brk s p := ⟨_, rfl⟩
  rw [← hr, ← hl, ← hb]
  clear hr hl hb
  have HB := Lib.hid (show Below w.heap.size w (w.alloc (.cells #[.int .i32 r, .int .i64 p, .int .i64 l, .bool b] 72)) from (Below.refl _ _).alloc (Nat.le_refl _) _)
  go_enter Tryd.func62, Tryd.ntmps62
  go_wp2_with fail
  go_ret
  exact ⟨rfl, HB.out⟩
def idxQ (s : ByteArray) (l : List Nat) : Int := if l.findIdx (fun p => dR s p == 93) < l.length then (l.findIdx (fun p => dR s p == 93) : Int) else -1
theorem idxQ_hit (s : ByteArray) (l : List Nat) (k : Nat) (hk : k < l.length) (hb : ∀ i, i < k → ¬ dR s (l.getD i 0) = 93) (h : dR s (l.getD k 0) = 93) : idxQ s l = k := by
  have hg : ∀ i (hi : i < l.length), l.getD i 0 = l[i] := fun i hi => by rw [List.getD_eq_getElem?_getD, List.getElem?_eq_getElem hi]; rfl
  have e : l.findIdx (fun p => dR s p == 93) = k := by
    rw [List.findIdx_eq hk]
    refine ⟨by rw [← hg k hk]; simpa using h, fun j hj => ?_⟩
    have := hb j hj
    rw [hg j (by omega)] at this
    simpa using this
  unfold idxQ
  rw [e, if_pos hk]
theorem idxQ_end (s : ByteArray) (l : List Nat) (hb : ∀ i, i < l.length → ¬ dR s (l.getD i 0) = 93) : idxQ s l = -1 := by
  have hg : ∀ i (hi : i < l.length), l.getD i 0 = l[i] := fun i hi => by rw [List.getD_eq_getElem?_getD, List.getElem?_eq_getElem hi]; rfl
  have e : l.findIdx (fun p => dR s p == 93) = l.length := by
    rw [List.findIdx_eq_length]
    intro x hx
    obtain ⟨i, hi, rfl⟩ := List.getElem_of_mem hx
    have := hb i hi
    rw [hg i hi] at this
    simpa using this
  unfold idxQ
  rw [e, if_neg (Nat.lt_irrefl _)]
set_option maxHeartbeats 2000000 in
set_option maxRecDepth 100000 in
theorem idxf_any (s : ByteArray) (pb : Option Addr) (g o cc : Nat) (l : List Nat) (w : World) (hat : 0 < l.length → pb = some ⟨g, o, none⟩) (hbig : l.length ≤ 70000)
    (hc : ∀ j, j < l.length → w.cell? ⟨g, o + j * 4, none⟩ = some (.int .i32 (dR s (l.getD j 0))) ∧ w.cell? ⟨g, o + j * 4 + 1, none⟩ = some (.int .i64 (l.getD j 0)) ∧ w.cell? ⟨g, o + j * 4 + 2, none⟩ = some (.int .i64 (dW s (l.getD j 0))) ∧ w.cell? ⟨g, o + j * 4 + 3, none⟩ = some (.bool (brk s (l.getD j 0)))) :
    Calls Tryd.prog 61 #[.slice pb l.length cc, .func (.func 62) #[] #[]] w fun e w' => e = .returned (.int .i64 (idxQ s l)) ∧ Below w.heap.size w w' := by
  obtain ⟨n, hn⟩ : ∃ n, n = l.length := ⟨_, rfl⟩
  have HC := Lib.hid hc; have HN := Lib.hid hn; have HAT := Lib.hid hat
  rw [← hn] at hbig ⊢
  clear hc hn hat
  go_enter Tryd.func61, Tryd.ntmps61
  go_wp2_with fail
  go_loopw [8] (fun iv wr => ∃ k : Nat, iv = .int .i64 k ∧ k ≤ n ∧ Hid (∀ i, i < k → ¬ dR s (l.getD i 0) = 93) ∧ Hid (Below w.heap.size w wr)) (fun iv _ => n - (intOf iv).toNat)
  case atStart => exact ⟨0, rfl, by omega, Lib.hid (fun i hi => by omega), Lib.hid (Below.refl _ _)⟩
  case round =>
    obtain ⟨k, rfl, hk, HE, HBW⟩ := hrel
    by_cases hkn : k < n
    · have hkl : k < l.length := by have := HN.out; omega
      obtain rfl := HAT.out (by omega)
      obtain ⟨b0, b1, b2, b3⟩ := HC.out k hkl
      have hlt := blk_of_cell b0
      have a0 := (HBW.out.cell (p := ⟨g, o + k * 4, none⟩) hlt).trans b0
      have a1 := (HBW.out.cell (p := ⟨g, o + k * 4 + 1, none⟩) hlt).trans b1
      have a2 := (HBW.out.cell (p := ⟨g, o + k * 4 + 2, none⟩) hlt).trans b2
      have a3 := (HBW.out.cell (p := ⟨g, o + k * 4 + 3, none⟩) hlt).trans b3
      have hcl := fun W => isClose_any s (l.getD k 0) W
      have hhit := idxQ_hit s l k hkl HE.out
      have hmore : ¬ dR s (l.getD k 0) = 93 → ∀ i, i < k + 1 → ¬ dR s (l.getD i 0) = 93 := fun h i hi => by
        by_cases e : i = k
        · rw [e]; exact h
        · exact HE.out i (by omega)
      obtain ⟨p, hp⟩ : ∃ p, p = l.getD k 0 := ⟨_, rfl⟩
      rw [← hp] at a0 a1 a2 a3 hcl hhit hmore
      obtain ⟨r, hr⟩ : ∃ r, r = dR s p := ⟨_, rfl⟩
      obtain ⟨q, hq⟩ : ∃ r, r = dW s p := ⟨_, rfl⟩
      obtain ⟨b, hb⟩ : ∃ r, r = brk s p := ⟨_, rfl⟩
      rw [← hr, ← hq, ← hb] at hcl
      rw [← hr] at a0 hhit hmore
      rw [← hq] at a2
      rw [← hb] at a3
      have HCL := Lib.hid hcl; have HH := Lib.hid hhit; have HM := Lib.hid hmore
      have HJ := Lib.hid (show k + 1 ≤ n from hkn)
      clear b0 b1 b2 b3 hcl hhit hmore hp hr hq hb hkl hlt
      by_cases h93 : r = 93
      · have HZ := Lib.hid (HH.out h93)
        have e1 : (((r : Nat) : Int) == 93) = true := by simp [h93]
        rw [e1] at HCL
        clear h93 HM HH e1
        go_wp2_with fail
        refine (HCL.out _).mono ?_
        rintro e w2 ⟨rfl, hb⟩
        have HB2 := Lib.hid (HBW.out.trans (hb.mono HBW.out.size))
        clear hb
        go_wp2_with fail
        go_ret
        exact ⟨by rw [HZ.out] <;> rfl, HB2.out⟩
      · have HM' := Lib.hid (HM.out h93)
        have e1 : (((r : Nat) : Int) == 93) = false := by simp; omega
        rw [e1] at HCL
        clear h93 HM HH e1
        go_wp2_with fail
        refine (HCL.out _).mono ?_
        rintro e w2 ⟨rfl, hb⟩
        have HB2 := Lib.hid (HBW.out.trans (hb.mono HBW.out.size))
        clear hb HBW HE
        go_wp2_with fail
        go_roundw
        case rel => exact ⟨k + 1, by go_num, HJ.out, HM', HB2⟩
        case measure => have := HJ.out; simp [intOf]; omega
    · obtain rfl : k = n := by omega
      have HZ := Lib.hid (idxQ_end s l (fun i hi => HE.out i (by have := HN.out; omega)))
      go_wp2_with fail
      go_ret
      exact ⟨by rw [HZ.out] <;> rfl, HBW.out⟩
theorem toR_idx (s : ByteArray) (k : Nat) (hk : k ≤ (starts s).length) : (toR s k < (starts s).length → idxQ s ((starts s).drop k) = ((toR s k - k : Nat) : Int)) ∧ (¬ toR s k < (starts s).length → idxQ s ((starts s).drop k) = -1) := by
  unfold toR idxQ
  rw [List.length_drop]
  refine ⟨fun h => ?_, fun h => ?_⟩
  · rw [if_pos (by omega)]
    omega
  · rw [if_neg (by omega)]
/-- IndexFunc at the pieces from k on. -/
theorem RdAt.close {C : RdC} {a : Nat} {v : Value} {w : World} (h : RdAt C a v w) (ok : C.Ok) (k : Nat) (z : Int) (hz : z = (k : Int)) (hk : k ≤ (starts C.s).length) :
    ∃ (pq pb : Option Addr) (g c : Nat), C.qv = .slice pq (starts C.s).length c ∧ (starts C.s).length ≤ c ∧ ((starts C.s).length = 0 ∨ pq = some ⟨g, 0, none⟩) ∧
      (∀ W, (Instr.slice 49 (.slice pq (starts C.s).length c) (some (.int .i64 z)) none none).run Tryd.prog W = .ok (.slice pb ((starts C.s).length - k) (c - k)) W) ∧
      (∀ W, Below w.heap.size w W → Calls Tryd.prog 61 #[.slice pb ((starts C.s).length - k) (c - k), .func (.func 62) #[] #[]] W fun e w' => e = .returned (.int .i64 (idxQ C.s ((starts C.s).drop k))) ∧ Below W.heap.size W w') ∧
      (∀ (i p : Nat), (starts C.s)[i]? = some p → w.cell? ⟨g, i * 4 + 1, none⟩ = some (.int .i64 p)) ∧ (k < (starts C.s).length → pb = some ⟨g, k * 4, none⟩) ∧ ((starts C.s).length = 0 ∨ g < C.N) := by
  obtain ⟨pq, g, c, hq, hc, hat, hgN, hcell⟩ := h.piece ok
  obtain ⟨pb, hsl, hpb⟩ := sl_pieces pq g (starts C.s).length c k z hz hk hc hat
  have hbig := starts_most C.s
  have hsz := ok.size
  have hl : ((starts C.s).drop k).length = (starts C.s).length - k := List.length_drop
  refine ⟨pq, pb, g, c, hq, hc, hat, hsl, fun W hW => ?_, fun i p hp => (hcell i p hp).2.1, hpb, hgN⟩
  rw [← hl]
  refine idxf_any C.s pb g (k * 4) (c - k) ((starts C.s).drop k) W (fun h0 => hpb (by omega)) (by omega) (fun j hj => ?_)
  have hp : (starts C.s)[k + j]? = some (((starts C.s).drop k).getD j 0) := by
    rw [List.getD_eq_getElem?_getD, List.getElem?_drop, List.getElem?_eq_getElem (by omega)]
    rfl
  obtain ⟨c0, c1, c2, c3⟩ := hcell (k + j) _ hp
  have e : (k + j) * 4 = k * 4 + j * 4 := by omega
  rw [e] at c0 c1 c2 c3
  have hlt := blk_of_cell c0
  exact ⟨(hW.cell (p := ⟨g, k * 4 + j * 4, none⟩) hlt).trans c0, (hW.cell (p := ⟨g, k * 4 + j * 4 + 1, none⟩) hlt).trans c1, (hW.cell (p := ⟨g, k * 4 + j * 4 + 2, none⟩) hlt).trans c2, (hW.cell (p := ⟨g, k * 4 + j * 4 + 3, none⟩) hlt).trans c3⟩
end Go.Proofs.YtmechinlaladiaaDoor
namespace Go.Proofs.YtmechinlaladiaaDoor
open Go.RowKit

/-- unicode/utf8's two tables lie as their initialisers lay them. -/
def Tabs (w : World) : Prop := Lib.Utf8Tabs 0 1 w ∧ 0 < w.heap.size ∧ 1 < w.heap.size

theorem Tabs.mk' {w : World} (h : Lib.Utf8Tabs 0 1 w) : Tabs w :=
  ⟨h, World.block_lt_of_cell? _ _ (h.1 0 (by omega)), World.block_lt_of_cell? _ _ (h.2 0 (by omega)).1⟩
theorem Tabs.below {w w' : World} {B : Nat} (h : Tabs w) (hB : 0 < B ∧ 1 < B) (hb : Below B w w') : Tabs w' :=
  ⟨⟨fun c hc => (hb.cell (p := ⟨0, c, none⟩) hB.1).trans (h.1.1 c hc), fun i hi => ⟨(hb.cell (p := ⟨1, 2 * i, none⟩) hB.2).trans (h.1.2 i hi).1, (hb.cell (p := ⟨1, 2 * i + 1, none⟩) hB.2).trans (h.1.2 i hi).2⟩⟩,
   Nat.lt_of_lt_of_le h.2.1 hb.size, Nat.lt_of_lt_of_le h.2.2 hb.size⟩
theorem Tabs.next {w w' : World} (h : Tabs w) (hb : Below w.heap.size w w') : Tabs w' := h.below h.2 hb

theorem below_undrew {B : Nat} {w w' : World} (h : Below B w.drew w') : Below B w w' := ⟨h.os, h.tape, h.output, h.size, h.block⟩
theorem Tabs.drew {w : World} (h : Tabs w) : Tabs w.drew := h
theorem Tabs.iterAt {w : World} (h : Tabs w) {k : Nat} {s : ByteArray} {q : Nat} (hk : w.heap[k]? = some (.stringIter s q)) (pos : Nat) : Tabs (w.iterAt k s pos) := by
  have key : ∀ b o v, w.cell? ⟨b, o, none⟩ = some v → (w.iterAt k s pos).cell? ⟨b, o, none⟩ = some v := by
    intro b o v hv
    have hne : b ≠ k := by
      intro e; subst e
      simp [World.cell?, hk] at hv
    rw [← hv]
    exact World.cell?_of_block (w := w) (Lib.iterAt_other w k b s pos hne)
  refine ⟨⟨fun c hc => key _ _ _ (h.1.1 c hc), fun i hi => ⟨key _ _ _ (h.1.2 i hi).1, key _ _ _ (h.1.2 i hi).2⟩⟩, ?_, ?_⟩
  · rw [Lib.iterAt_size]; exact h.2.1
  · rw [Lib.iterAt_size]; exact h.2.2

theorem decodeGo_cut (s : ByteArray) (p : Nat) (h : p < s.size) : Lib.decodeGo (s.extract p s.size) = (dR s p, dW s p) := by
  have e : ¬ (s.extract p s.size).size = 0 := by simp; omega
  unfold Lib.decodeGo
  rw [if_neg e, Lib.tail_decode, Nat.add_zero]
  rfl
theorem decodeGo_all (s : ByteArray) (h : 0 < s.size) : Lib.decodeGo s = (dR s 0, dW s 0) := by
  have e : ¬ s.size = 0 := by omega
  unfold Lib.decodeGo
  rw [if_neg e]
  rfl

theorem decode_cut (s : ByteArray) (p : Nat) (w : World) (h : p < s.size) (hT : Tabs w) :
    Calls Tryd.prog 46 #[.string (s.extract p s.size)] w fun e w' => e = .returned (.tuple #[.int .i32 (dR s p), .int .i64 (dW s p)]) ∧ Below w.heap.size w w' := by
  have := Tryd.utf8_DecodeRuneInString (s.extract p s.size) w hT.1
  rw [decodeGo_cut s p h] at this
  exact this

end Go.Proofs.YtmechinlaladiaaDoor
namespace Go.Proofs.YtmechinlaladiaaDoor
open Go.RowKit Go.Lib
set_option linter.unusedVariables false

def IterKept (w w' : World) : Prop := ∀ (j : Nat) (s : ByteArray) (q : Nat), w.heap[j]? = some (.stringIter s q) → w'.heap[j]? = some (.stringIter s q)
def StepPost (s : ByteArray) (B : Nat) (Inv : List Nat → World → Prop) (l : List Nat) (p : Nat) (w : World) (e : Ending) (w' : World) : Prop :=
  e = .returned (.tuple #[]) ∧ Inv (l ++ [p]) w' ∧ Below B w w' ∧ IterKept w w'
def WalkRel (s : ByteArray) (B K : Nat) (Inv : List Nat → World → Prop) (w wr : World) (pos f : Nat) (l : List Nat) : Prop :=
  wr.heap[K]? = some (.stringIter s pos) ∧ Inv l wr ∧ Below B w wr ∧ pos ≤ s.size ∧ s.size ≤ pos + f ∧ starts s = l ++ startsF s f pos
theorem below_iter_any {B : Nat} {w : World} {k : Nat} {s : ByteArray} (pos : Nat) (hk : B ≤ k) : Below B w (w.iterAt k s pos) := Lib.below_iterAt (Below.refl B w) hk s pos
theorem starts_split {s : ByteArray} {l : List Nat} {f pos : Nat} (h : starts s = l ++ startsF s f pos) (hp : pos < s.size) (hf : s.size ≤ pos + f) : l.length < s.size := by
  have e : (starts s).length ≤ s.size := by simpa [starts] using startsF_le s s.size 0
  rw [h, startsF_cons s f pos hp hf] at e
  simp at e
  omega

set_option maxHeartbeats 1000000 in
theorem walk_pieces (s : ByteArray) (c0 : Value) (B : Nat) (Inv : List Nat → World → Prop) (w : World) (hT : Tabs w) (hB : 0 < B ∧ 1 < B) (hBw : B ≤ w.heap.size) (hs : s.size ≤ 1073741824)
    (hnew : ∀ l w w', Inv l w → Below w.heap.size w w' → Inv l w')
    (hit : ∀ l w k q r, Inv l w → w.heap[k]? = some (.stringIter s q) → Inv l (w.iterAt k s r))
    (hstep : ∀ l p w, Inv l w → p < s.size → l.length < s.size → Calls Tryd.prog 29 #[pieceV s p, c0] w (StepPost s B Inv l p w))
    (h0 : Inv [] w) :
    Calls Tryd.prog 28 #[.string s, .func (Fn.func 29) #[] #[c0]] w fun e w' => e = .returned (.tuple #[]) ∧ Inv (starts s) w' ∧ Below B w w' := by
  have HN := Lib.hid hnew; have HIt := Lib.hid hit; have HS := Lib.hid hstep; have H0 := Lib.hid h0; have HT := Lib.hid hT; have HBB := Lib.hid hB
  clear hnew hit hstep h0 hT hB
  go_enter Tryd.func28, Tryd.ntmps28
  go_wp2
  go_loopw [4] (fun _ wr => ∃ pos f l, WalkRel s B w.heap.size Inv w wr pos f l) (fun _ wr => s.size - wr.iterPos w.heap.size)
  case atStart => exact ⟨0, s.size, [], World.iter_heap _ _ _, HN.out _ _ _ H0.out ((Below.refl _ _).alloc (Nat.le_refl _) _), ((Below.refl _ _).alloc hBw _), by omega, by omega, rfl⟩
  case round =>
    obtain ⟨pos, f, l, hrel⟩ := hrel
    have HR := Lib.hid hrel
    have hit := hrel.1
    have hip : wr.iterPos w.heap.size = pos := by simp [World.iterPos, hit]
    have HP := Lib.hid hip
    have hpl := hrel.2.2.2.1
    have hf := hrel.2.2.2.2.1
    have hsz := hrel.2.2.1.size
    have hszl : w.heap.size < wr.heap.size := (Array.getElem?_eq_some_iff.1 hit).1
    clear hrel hip
    by_cases hp : pos < s.size
    · have hnx := fun ty => Lib.run_next_any_at (P := Tryd.prog) wr w.heap.size s pos ty hit hp
      have hTi := (HT.out.below HBB.out HR.out.2.2.1).iterAt hit (pos + (Utf8.decode s pos).2)
      have hbi := below_iter_any (w := wr) (s := s) (pos + (Utf8.decode s pos).2) (show B ≤ w.heap.size from hBw)
      have hii := Lib.iterAt_heap wr w.heap.size s pos (pos + (Utf8.decode s pos).2) hit
      have his := Lib.iterAt_size wr w.heap.size s (pos + (Utf8.decode s pos).2)
      have hinv := HIt.out l wr w.heap.size pos (pos + (Utf8.decode s pos).2) HR.out.2.1 hit
      have hlen := starts_split HR.out.2.2.2.2.2 hp hf
      obtain ⟨W1, hW1⟩ : ∃ W1, W1 = wr.iterAt w.heap.size s (pos + (Utf8.decode s pos).2) := ⟨_, rfl⟩
      rw [← hW1] at hTi hbi hii his hinv hnx
      have HTI := Lib.hid hTi; have HBI := Lib.hid hbi; have HII := Lib.hid hii; have HIS := Lib.hid his; have HIN := Lib.hid hinv
      have hpc := dW_pos s pos
      have hfit := dW_fits s pos hp
      clear hit hTi hbi hii his hinv hW1
      go_wp2_with fail
      refine (decode_cut s pos _ hp HTI.out).mono ?_
      rintro e w2 ⟨rfl, hb2⟩
      have hin2 := HN.out l _ _ HIN.out hb2
      have hs2 := hb2.size
      have hit2 : w2.heap[w.heap.size]? = some (.stringIter s (pos + (Utf8.decode s pos).2)) := (hb2.block w.heap.size (by have := HIS.out; omega)).trans HII.out
      have hbb2 : Below B wr w2 := HBI.out.trans (hb2.mono (B' := B) (by have := HIS.out; omega))
      have HI2 := Lib.hid hin2; have HIT2 := Lib.hid hit2; have HBB2 := Lib.hid hbb2
      have hstp := HS.out l pos w2 hin2 hp hlen
      unfold pieceV at hstp
      have HST := Lib.hid hstp
      clear hin2 hit2 hbb2 hb2 hnx hstp
      have fin : ∀ w3, StepPost s B Inv l pos w2 (.returned (.tuple #[])) w3 → WalkRel s B w.heap.size Inv w w3 (pos + dW s pos) (f - 1) (l ++ [pos]) := by
        intro w3 h3
        obtain ⟨_, hin3, hb3, hk3⟩ := h3
        refine ⟨hk3 _ _ _ HIT2.out, hin3, HR.out.2.2.1.trans (HBB2.out.trans hb3), hfit, by omega, ?_⟩
        rw [HR.out.2.2.2.2.2, startsF_cons s f pos hp hf]
        simp
      have HF := Lib.hid fin
      clear fin
      have hdR : dR s pos = (Utf8.decode s pos).1 := rfl
      cases hb : brk s pos with
      | true =>
        obtain ⟨e1, e2⟩ := brk_eq s pos hb
        rw [hdR] at e1
        rw [hdR, e1, e2, hb] at HST
        rw [e1, e2]
        clear hb hdR
        have E1 := Lib.hid e1; have E2 := Lib.hid e2
        clear e1 e2
        go_wp2_with fail
        refine HST.out.mono ?_
        rintro e w3 ⟨rfl, h3⟩
        have HR3 := Lib.hid (HF.out w3 ⟨rfl, h3⟩)
        clear h3
        go_wp2_with fail
        go_roundw
        case rel => exact ⟨pos + dW s pos, f - 1, l ++ [pos], HR3.out⟩
        case measure =>
          have e1 : w3.iterPos w.heap.size = pos + dW s pos := by simp [World.iterPos, HR3.out.1]
          rw [e1, HP.out]
          omega
      | false =>
        have hn : ¬ (dR s pos = 65533 ∧ dW s pos = 1) := by simpa [brk] using hb
        rw [hdR] at hn
        rw [hdR, hb] at HST
        rw [hdR]
        clear hb hdR
        obtain ⟨R, hR⟩ : ∃ R, R = (Utf8.decode s pos).1 := ⟨_, rfl⟩
        obtain ⟨K, hK⟩ : ∃ K, K = dW s pos := ⟨_, rfl⟩
        rw [← hR] at HST hn ⊢
        rw [← hK] at HST hn hpc hfit HF ⊢
        have HRk := Lib.hid hR; have HKk := Lib.hid hK
        clear hR hK
        by_cases c1 : R = 65533
        · have c2 : ((K : Int) == 1) = false := by rw [beq_eq_false_iff_ne]; omega
          have c3 : ((R : Int) == 65533) = true := by rw [beq_iff_eq]; omega
          clear hn c1
          go_wp2_with fail
          refine HST.out.mono ?_
          rintro e w3 ⟨rfl, h3⟩
          have HR3 := Lib.hid (HF.out w3 ⟨rfl, h3⟩)
          clear h3
          go_wp2_with fail
          go_roundw
          case rel => exact ⟨pos + K, f - 1, l ++ [pos], HR3.out⟩
          case measure =>
            have e1 : w3.iterPos w.heap.size = pos + K := by simp [World.iterPos, HR3.out.1]
            rw [e1, HP.out]
            omega
        · have c3 : ((R : Int) == 65533) = false := by rw [beq_eq_false_iff_ne]; omega
          clear hn c1
          go_wp2_with fail
          refine HST.out.mono ?_
          rintro e w3 ⟨rfl, h3⟩
          have HR3 := Lib.hid (HF.out w3 ⟨rfl, h3⟩)
          clear h3
          go_wp2_with fail
          go_roundw
          case rel => exact ⟨pos + K, f - 1, l ++ [pos], HR3.out⟩
          case measure =>
            have e1 : w3.iterPos w.heap.size = pos + K := by simp [World.iterPos, HR3.out.1]
            rw [e1, HP.out]
            omega
    · have hnx := fun ty => Lib.run_next_end_at (P := Tryd.prog) wr w.heap.size s pos ty hit hp
      have hst := HR.out.2.2.2.2.2
      rw [startsF_end s f pos hp, List.append_nil] at hst
      have HST := Lib.hid hst
      clear hst hit
      go_wp2_with fail
      go_end0
      exact ⟨rfl, by rw [HST.out]; exact HR.out.2.1, HR.out.2.2.1⟩

end Go.Proofs.YtmechinlaladiaaDoor
