/-
  WALKS of pattern's reader: or.
  WALKS AT ROWS OF RUNES: slices.Index, Contains, Reverse; runes.Text.
  WALKS AT ROWS OF RUNES: slices.Reverse; runes.Text.
-/
import Derived.Test.YtmechinlaladiaaDoorZAS
import Derived.Test.YtmechinlaladiaaDoorZAE
import Derived.Test.YtmechinlaladiaaDoorZAQ
namespace Go.Proofs.YtmechinlaladiaaDoor
open Go.RowKit Go.Lib
set_option linter.unusedVariables false

/-- The node is whole: its last mark is taken. -/
theorem KdL.close {C : RdC} (ok : C.Ok) {kd : Nat} (hkd : kd < 256) {v : Value} {ms : List NdM} {w : World} {l : List Tr} {ks : List Int} {b : Nat} {v' : Value} {ms' : List NdM} {kv : Value} {wr : World} (h : KdL C kd v ms w l ks b v' ms' kv wr) (kz : Int) (hkz : kz = (kd : Int)) {R : Rs} (hR : R = .ok (.nd kd 0 0 0 (ofL l), b + 1)) (hlt : b < (starts C.s).length) {W : World} (hb : Below wr.heap.size wr W) :
    (∃ o n c, kv = .slice o n c) ∧ W.cell? ⟨w.heap.size + 1, 0, none⟩ = some (.int .u8 kz) ∧ W.cell? ⟨w.heap.size + 1, 1, none⟩ = some (.int .i32 0) ∧ W.cell? ⟨w.heap.size + 1, 2, none⟩ = some (.int .u32 0) ∧ W.cell? ⟨w.heap.size + 1, 3, none⟩ = some (.int .u32 0) ∧ W.cell? ⟨w.heap.size + 1, 4, none⟩ = some kv ∧
      Calls Tryd.prog 50 #[.pointer (some ⟨C.RB, 0, none⟩), .agg #[.int .u8 kz, .int .i32 0, .int .u32 0, .int .u32 0, kv]] W (fun e w' => e = .returned (.tuple #[.agg #[.int .u8 kz, .int .i32 0, .int .u32 0, .int .u32 0, kv], .bool true]) ∧ ZNode w.heap.size w' ∧
        ∀ u0 u1 u2 u3 u4, NodPost C R v ms w (.returned (.tuple #[.agg #[.int .u8 kz, .int .i32 0, .int .u32 0, .int .u32 0, kv], .bool true])) (((((w'.setCell ⟨w.heap.size, 0, none⟩ u0).setCell ⟨w.heap.size, 1, none⟩ u1).setCell ⟨w.heap.size, 2, none⟩ u2).setCell ⟨w.heap.size, 3, none⟩ u3).setCell ⟨w.heap.size, 4, none⟩ u4)) := by
  subst hkz
  have hbig := starts_most C.s
  have hsize := ok.size
  have hK1 := h.next ok hb
  obtain ⟨o, c, hkv⟩ := ownN_shape hK1.row
  refine ⟨⟨o, _, c, hkv⟩, hK1.n0, hK1.n1, hK1.n2, hK1.n3, hK1.n4, ?_⟩
  subst hkv
  refine (taken_any C ok b v' kd 0 0 0 o _ c W hK1.S.at_ (by omega)).mono ?_
  rintro e w' ⟨he, hA, hB⟩
  have hK2 : KdL C kd v ms w l ks (b + 1) v' ms' (.slice o ks.length c) w' := hK1.keep (hK1.S.boxR hA hB) hB (fun k e => hK1.S.loF k (Or.inl e)) (by omega) hlt
  exact ⟨he, hK2.rs, fun u0 u1 u2 u3 u4 => hK2.fin ok hkd hR kd rfl (but5 w.heap.size w' u0 u1 u2 u3 u4) (fun k e => e)⟩
/-- A kid is wrong. -/
theorem KdL.wrong {C : RdC} (ok : C.Ok) {kd : Nat} {v : Value} {ms : List NdM} {w : World} {l : List Tr} {ks : List Int} {b : Nat} {v' : Value} {ms' : List NdM} {kv : Value} {W : World} (hK1 : KdL C kd v ms w l ks b v' ms' kv W) {R : Rs} {q : Nat} (hR2 : R = .error q) {e : Ending} {w2 : World} (hp : NumPost C (.error q) v' (ms ++ ms') W e w2) :
    e = .returned (.tuple #[.int .i64 0, .bool false]) ∧ ZNode w.heap.size w2 ∧ ∀ u0 u1 u2 u3 u4, NodPost C R v ms w (.returned (.tuple #[noNode, .bool false])) (((((w2.setCell ⟨w.heap.size, 0, none⟩ u0).setCell ⟨w.heap.size, 1, none⟩ u1).setCell ⟨w.heap.size, 2, none⟩ u2).setCell ⟨w.heap.size, 3, none⟩ u3).setCell ⟨w.heap.size, 4, none⟩ u4) := by
  obtain ⟨he, v2, hA, hB⟩ := hp
  have hvown : ∀ q, v'.ownBlock = some q → q < w.heap.size ∨ w.heap.size + 2 ≤ q := fun q hq => by
    rcases hK1.S.vat with e2 | ⟨b', e2, hb'⟩
    · exact Or.inl (hK1.S.lov q (e2 ▸ hq))
    · rw [e2] at hq; cases hq; exact Or.inr hb'
  have hRw := hK1.S.loF C.RB (Or.inl rfl)
  have hz := hK1.rs.keep hB (fun e => by
    rcases e with e | e
    · omega
    · have := hvown _ e; omega)
  refine ⟨he, hz, fun u0 u1 u2 u3 u4 => ?_⟩
  subst hR2
  have hbt := but5 w.heap.size w2 u0 u1 u2 u3 u4
  have hA2 := hA.keep ok hbt (fun k e => by
    have e' : k = w.heap.size := e
    have := hK1.S.lo1
    exact ⟨by omega, fun f => by have := hK1.S.loF k f; omega⟩)
  refine ⟨rfl, v2, hA2, (hK1.S.but.trans hB (fun i hi e => ?_)).trans hbt (fun i hi e => by have e' : i = w.heap.size := e; omega)⟩
  rcases e with e | e
  · exact Or.inl e
  · rcases hK1.S.vat with e2 | ⟨b', e2, hb'⟩
    · exact Or.inr (e2 ▸ e)
    · rw [e2] at e; cases e; omega
structure OrL (C : RdC) (R : Rs) (v : Value) (ms : List NdM) (w : World) (F b : Nat) (wr : World) : Prop where
  ex : ∃ l ks v' ms' kv g, KdL C 7 v ms w l ks b v' ms' kv wr ∧ rdF C.A C.s g (.or l) b = R ∧ 2 * ((starts C.s).length - b) + 2 ≤ g ∧ g ≤ F
theorem OrL.at {C : RdC} {R : Rs} {v : Value} {ms : List NdM} {w : World} {F b : Nat} {wr : World} (h : OrL C R v ms w F b wr) : atOf C.RB wr = b ∧ b ≤ (starts C.s).length := by
  obtain ⟨l, ks, v', ms', kv, g, hK, _⟩ := h.ex
  unfold atOf
  rw [hK.S.at_.c5]
  exact ⟨by simp [intOf], hK.bn⟩
/-- Behind a kid. -/
structure OrM (C : RdC) (R : Rs) (v : Value) (ms : List NdM) (w : World) (F b : Nat) (wr : World) : Prop where
  ex : ∃ l ks v' ms' kv g, KdL C 7 v ms w l ks b v' ms' kv wr ∧ (if nxR C.s b = 125 then .ok (.nd 7 0 0 0 (ofL l), b + 1) else if nxR C.s b = 124 then rdF C.A C.s g (.or l) (b + 1) else .error b) = R ∧ 2 * ((starts C.s).length - b) ≤ g ∧ g ≤ F
theorem OrL.kid {C : RdC} (ok : C.Ok) {R : Rs} {v : Value} {ms : List NdM} {w : World} {F b : Nat} {W : World} (ih : NodeIH C F) (h : OrL C R v ms w F b W) :
    Calls Tryd.prog 30 #[.pointer (some ⟨C.PB, 0, none⟩), .pointer (some ⟨C.NB, 0, none⟩)] W fun e w2 =>
      (e = .returned (.tuple #[.int .i64 0, .bool false]) ∧ ZNode w.heap.size w2 ∧ ∀ u0 u1 u2 u3 u4, NodPost C R v ms w (.returned (.tuple #[noNode, .bool false])) (((((w2.setCell ⟨w.heap.size, 0, none⟩ u0).setCell ⟨w.heap.size, 1, none⟩ u1).setCell ⟨w.heap.size, 2, none⟩ u2).setCell ⟨w.heap.size, 3, none⟩ u3).setCell ⟨w.heap.size, 4, none⟩ u4)) ∨
      (∃ (k : Nat) (ks : List Int) (kv : Value) (b' : Nat), e = .returned (.tuple #[.int .i64 k, .bool true]) ∧ b < b' ∧ w2.cell? ⟨w.heap.size + 1, 4, none⟩ = some kv ∧ w2.ownsRow (w.heap.size + 2) 3 1 kv ks.length (ks.map fun k => .int .i64 k) ∧ ks.length < 100000 ∧ w.heap.size + 2 ≤ w2.heap.size ∧
        ∀ O kv' w4, w4.ownsRow (w.heap.size + 2) 3 1 kv' (ks ++ [(k : Int)]).length ((ks ++ [(k : Int)]).map fun k => .int .i64 k) → (w2.alloc O).grownBy w4 kv.ownBlock → (kv'.ownBlock = kv.ownBlock ∨ kv'.ownBlock = some (w2.alloc O).heap.size) →
          w4.cell? ⟨w.heap.size + 1, 4, none⟩ = some kv ∧ w4.frozen? ⟨w.heap.size + 1, 4, none⟩ = false ∧ OrM C R v ms w F b' (w4.setCell ⟨w.heap.size + 1, 4, none⟩ kv')) := by
  obtain ⟨l, ks, v', ms', kv, g, hK1, hR, hg, hF⟩ := h.ex
  obtain ⟨g, rfl⟩ : ∃ q, g = q + 1 := ⟨g - 1, by omega⟩
  have hle := hK1.le
  refine (ih g (by omega) b v' (ms ++ ms') W hK1.S.at_ hK1.S.n (by omega) hK1.bn (by omega)).mono ?_
  intro e w2 hp
  cases hq : rdF C.A C.s g .node b with
  | error q =>
    rw [hq] at hp
    exact Or.inl (hK1.wrong ok (by rw [← hR, rdF, hq]) hp)
  | ok q =>
    obtain ⟨t, b'⟩ := q
    rw [hq] at hp
    obtain ⟨h1, h2, h3⟩ := rdF_sz C.A C.s g .node b t b' hK1.bn hq
    simp only [mdSz, Nat.add_zero] at h3
    obtain ⟨k, v2, ms2, he, hc4, hrow, hkl, hw2, hnext⟩ := hK1.kid ok hp h3 h1
    refine Or.inr ⟨k, ks, kv, b', he, by omega, hc4, hrow, hkl, hw2, fun O kv' w4 ho hg4 hk' => ?_⟩
    obtain ⟨x4, xf, hKn⟩ := hnext O kv' w4 ho hg4 hk'
    refine ⟨x4, xf, ⟨l ++ [t], ks ++ [(k : Int)], v2, ms2, kv', g, hKn, ?_, by omega, by omega⟩⟩
    rw [← hR, rdF, hq]
theorem OrM.at {C : RdC} {R : Rs} {v : Value} {ms : List NdM} {w : World} {F b : Nat} {wr : World} (h : OrM C R v ms w F b wr) : b ≤ (starts C.s).length := by
  obtain ⟨l, ks, v', ms', kv, g, hK, _⟩ := h.ex
  exact hK.bn
theorem OrM.nx {C : RdC} (ok : C.Ok) {R : Rs} {v : Value} {ms : List NdM} {w : World} {F b : Nat} {wr : World} (h : OrM C R v ms w F b wr) : Calls Tryd.prog 34 #[.pointer (some ⟨C.RB, 0, none⟩)] wr fun e w' => e = .returned (.int .i32 (nxR C.s b)) ∧ Below wr.heap.size wr w' := by
  obtain ⟨l, ks, v', ms', kv, g, hK, _⟩ := h.ex
  exact next_any C ok b v' wr hK.S.at_ hK.bn
/-- A } behind it. -/
theorem OrM.last {C : RdC} (ok : C.Ok) {R : Rs} {v : Value} {ms : List NdM} {w : World} {F b : Nat} {wr : World} (h : OrM C R v ms w F b wr) (hc : nxR C.s b = 125) {W : World} (hb : Below wr.heap.size wr W) :
    ∃ kv : Value, (∃ o n c, kv = .slice o n c) ∧ W.cell? ⟨w.heap.size + 1, 0, none⟩ = some (.int .u8 7) ∧ W.cell? ⟨w.heap.size + 1, 1, none⟩ = some (.int .i32 0) ∧ W.cell? ⟨w.heap.size + 1, 2, none⟩ = some (.int .u32 0) ∧ W.cell? ⟨w.heap.size + 1, 3, none⟩ = some (.int .u32 0) ∧ W.cell? ⟨w.heap.size + 1, 4, none⟩ = some kv ∧
      Calls Tryd.prog 50 #[.pointer (some ⟨C.RB, 0, none⟩), .agg #[.int .u8 7, .int .i32 0, .int .u32 0, .int .u32 0, kv]] W (fun e w' => e = .returned (.tuple #[.agg #[.int .u8 7, .int .i32 0, .int .u32 0, .int .u32 0, kv], .bool true]) ∧ ZNode w.heap.size w' ∧
        ∀ u0 u1 u2 u3 u4, NodPost C R v ms w (.returned (.tuple #[.agg #[.int .u8 7, .int .i32 0, .int .u32 0, .int .u32 0, kv], .bool true])) (((((w'.setCell ⟨w.heap.size, 0, none⟩ u0).setCell ⟨w.heap.size, 1, none⟩ u1).setCell ⟨w.heap.size, 2, none⟩ u2).setCell ⟨w.heap.size, 3, none⟩ u3).setCell ⟨w.heap.size, 4, none⟩ u4)) := by
  obtain ⟨l, ks, v', ms', kv, g, hK, hR, hg, hF⟩ := h.ex
  rw [if_pos hc] at hR
  exact ⟨kv, hK.close ok (by decide) 7 rfl hR.symm (nxR_lt (s := C.s) (k := b) (by rw [hc]; decide)) hb⟩
/-- A | behind it. -/
theorem OrM.more {C : RdC} (ok : C.Ok) {R : Rs} {v : Value} {ms : List NdM} {w : World} {F b : Nat} {wr : World} (h : OrM C R v ms w F b wr) (hc : nxR C.s b = 124) {W : World} (hb : Below wr.heap.size wr W) :
    W.cell? ⟨C.RB, 5, none⟩ = some (.int .i64 b) ∧ W.frozen? ⟨C.RB, 5, none⟩ = false ∧ OrL C R v ms w F (b + 1) (W.setCell ⟨C.RB, 5, none⟩ (.int .i64 ((b : Int) + 1))) := by
  obtain ⟨l, ks, v', ms', kv, g, hK, hR, hg, hF⟩ := h.ex
  have hlt : b < (starts C.s).length := nxR_lt (s := C.s) (k := b) (by rw [hc]; decide)
  rw [if_neg (by rw [hc]; decide), if_pos hc] at hR
  have hK1 := hK.next ok hb
  exact ⟨hK1.S.at_.c5, hK1.S.at_.fz 5, ⟨l, ks, v', ms', kv, g, hK1.setAt ok (b + 1) _ (by omega) (by omega) hlt, hR, by omega, hF⟩⟩
/-- Something else behind it. -/
theorem OrM.bad {C : RdC} (ok : C.Ok) {R : Rs} {v : Value} {ms : List NdM} {w : World} {F b : Nat} {wr : World} (h : OrM C R v ms w F b wr) (h1 : ¬ nxR C.s b = 125) (h2 : ¬ nxR C.s b = 124) {W : World} (hb : Below wr.heap.size wr W) :
    ZNode w.heap.size W ∧ ∀ u0 u1 u2 u3 u4, NodPost C R v ms w (.returned (.tuple #[noNode, .bool false])) (((((W.setCell ⟨w.heap.size, 0, none⟩ u0).setCell ⟨w.heap.size, 1, none⟩ u1).setCell ⟨w.heap.size, 2, none⟩ u2).setCell ⟨w.heap.size, 3, none⟩ u3).setCell ⟨w.heap.size, 4, none⟩ u4) := by
  obtain ⟨l, ks, v', ms', kv, g, hK, hR, hg, hF⟩ := h.ex
  rw [if_neg h1, if_neg h2] at hR
  have hK1 := hK.next ok hb
  exact ⟨hK1.rs, fun u0 u1 u2 u3 u4 => NodPost.bad hR.symm (hK1.S.loc ok (but5 w.heap.size W u0 u1 u2 u3 u4) (fun k e => by omega))⟩
def orR (C : RdC) (F a : Nat) : Rs := if nxR C.s (a + 1) = 125 then .ok (.nd 7 0 0 0 .nil, a + 2) else rdF C.A C.s F (.or []) (a + 1)
set_option maxHeartbeats 4000000 in
set_option maxRecDepth 100000 in
theorem rdor_any (C : RdC) (ok : C.Ok) (F a : Nat) (ih : NodeIH C F) (v : Value) (ms : List NdM) (w : World) (h : RdAt C a v w) (hn : RdN C v ms w) (hl : ms.length ≤ a) (ha : a < (starts C.s).length) (hF : 2 * ((starts C.s).length - (a + 1)) + 2 ≤ F) :
    Calls Tryd.prog 48 #[.pointer (some ⟨C.RB, 0, none⟩), C.fn] w (NodPost C (orR C F a) v ms w) := by
  obtain ⟨W0, hW0⟩ : ∃ W0, W0 = (((w.setCell ⟨C.RB, 5, none⟩ (.int .i64 ((a : Int) + 1))).alloc (.cells #[.int .u8 0, .int .i32 0, .int .u32 0, .int .u32 0, .slice none 0 0] 36)).alloc (.cells #[.int .u8 7, .int .i32 0, .int .u32 0, .int .u32 0, .slice none 0 0] 36)) := ⟨_, rfl⟩
  have h0 : KdL C 7 v ms w [] [] (a + 1) v [] (.slice none 0 0) W0 := by
    have h1 := KdL.start ok h hn hl ha 7 7 ((a : Int) + 1) rfl rfl _ rfl
    rw [World.setCell_alloc_past (hn := by have := h.rlt; simp; omega), World.setCell_alloc_past (hn := h.rlt)] at h1
    rw [hW0]
    exact h1
  have hnx := next_any C ok (a + 1) v W0 h0.S.at_ ha
  have hshut := fun (hc : nxR C.s (a + 1) = 125) W hb => h0.close ok (by decide) 7 rfl (R := orR C F a) (by unfold orR; rw [if_pos hc]; rfl) (nxR_lt (s := C.s) (k := a + 1) (by rw [hc]; decide)) (W := W) hb
  have hopen : ¬ nxR C.s (a + 1) = 125 → ∀ W, Below W0.heap.size W0 W → OrL C (orR C F a) v ms w F (a + 1) W := fun hc W hb => ⟨[], [], v, [], .slice none 0 0, F, h0.next ok hb, by unfold orR; rw [if_neg hc], hF, Nat.le_refl _⟩
  obtain ⟨R, hR⟩ : ∃ R, R = orR C F a := ⟨_, rfl⟩
  rw [← hR] at hshut hopen ⊢
  have c5 := h.c5; have fz := h.fz 5; have hlt := h.rlt
  have hfn : C.fn = .func (.func 30) #[] #[.pointer (some ⟨C.PB, 0, none⟩), .pointer (some ⟨C.NB, 0, none⟩)] := rfl
  rw [hfn]
  have hbig := starts_most C.s
  have hsize := ok.size
  obtain ⟨RB, hRB⟩ : ∃ b, b = C.RB := ⟨_, rfl⟩
  obtain ⟨n, hnn⟩ : ∃ b, b = (starts C.s).length := ⟨_, rfl⟩
  have hn6 : n ≤ 65536 := by omega
  have ha6 : a < 65536 := by omega
  obtain ⟨x, hx⟩ : ∃ x, x = nxR C.s (a + 1) := ⟨_, rfl⟩
  rw [← hRB] at c5 fz hlt hnx hshut hW0 ⊢
  rw [← hx] at hnx hshut hopen
  have HAN := Lib.hid (show a + 1 ≤ n by omega)
  have HNX := Lib.hid hnx; have HSH := Lib.hid hshut; have HOP := Lib.hid hopen; have HW0 := Lib.hid hW0
  have HRB := Lib.hid hRB; have HNN := Lib.hid hnn; have IH := Lib.hid ih
  clear h0 hRB hnn ih h hn hl ha hF hR hfn hbig hsize hnx hshut hopen hW0 hx
  by_cases h125 : x = 125
  · subst h125
    have HSS := Lib.hid (HSH.out rfl)
    clear HSH HOP
    go_enter Tryd.func48, Tryd.ntmps48
    go_wp2_with fail
    rw [← HW0.out]
    clear c5 fz
    (with_reducible refine (HNX.out).mono ?_)
    rintro e W ⟨rfl, hb1⟩
    obtain ⟨_hk, n0, n1, n2, n3, n4, hcall⟩ := HSS.out W hb1
    have HC := Lib.hid hcall
    clear hcall hb1 HNX HSS _hk
    go_wp2_with fail
    (with_reducible refine (HC.out).mono ?_)
    rintro e W2 ⟨rfl, hz, hfin⟩
    obtain ⟨z0, z1, z2, z3, z4, f0, f1, f2, f3, f4⟩ := hz
    have HFIN := Lib.hid hfin
    clear hfin HC
    go_wp2_with fail
    refine bodyPost_ret (v := .tuple #[.agg #[.int .u8 7, .int .i32 0, .int .u32 0, .int .u32 0, .slice none 0 0], .bool true]) (by simp [results, Tryd.results48, go_sem, *]) rfl ?_
    exact HFIN.out _ _ _ _ _
  · have q1 : ((x : Int) == 125) = false := by simpa using h125
    have HO := Lib.hid (HOP.out h125)
    clear HSH HOP h125
    go_enter Tryd.func48, Tryd.ntmps48
    go_wp2_with fail
    rw [← HW0.out]
    clear c5 fz
    (with_reducible refine (HNX.out).mono ?_)
    rintro e W ⟨rfl, hb1⟩
    have HL0 := Lib.hid (HO.out W hb1)
    clear hb1 HNX HO HW0
    go_wp2_with fail
    clear q1
    go_loopw [7] (fun _ wr => ∃ b : Nat, b ≤ n ∧ Hid (OrL C R v ms w F b wr)) (fun _ wr => n - atOf RB wr)
    case atStart => exact ⟨a + 1, HAN.out, HL0⟩
    case round =>
      clear HL0
      obtain ⟨b, hb, HL⟩ := hrel
      obtain ⟨hat0, _hx⟩ := HL.out.at
      clear _hx
      have HCA := Lib.hid (HL.out.kid ok IH.out)
      rw [← HRB.out] at hat0
      have HAT := Lib.hid hat0
      clear hat0 HL
      go_wp2_with fail
      (with_reducible refine (HCA.out).mono ?_)
      intro e W2 hcase
      rcases hcase with ⟨rfl, hz, hfin⟩ | ⟨k, ks, kv, b', rfl, hbb, n4, hrow, hkl, hw2, hnext⟩
      · obtain ⟨z0, z1, z2, z3, z4, f0, f1, f2, f3, f4⟩ := hz
        have HFIN := Lib.hid hfin
        clear hfin HCA
        go_wp2_with fail
        refine bodyPost_ret (v := .tuple #[noNode, .bool false]) (by simp [results, Tryd.results48, go_sem, noNode, *]) rfl ?_
        exact HFIN.out _ _ _ _ _
      · obtain ⟨ko, kc, rfl⟩ := ownN_shape hrow
        have HROW := Lib.hid hrow; have HNEXT := Lib.hid hnext; have HBB := Lib.hid hbb; have HKL := Lib.hid hkl; have HW2 := Lib.hid hw2
        obtain ⟨nk, hnk⟩ : ∃ q, q = ks.length := ⟨_, rfl⟩
        rw [← hnk] at n4 HNEXT HROW
        have HNK := Lib.hid hnk
        clear hrow hnext hbb hkl HCA hnk hw2
        go_wp2_with (at_builtin; refine app_k rfl (.tmp 34) (.tmp 36) rfl (w.heap.size + 2) (.slice ko nk kc) ks rfl (by have h9 := ownN_below HROW.out ((Below.refl _ _).alloc (Nat.le_refl _) (.cells #[.int .i64 (k : Int)] 3)); rw [HNK.out] at h9 ⊢; exact h9) ⟨W2.heap.size, 0, none⟩ (k : Int) rfl (by simp [Addr.add]) (by have := HKL.out; omega) (by have := HW2.out; simp; omega) ?_)
        intro kv' w4 ho4 hg4 hat4
        obtain ⟨x4, xf, hLn⟩ := HNEXT.out (.cells #[.int .i64 (k : Int)] 3) kv' w4 (by simpa using ho4) hg4 (by simpa using hat4)
        obtain ⟨ko', kn', kc', rfl⟩ : ∃ o n c, kv' = .slice o n c := by obtain ⟨o, c, h⟩ := ownN_shape ho4; exact ⟨o, _, c, h⟩
        have hnx := hLn.nx ok
        have hlast := fun hc W hb => hLn.last ok hc (W := W) hb
        have hmore := fun hc W hb => hLn.more ok hc (W := W) hb
        have hbad := fun h1 h2 W hb => hLn.bad ok h1 h2 (W := W) hb
        obtain ⟨W5, hW5⟩ : ∃ W5, W5 = w4.setCell ⟨w.heap.size + 1, 4, none⟩ (.slice ko' kn' kc') := ⟨_, rfl⟩
        rw [← hW5] at hnx hlast hmore hbad
        rw [← HRB.out] at hnx hlast hmore
        have hbn : b' ≤ n := by rw [HNN.out]; exact hLn.at
        have hlt : ∀ ch : Int, ch ≠ -1 → nxR C.s b' = ch → b' + 1 ≤ n := fun ch h1 h2 => by rw [HNN.out]; exact nxR_lt (s := C.s) (k := b') (by rw [h2]; exact h1)
        obtain ⟨x, hx⟩ : ∃ x, x = nxR C.s b' := ⟨_, rfl⟩
        rw [← hx] at hnx hlast hmore hbad hlt
        have HNX := Lib.hid hnx; have HLA := Lib.hid hlast; have HMO := Lib.hid hmore; have HBA := Lib.hid hbad; have HW5 := Lib.hid hW5; have HLT := Lib.hid hlt
        clear ho4 hg4 hat4 HNEXT HROW hLn n4 hnx hlast hmore hbad hW5 hx hlt
        by_cases h125 : x = 125
        · subst h125
          have HLL := Lib.hid (HLA.out rfl)
          clear HLA HMO HBA HLT
          go_wp2_with fail
          rw [← HW5.out]
          clear x4 xf
          (with_reducible refine (HNX.out).mono ?_)
          rintro e W6 ⟨rfl, hb1⟩
          obtain ⟨kv, ⟨qo, qn, qc, rfl⟩, n0, n1, n2, n3, n4, hcall⟩ := HLL.out W6 hb1
          have HC := Lib.hid hcall
          clear hcall hb1 HNX HLL
          go_wp2_with fail
          (with_reducible refine (HC.out).mono ?_)
          rintro e W7 ⟨rfl, hz, hfin⟩
          obtain ⟨z0, z1, z2, z3, z4, f0, f1, f2, f3, f4⟩ := hz
          have HFIN := Lib.hid hfin
          clear hfin HC
          go_wp2_with fail
          refine bodyPost_ret (v := .tuple #[.agg #[.int .u8 7, .int .i32 0, .int .u32 0, .int .u32 0, .slice qo qn qc], .bool true]) (by simp [results, Tryd.results48, go_sem, *]) rfl ?_
          exact HFIN.out _ _ _ _ _
        · have q1 : ((x : Int) == 125) = false := by simpa using h125
          by_cases h124 : x = 124
          · subst h124
            have HMM := Lib.hid (HMO.out rfl)
            have HB6 := Lib.hid (HLT.out 124 (by decide) rfl)
            clear HLA HMO HBA HLT h125
            go_wp2_with fail
            rw [← HW5.out]
            clear x4 xf
            (with_reducible refine (HNX.out).mono ?_)
            rintro e W6 ⟨rfl, hb1⟩
            obtain ⟨c5, f5, hL6⟩ := HMM.out W6 hb1
            have HL6 := Lib.hid hL6
            have hb6 : b' < 70000 := by omega
            clear hL6 hb1 HNX HMM
            go_wp2_with fail
            go_roundw
            case rel => exact ⟨b' + 1, HB6.out, HL6⟩
            case measure =>
              obtain ⟨h3, h4⟩ := HL6.out.at
              rw [← HRB.out] at h3
              have := HBB.out
              have := HB6.out
              rw [h3, HAT.out]
              omega
          · have q2 : ((x : Int) == 124) = false := by simpa using h124
            have HBB2 := Lib.hid (HBA.out h125 h124)
            clear HLA HMO HBA HLT h125 h124
            go_wp2_with fail
            rw [← HW5.out]
            clear x4 xf
            (with_reducible refine (HNX.out).mono ?_)
            rintro e W6 ⟨rfl, hb1⟩
            obtain ⟨hz, hfin⟩ := HBB2.out W6 hb1
            obtain ⟨z0, z1, z2, z3, z4, f0, f1, f2, f3, f4⟩ := hz
            have HFIN := Lib.hid hfin
            clear hfin HBB2 hb1 HNX
            go_wp2_with fail
            refine bodyPost_ret (v := .tuple #[noNode, .bool false]) (by simp [results, Tryd.results48, go_sem, noNode, *]) rfl ?_
            exact HFIN.out _ _ _ _ _
end Go.Proofs.YtmechinlaladiaaDoor
namespace Go.Proofs.YtmechinlaladiaaDoor
open Go.RowKit Go.Lib
set_option linter.unusedVariables false

set_option maxHeartbeats 1000000 in
theorem idx_any (pr : Option Addr) (br r0 cr : Nat) (l : List Int) (x : Int) (w : World) (hR : RsIn pr br r0 l w) :
    Calls Tryd.prog 56 #[.slice pr l.length cr, .int .i32 x] w fun e w' => e = .returned (.int .i64 (idxI l x 0)) ∧ w' = w := by
  have hbig := hR.big
  obtain ⟨n, hn⟩ : ∃ n, n = l.length := ⟨_, rfl⟩
  rw [← hn] at hbig ⊢
  have HR := Lib.hid hR; have HN := Lib.hid hn
  clear hR hn
  go_enter Tryd.func56, Tryd.ntmps56
  go_wp2_with fail
  go_loop [8] (fun iv => ∃ k : Nat, iv = .int .i64 k ∧ k ≤ n ∧ Hid (idxI l x 0 = idxI (l.drop k) x k)) (fun iv => n - (intOf iv).toNat)
  case atStart => exact ⟨0, rfl, Nat.zero_le _, rfl⟩
  case round =>
    obtain ⟨k, rfl, hk, HK⟩ := hrel
    by_cases hkn : k < n
    · have hkl : k < l.length := by rw [← HN.out]; exact hkn
      obtain rfl := HR.out.at_ (by omega)
      have a0 := HR.out.cells k hkl
      have hy := idxI_yes l x k hkl
      have hno := idxI_no l x k hkl
      obtain ⟨q, hq⟩ : ∃ q, q = l.getD k 0 := ⟨_, rfl⟩
      rw [← hq] at a0 hy hno
      by_cases hxq : x = q
      · have HY := Lib.hid (hy hxq)
        have e1 : (x == q) = true := by simp [hxq]
        clear hy hno hq hkl hxq
        go_wp2_with fail
        go_ret
        exact ⟨by rw [HK.out, HY.out] <;> rfl, rfl⟩
      · have HNo := Lib.hid (hno hxq)
        have e1 : (x == q) = false := by simp [hxq]
        clear hy hno hq hkl hxq
        go_wp2_with fail
        go_round
        case rel => exact ⟨k + 1, by go_num, by omega, by show _ = _; rw [HK.out, HNo.out]⟩
        case measure => simp [intOf]; omega
    · go_wp2_with fail
      go_ret
      exact ⟨by rw [HK.out, idxI_end l x k (by rw [← HN.out]; omega)] <;> rfl, rfl⟩

set_option maxHeartbeats 1000000 in
theorem has_rune (pr : Option Addr) (br r0 cr : Nat) (l : List Int) (x : Int) (w : World) (hR : RsIn pr br r0 l w) :
    Calls Tryd.prog 42 #[.slice pr l.length cr, .int .i32 x] w fun e w' => e = .returned (.bool (decide (x ∈ l))) ∧ w' = w := by
  have hi := fun w h => idx_any pr br r0 cr l x w h
  have hm := idxI_mem l x 0
  obtain ⟨n, hn⟩ : ∃ n, n = l.length := ⟨_, rfl⟩
  obtain ⟨I, hI⟩ : ∃ i, i = idxI l x 0 := ⟨_, rfl⟩
  rw [← hn, ← hI] at hi
  rw [← hI] at hm
  rw [← hn]
  have HI := Lib.hid hi; have HR := Lib.hid hR; have HM := Lib.hid hm
  clear hi hR hn hm hI
  go_enter Tryd.func42, Tryd.ntmps42
  go_wp2_with fail
  refine (HI.out _ HR.out).mono ?_
  rintro e w1 ⟨rfl, rfl⟩
  go_wp2_with fail
  go_ret
  have hb : decide (x ∈ l) = decide (0 ≤ I) := by rw [decide_eq_decide]; exact HM.out.symm
  exact ⟨by rw [hb] <;> rfl, rfl⟩
end Go.Proofs.YtmechinlaladiaaDoor
namespace Go.Proofs.YtmechinlaladiaaDoor
open Go.RowKit Go.Lib Go.Sort
set_option linter.unusedVariables false

/-! ### plain -/
theorem revLoop_size : ∀ (n i j : Nat) (d : Array Int), j - i ≤ n → (reverseLoop i j d).size = d.size
  | n, i, j, d, h => by
    rw [reverseLoop]
    split
    · match n, h with
      | 0, h => omega
      | n + 1, h => rw [revLoop_size n _ _ _ (by omega), size_swp]
    · rfl
theorem revLoop_get : ∀ (n i j : Nat) (d : Array Int), j - i ≤ n → j < d.size → ∀ t, (reverseLoop i j d)[t]! = if i ≤ t ∧ t ≤ j then d[i + j - t]! else d[t]!
  | n, i, j, d, h, hj, t => by
    rw [reverseLoop]
    split
    · rename_i hij
      match n, h with
      | 0, h => omega
      | n + 1, h =>
        rw [revLoop_get n _ _ _ (by omega) (by rw [size_swp]; omega) t]
        by_cases h1 : i + 1 ≤ t ∧ t ≤ j - 1
        · rw [if_pos h1, if_pos (by omega), show i + 1 + (j - 1) - t = i + j - t by omega, swp_other _ _ _ _ (by omega) (by omega)]
        · rw [if_neg h1]
          by_cases h2 : t = i
          · subst h2; rw [if_pos (by omega), swp_left _ _ _ (by omega) (by omega), show t + j - t = j by omega]
          · by_cases h3 : t = j
            · subst h3; rw [if_pos (by omega), swp_right _ _ _ hj, show i + t - t = i by omega]
            · rw [if_neg (by omega), swp_other _ _ _ _ h2 h3]
    · rename_i hij
      by_cases h1 : i ≤ t ∧ t ≤ j
      · rw [if_pos h1, show i + j - t = t by omega]
      · rw [if_neg h1]
theorem getE (l : List Int) (t : Nat) : l.toArray[t]! = l.getD t 0 := by
  rw [List.getD_eq_getElem?_getD]
  by_cases h : t < l.length
  · rw [getElem!_pos _ t (by simpa using h), List.getElem?_eq_getElem h]; rfl
  · rw [getElem!_neg _ t (by simpa using h), List.getElem?_eq_none (by omega)]; rfl
theorem revLoop_all (l : List Int) : ∀ t, t < l.length → (reverseLoop 0 (l.length - 1) l.toArray)[t]! = l.reverse.getD t 0 := by
  intro t ht
  rw [revLoop_get (l.length - 1) 0 _ _ (by omega) (by simp; omega), if_pos (by omega), getE]
  rw [List.getD_eq_getElem?_getD, List.getD_eq_getElem?_getD, List.getElem?_reverse ht]
  congr 2
  omega

/-! ### a row of the call's own, as the sort's world -/
theorem own_row {B n : Nat} {v : Value} {l : List Int} {W : World} (h : W.ownsRow B 21 1 v n (l.map E32)) (hn : n = l.length) (h0 : 0 < n) :
    ∃ g cap, v = .slice (some ⟨g, 0, none⟩) n cap ∧ B ≤ g ∧ n ≤ cap ∧ RowR W g 0 l.toArray ∧ SR W g 0 l.toArray W := by
  rcases h.2 with ⟨_, h1⟩ | ⟨g, cap, cur, rfl, hB, hg, hc, hm, hsz, ht⟩
  · omega
  · have hH : Sort.Holds E32 W g 0 l.toArray := fun j hj => by
      have hj' : j < l.length := by simpa using hj
      have e2 : l.toArray[j]! = l.getD j 0 := getE l j
      have e := h.cellAt j (by omega)
      rw [List.getElem?_map, List.getElem?_eq_getElem hj'] at e
      constructor
      · rw [Nat.zero_add, e, e2, getD_at hj']; rfl
      · exact h.frozenAt _
    exact ⟨g, cap, rfl, hB, hc, ⟨oneE32, hH, (Array.getElem?_eq_some_iff.1 hg).1⟩, SW.start hH⟩

/-! ### runes.Text at such a row -/
end Go.Proofs.YtmechinlaladiaaDoor
