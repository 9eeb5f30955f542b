/-
  NODES WITH KIDS, as pattern's reader reads them: the kids' row under way.
  WALKS of pattern's reader: seq.
-/
import Derived.Test.YtmechinlaladiaaDoorZAR
namespace Go.Proofs.YtmechinlaladiaaDoor
open Go.RowKit Go.Lib
set_option linter.unusedVariables false

structure KdL (C : RdC) (kd : Nat) (v : Value) (ms : List NdM) (w : World) (l : List Tr) (ks : List Int) (b : Nat) (v' : Value) (ms' : List NdM) (kv : Value) (wr : World) : Prop where
  S : RdS C b v ms w (w.heap.size + 2) v' ms' wr
  ats : (ofL l).Ats (nds (ms ++ ms')) ks
  sz : ms'.length = (ofL l).sz
  row : wr.ownsRow (w.heap.size + 2) 3 1 kv ks.length (ks.map fun k => .int .i64 k)
  kap : ∀ k, kv.ownBlock = some k → ¬ v'.ownBlock = some k ∧ ∀ m ∈ ms', 0 < m.nd.ks.length → ¬ m.bk = k
  n0 : wr.cell? ⟨w.heap.size + 1, 0, none⟩ = some (.int .u8 kd)
  n1 : wr.cell? ⟨w.heap.size + 1, 1, none⟩ = some (.int .i32 0)
  n2 : wr.cell? ⟨w.heap.size + 1, 2, none⟩ = some (.int .u32 0)
  n3 : wr.cell? ⟨w.heap.size + 1, 3, none⟩ = some (.int .u32 0)
  n4 : wr.cell? ⟨w.heap.size + 1, 4, none⟩ = some kv
  nf : wr.frozen? ⟨w.heap.size + 1, 4, none⟩ = false
  rs : ZNode w.heap.size wr
  le : (ms ++ ms').length + 1 ≤ b
  bn : b ≤ (starts C.s).length
  bits : ∀ k ∈ ks, 0 ≤ k ∧ k < 100000
theorem KdL.nlt {C : RdC} {kd : Nat} {v : Value} {ms : List NdM} {w : World} {l : List Tr} {ks : List Int} {b : Nat} {v' : Value} {ms' : List NdM} {kv : Value} {wr : World} (h : KdL C kd v ms w l ks b v' ms' kv wr) : w.heap.size + 1 < wr.heap.size := blk_of_cell h.n0
/-- All but some blocks, none of them the call's. -/
theorem KdL.keep {C : RdC} {kd : Nat} {v : Value} {ms : List NdM} {w : World} {l : List Tr} {ks : List Int} {b : Nat} {v' : Value} {ms' : List NdM} {kv : Value} {wr : World} {X : Nat → Prop} (h : KdL C kd v ms w l ks b v' ms' kv wr) {W : World} {b' : Nat} (hS : RdS C b' v ms w (w.heap.size + 2) v' ms' W) (hb : But X wr W) (hx : ∀ k, X k → k < w.heap.size) (hb1 : b ≤ b') (hb2 : b' ≤ (starts C.s).length) : KdL C kd v ms w l ks b' v' ms' kv W := by
  have n : ¬ X (w.heap.size + 1) := fun e => by have := hx _ e; omega
  have hl := h.nlt
  exact ⟨hS, h.ats, h.sz, own_keep h.row hb (fun k hk e => by have := hx _ e; have := (h.row.lt k hk).1; omega), h.kap, hb.cell (p := ⟨w.heap.size + 1, 0, none⟩) h.n0 n, hb.cell (p := ⟨w.heap.size + 1, 1, none⟩) h.n1 n, hb.cell (p := ⟨w.heap.size + 1, 2, none⟩) h.n2 n, hb.cell (p := ⟨w.heap.size + 1, 3, none⟩) h.n3 n, hb.cell (p := ⟨w.heap.size + 1, 4, none⟩) h.n4 n,
    (hb.frozen (p := ⟨w.heap.size + 1, 4, none⟩) hl n).trans h.nf, h.rs.keep hb (fun e => by have := hx _ e; omega), Nat.le_trans h.le hb1, hb2, h.bits⟩
theorem KdL.next {C : RdC} (ok : C.Ok) {kd : Nat} {v : Value} {ms : List NdM} {w : World} {l : List Tr} {ks : List Int} {b : Nat} {v' : Value} {ms' : List NdM} {kv : Value} {wr W : World} (h : KdL C kd v ms w l ks b v' ms' kv wr) (hb : Below wr.heap.size wr W) : KdL C kd v ms w l ks b v' ms' kv W :=
  h.keep (X := fun _ => False) (h.S.next ok hb) (But.of_below hb) (fun _ e => e.elim) (Nat.le_refl _) h.bn
theorem KdL.setAt {C : RdC} (ok : C.Ok) {kd : Nat} {v : Value} {ms : List NdM} {w : World} {l : List Tr} {ks : List Int} {b : Nat} {v' : Value} {ms' : List NdM} {kv : Value} {wr : World} (h : KdL C kd v ms w l ks b v' ms' kv wr) (b' : Nat) (z : Int) (hz : z = (b' : Int)) (hb1 : b ≤ b') (hb2 : b' ≤ (starts C.s).length) : KdL C kd v ms w l ks b' v' ms' kv (wr.setCell ⟨C.RB, 5, none⟩ (.int .i64 z)) :=
  h.keep (X := fun q => q = C.RB) (h.S.setAt ok b' z hz) ((But.refl (fun q => q = C.RB) wr).setCell (p := ⟨C.RB, 5, none⟩) (fun _ => rfl) _) (fun k e => h.S.loF k (Or.inl e)) hb1 hb2
/-- A kid was read: what the append wants, and what comes of it. -/
theorem KdL.kid {C : RdC} (ok : C.Ok) {kd : Nat} {v : Value} {ms : List NdM} {w : World} {l : List Tr} {ks : List Int} {b : Nat} {v' : Value} {ms' : List NdM} {kv : Value} {wr : World} (h : KdL C kd v ms w l ks b v' ms' kv wr) {t : Tr} {b' : Nat} {e : Ending} {w2 : World}
    (hp : NumPost C (.ok (t, b')) v' (ms ++ ms') wr e w2) (hbb : b + t.sz ≤ b') (hbn : b' ≤ (starts C.s).length) :
    ∃ (k : Nat) (v2 : Value) (ms2 : List NdM), e = .returned (.tuple #[.int .i64 k, .bool true]) ∧ w2.cell? ⟨w.heap.size + 1, 4, none⟩ = some kv ∧ w2.ownsRow (w.heap.size + 2) 3 1 kv ks.length (ks.map fun k => .int .i64 k) ∧ ks.length < 100000 ∧ w.heap.size + 2 ≤ w2.heap.size ∧
      ∀ O kv' w4, w4.ownsRow (w.heap.size + 2) 3 1 kv' (ks ++ [(k : Int)]).length ((ks ++ [(k : Int)]).map fun k => .int .i64 k) → (w2.alloc O).grownBy w4 kv.ownBlock → (kv'.ownBlock = kv.ownBlock ∨ kv'.ownBlock = some (w2.alloc O).heap.size) →
        w4.cell? ⟨w.heap.size + 1, 4, none⟩ = some kv ∧ w4.frozen? ⟨w.heap.size + 1, 4, none⟩ = false ∧ KdL C kd v ms w (l ++ [t]) (ks ++ [(k : Int)]) b' v2 ms2 kv' (w4.setCell ⟨w.heap.size + 1, 4, none⟩ kv') := by
  obtain ⟨k, v2, m2, he, hA, hG, hat, hm2, hk⟩ := hp
  have hi := h.S.hiW
  have hS2 := h.S.grow hA hG
  have hbig := starts_most C.s
  have hsz := ok.size
  have hkl : ks.length = l.length := by rw [Ts.Ats_length h.ats, ofL_len]
  have hl2 : l.length ≤ (ofL l).sz := by have := Ts.len_le (ofL l); rw [ofL_len] at this; exact this
  have hle := h.le
  have hmss : ms'.length = (ofL l).sz := h.sz
  simp only [List.length_append] at hle
  have hs2 := hG.but.size
  have hkb : ∀ q, kv.ownBlock = some q → w.heap.size + 2 ≤ q ∧ q < wr.heap.size := fun q hq => h.row.lt q hq
  have hvown : ∀ q, v'.ownBlock = some q → q < w.heap.size ∨ w.heap.size + 2 ≤ q := fun q hq => by
    rcases h.S.vat with e2 | ⟨b', e2, hb'⟩
    · exact Or.inl (h.S.lov q (e2 ▸ hq))
    · rw [e2] at hq; cases hq; exact Or.inr hb'
  have hRw := h.S.loF C.RB (Or.inl rfl)
  have hX : ∀ q, kv.ownBlock = some q → ¬ (q = C.RB ∨ v'.ownBlock = some q) := fun q hq e => by
    have := hkb q hq
    rcases e with e | e
    · omega
    · exact (h.kap q hq).1 e
  have hNX : ∀ q, w.heap.size ≤ q → q < w.heap.size + 2 → ¬ (q = C.RB ∨ v'.ownBlock = some q) := fun q h1 h2 e => by
    rcases e with e | e
    · omega
    · have := hvown q e; omega
  have hrow2 := own_keep h.row hG.but hX
  have nn := hNX (w.heap.size + 1) (by omega) (by omega)
  have hl := h.nlt
  have c0 := hG.but.cell (p := ⟨w.heap.size + 1, 0, none⟩) h.n0 nn
  have c1 := hG.but.cell (p := ⟨w.heap.size + 1, 1, none⟩) h.n1 nn
  have c2 := hG.but.cell (p := ⟨w.heap.size + 1, 2, none⟩) h.n2 nn
  have c3 := hG.but.cell (p := ⟨w.heap.size + 1, 3, none⟩) h.n3 nn
  have c4 := hG.but.cell (p := ⟨w.heap.size + 1, 4, none⟩) h.n4 nn
  have cf := (hG.but.frozen (p := ⟨w.heap.size + 1, 4, none⟩) hl nn).trans h.nf
  have hz := h.rs.keep hG.but (hNX w.heap.size (Nat.le_refl _) (by omega))
  refine ⟨k, v2, ms' ++ m2, he, c4, hrow2, by omega, by omega, ?_⟩
  intro O kv' w4 ho hg hk'
  have hB1 : Below w2.heap.size w2 (w2.alloc O) := (Below.refl _ _).alloc (Nat.le_refl _) O
  have hB4 : But (fun q => kv.ownBlock = some q) w2 w4 := (But.of_below (X := fun q => kv.ownBlock = some q) hB1).trans (But.of_grown hg (fun k e => e)) (fun i _ e => e)
  have hx1 : ¬ kv.ownBlock = some (w.heap.size + 1) := fun e => by have := hkb _ e; omega
  have hx0 : ¬ kv.ownBlock = some w.heap.size := fun e => by have := hkb _ e; omega
  have hv2k : ∀ q, kv.ownBlock = some q → ¬ v2.ownBlock = some q := fun q hq e => by
    have := hkb q hq
    rcases hG.vat with e2 | ⟨b', e2, hb'⟩
    · exact (h.kap q hq).1 (e2 ▸ e)
    · rw [e2] at e; cases e; omega
  have hm2k : ∀ q, kv.ownBlock = some q → ∀ m ∈ ms' ++ m2, 0 < m.nd.ks.length → ¬ m.bk = q := fun q hq m hm h0 e => by
    have := hkb q hq
    rcases List.mem_append.1 hm with hm | hm
    · exact (h.kap q hq).2 m hm h0 e
    · have := (hG.frk m hm h0).1; omega
  have hS4 : RdS C b' v ms w (w.heap.size + 2) v2 (ms' ++ m2) w4 := by
    have hmsk : ∀ m ∈ ms ++ (ms' ++ m2), 0 < m.nd.ks.length → ¬ kv.ownBlock = some m.bk := fun m hm h0 e => by
      have := hkb _ e
      rcases List.mem_append.1 hm with hm | hm
      · have := h.S.lok m hm h0; omega
      · exact hm2k _ e m hm h0 rfl
    refine ⟨hS2.at_.keep ok hB4 (fun q e => ?_), hS2.n.keep hB4 (fun q hq e => hv2k q e hq) hmsk, fun m hm => (hS2.frk m hm).keep hB4 (fun h0 => hmsk m (List.mem_append_right _ hm) h0), hS2.but.trans hB4 (fun i hi e => by have := hkb i e; omega), hS2.vat, h.S.lo1, h.S.loF, h.S.lov, h.S.lok, h.S.hi0, Nat.le_trans hS2.hiW hB4.size⟩
    have := hkb q e
    have := h.S.lo1
    exact ⟨by omega, fun f => by have := h.S.loF q f; omega⟩
  have d4 := hB4.cell (p := ⟨w.heap.size + 1, 4, none⟩) c4 hx1
  have df := (hB4.frozen (p := ⟨w.heap.size + 1, 4, none⟩) (show w.heap.size + 1 < w2.heap.size by omega) hx1).trans cf
  have hB5 : But (fun q => q = w.heap.size + 1) w4 (w4.setCell ⟨w.heap.size + 1, 4, none⟩ kv') := (But.refl (fun q => q = w.heap.size + 1) w4).setCell (p := ⟨w.heap.size + 1, 4, none⟩) (fun _ => rfl) _
  have hkb' : ∀ q, kv'.ownBlock = some q → w.heap.size + 2 ≤ q := fun q hq => (ho.lt q hq).1
  have hs4 := hB4.size
  refine ⟨d4, df, hS4.loc ok hB5 (fun q e => by omega), ?_, ?_, own_keep ho hB5 (fun q hq e => by have := hkb' q hq; omega), ?_, ?_, ?_, ?_, ?_, ?_, ?_, ?_, ?_, ?_, ?_⟩
  · have h1 := Ts.Ats_more (nds m2) h.ats
    rw [← nds_app, List.append_assoc] at h1
    rw [List.append_assoc] at hat
    exact ofL_Ats h1 hat
  · rw [ofL_snoc, List.length_append, hm2, hmss]
  · intro q hq
    rcases hk' with e | e
    · have hq' := e ▸ hq
      exact ⟨hv2k q hq', hm2k q hq'⟩
    · rw [e] at hq
      cases hq
      have hz1 : w2.heap.size ≤ (w2.alloc O).heap.size := hB1.size
      refine ⟨fun e2 => ?_, fun m hm h0 e2 => ?_⟩
      · have := (hS2.n.out.own.lt _ e2).2; omega
      · have := (hS2.n.out.kids m (List.mem_append_right _ hm)).lt h0; omega
  · exact (World.cell?_setCell_other _ _ _ _ (by simp)).trans (hB4.cell (p := ⟨w.heap.size + 1, 0, none⟩) c0 hx1)
  · exact (World.cell?_setCell_other _ _ _ _ (by simp)).trans (hB4.cell (p := ⟨w.heap.size + 1, 1, none⟩) c1 hx1)
  · exact (World.cell?_setCell_other _ _ _ _ (by simp)).trans (hB4.cell (p := ⟨w.heap.size + 1, 2, none⟩) c2 hx1)
  · exact (World.cell?_setCell_other _ _ _ _ (by simp)).trans (hB4.cell (p := ⟨w.heap.size + 1, 3, none⟩) c3 hx1)
  · exact World.cell?_setCell_same _ _ _ d4
  · rw [World.frozen?_setCell]; exact df
  · exact (hz.keep hB4 hx0).keep hB5 (fun e => by omega)
  · simp only [List.length_append]; omega
  · exact hbn
  · intro z hz
    rcases List.mem_append.1 hz with hz | hz
    · exact h.bits z hz
    · rw [List.mem_singleton.1 hz]
      simp only [List.length_append] at hk
      omega
theorem KdL.start {C : RdC} (ok : C.Ok) {a : Nat} {v : Value} {ms : List NdM} {w : World} (h : RdAt C a v w) (hn : RdN C v ms w) (hl : ms.length ≤ a) (ha : a < (starts C.s).length) (kd : Nat) (kz z : Int) (hkz : kz = (kd : Int)) (hz : z = (a : Int) + 1) (W : World) (hW : W = ((w.alloc (.cells #[.int .u8 0, .int .i32 0, .int .u32 0, .int .u32 0, .slice none 0 0] 36)).alloc (.cells #[.int .u8 kz, .int .i32 0, .int .u32 0, .int .u32 0, .slice none 0 0] 36))) :
    KdL C kd v ms w [] [] (a + 1) v [] (.slice none 0 0) (W.setCell ⟨C.RB, 5, none⟩ (.int .i64 z)) := by
  subst hkz
  have hb : Below w.heap.size w W := by rw [hW]; exact ((Below.refl _ _).alloc (Nat.le_refl _) _).alloc (by simp) _
  have hz1 : W.heap.size = w.heap.size + 2 := by rw [hW]; simp
  have hS := RdS.start ok h hn hb (hi := w.heap.size + 2) (by omega) (by omega)
  have hB1 : Below (w.alloc (.cells #[.int .u8 0, .int .i32 0, .int .u32 0, .int .u32 0, .slice none 0 0] 36)).heap.size (w.alloc (.cells #[.int .u8 0, .int .i32 0, .int .u32 0, .int .u32 0, .slice none 0 0] 36)) W := by rw [hW]; exact (Below.refl _ _).alloc (Nat.le_refl _) _
  have hz0 := (ZNode.new w 36).next hB1
  obtain ⟨q0, q1, q2, q3, q4, qf⟩ : W.cell? ⟨w.heap.size + 1, 0, none⟩ = some (.int .u8 kd) ∧ W.cell? ⟨w.heap.size + 1, 1, none⟩ = some (.int .i32 0) ∧ W.cell? ⟨w.heap.size + 1, 2, none⟩ = some (.int .u32 0) ∧ W.cell? ⟨w.heap.size + 1, 3, none⟩ = some (.int .u32 0) ∧ W.cell? ⟨w.heap.size + 1, 4, none⟩ = some (.slice none 0 0) ∧ W.frozen? ⟨w.heap.size + 1, 4, none⟩ = false := by
    have e : w.heap.size + 1 = (w.alloc (.cells #[.int .u8 0, .int .i32 0, .int .u32 0, .int .u32 0, .slice none 0 0] 36)).heap.size := by simp
    rw [hW, e]
    simp
  have h0 : KdL C kd v ms w [] [] (a + 1) v [] (.slice none 0 0) (W.setCell ⟨C.RB, 5, none⟩ (.int .i64 z)) := by
    have hB5 : But (fun q => q = C.RB) W (W.setCell ⟨C.RB, 5, none⟩ (.int .i64 z)) := (But.refl (fun q => q = C.RB) W).setCell (p := ⟨C.RB, 5, none⟩) (fun _ => rfl) _
    have hR := hS.loF C.RB (Or.inl rfl)
    have n : ¬ (fun q => q = C.RB) (w.heap.size + 1) := fun e => by have e' : w.heap.size + 1 = C.RB := e; omega
    exact ⟨hS.setAt ok (a + 1) z (by omega), rfl, rfl, World.ownsRow_nil _ _ _ _, (fun k e => by cases e), hB5.cell (p := ⟨w.heap.size + 1, 0, none⟩) q0 n, hB5.cell (p := ⟨w.heap.size + 1, 1, none⟩) q1 n, hB5.cell (p := ⟨w.heap.size + 1, 2, none⟩) q2 n, hB5.cell (p := ⟨w.heap.size + 1, 3, none⟩) q3 n, hB5.cell (p := ⟨w.heap.size + 1, 4, none⟩) q4 n, (hB5.frozen (p := ⟨w.heap.size + 1, 4, none⟩) (show w.heap.size + 1 < W.heap.size by omega) n).trans qf, hz0.keep hB5 (fun e => by have e' : w.heap.size = C.RB := e; omega), (by rw [List.append_nil]; omega), ha, (fun k hk => by cases hk)⟩
  exact h0
/-- The node is whole. -/
theorem KdL.fin {C : RdC} (ok : C.Ok) {kd : Nat} (hkd : kd < 256) {v : Value} {ms : List NdM} {w : World} {l : List Tr} {ks : List Int} {b : Nat} {v' : Value} {ms' : List NdM} {kv : Value} {W : World} (h : KdL C kd v ms w l ks b v' ms' kv W) {R : Rs} (hR : R = .ok (.nd kd 0 0 0 (ofL l), b)) (kz : Int) (hkz : kz = (kd : Int)) {W' : World} {X : Nat → Prop} (hb : But X W W') (hx : ∀ k, X k → k = w.heap.size) :
    NodPost C R v ms w (.returned (.tuple #[.agg #[.int .u8 kz, .int .i32 0, .int .u32 0, .int .u32 0, kv], .bool true])) W' := by
  subst hR
  subst hkz
  have h1 : ks.length = l.length := by rw [Ts.Ats_length h.ats, ofL_len]
  have h2 := Ts.len_le (ofL l)
  rw [ofL_len] at h2
  have h3 := h.sz
  have h4 := h.le
  have h5 := h.bn
  have h6 := starts_most C.s
  have h7 := ok.size
  simp only [List.length_append] at h4
  obtain ⟨pk, bk, c, hkv, hKs, hkb⟩ := own_ks h.row (by omega) (fun k hk => by have := h.bits k hk; omega)
  have hS := h.S.loc ok hb (fun k e => by have := hx k e; omega)
  have hnx : 0 < ks.length → ¬ X bk := fun h0 e => by have := hx _ e; have := (hkb h0).1; omega
  refine ⟨⟨⟨kd, 0, 0, 0, ks⟩, pk, bk, 0, c⟩, v', ms', by rw [hkv]; rfl, hS.at_, hS.fin, ⟨rfl, rfl, rfl, rfl, h.ats⟩, ?_, hKs.keep hb hnx, fun h0 => ?_, fun h0 => ?_, ⟨hkd, ⟨(by show (-2147483648 : Int) ≤ 0; decide), (by show (0 : Int) ≤ 2147483647; decide)⟩, (by show (0 : Nat) < 4294967296; decide), (by show (0 : Nat) < 4294967296; decide)⟩⟩
  · have := h.sz; simp only [Tr.sz]; omega
  · have hk := hkb h0
    exact ⟨(h.kap bk hk.2).1, fun f => by have h1 := h.S.loF _ f; have h2 : (⟨⟨kd, 0, 0, 0, ks⟩, pk, bk, 0, c⟩ : NdM).bk = bk := rfl; omega⟩
  · have hk := hkb h0
    have hlt := (h.row.lt bk hk.2).2
    exact ⟨(show w.heap.size ≤ bk by omega), (show bk < W'.heap.size from Nat.lt_of_lt_of_le hlt hb.size), fun o => (hb.frozen (p := ⟨bk, o, none⟩) hlt (hnx h0)).trans (own_unfrozen h.row hk.2 o)⟩
end Go.Proofs.YtmechinlaladiaaDoor
namespace Go.Proofs.YtmechinlaladiaaDoor
open Go.RowKit Go.Lib
set_option linter.unusedVariables false

/-- What the closure does with less fuel than F. -/
def NodeIH (C : RdC) (F : Nat) : Prop := ∀ f, f < F → ∀ (a : Nat) (v : Value) (ms : List NdM) (w : World), RdAt C a v w → RdN C v ms w → ms.length ≤ a → a ≤ (starts C.s).length → 2 * ((starts C.s).length - a) + 1 ≤ f →
  Calls Tryd.prog 30 #[.pointer (some ⟨C.PB, 0, none⟩), .pointer (some ⟨C.NB, 0, none⟩)] w (NumPost C (rdF C.A C.s f .node a) v ms w)
/-- The loop of seq. -/
structure SqL (C : RdC) (R : Rs) (v : Value) (ms : List NdM) (w : World) (F b : Nat) (wr : World) : Prop where
  ex : ∃ l ks v' ms' kv g, KdL C 6 v ms w l ks b v' ms' kv wr ∧ rdF C.A C.s g (.seq l) b = R ∧ 2 * ((starts C.s).length - b) + 2 ≤ g ∧ g ≤ F
theorem SqL.at {C : RdC} {R : Rs} {v : Value} {ms : List NdM} {w : World} {F b : Nat} {wr : World} (h : SqL C R v ms w F b wr) : atOf C.RB wr = b ∧ b ≤ (starts C.s).length := by
  obtain ⟨l, ks, v', ms', kv, g, hK, _⟩ := h.ex
  unfold atOf
  rw [hK.S.at_.c5]
  exact ⟨by simp [intOf], hK.bn⟩
theorem SqL.nx {C : RdC} (ok : C.Ok) {R : Rs} {v : Value} {ms : List NdM} {w : World} {F b : Nat} {wr : World} (h : SqL C R v ms w F b wr) : Calls Tryd.prog 34 #[.pointer (some ⟨C.RB, 0, none⟩)] wr fun e w' => e = .returned (.int .i32 (nxR C.s b)) ∧ Below wr.heap.size wr w' := by
  obtain ⟨l, ks, v', ms', kv, g, hK, _⟩ := h.ex
  exact next_any C ok b v' wr hK.S.at_ hK.bn
/-- Behind the last kid. -/
theorem SqL.last {C : RdC} (ok : C.Ok) {R : Rs} {v : Value} {ms : List NdM} {w : World} {F b : Nat} {wr : World} (h : SqL C R v ms w F b wr) (hc : nxR C.s b = 41) {W : World} (hb : Below wr.heap.size wr W) :
    ∃ kv : Value, (∃ o n c, kv = .slice o n c) ∧ W.cell? ⟨w.heap.size + 1, 0, none⟩ = some (.int .u8 6) ∧ W.cell? ⟨w.heap.size + 1, 1, none⟩ = some (.int .i32 0) ∧ W.cell? ⟨w.heap.size + 1, 2, none⟩ = some (.int .u32 0) ∧ W.cell? ⟨w.heap.size + 1, 3, none⟩ = some (.int .u32 0) ∧ W.cell? ⟨w.heap.size + 1, 4, none⟩ = some kv ∧
      Calls Tryd.prog 50 #[.pointer (some ⟨C.RB, 0, none⟩), .agg #[.int .u8 6, .int .i32 0, .int .u32 0, .int .u32 0, kv]] W (fun e w' => e = .returned (.tuple #[.agg #[.int .u8 6, .int .i32 0, .int .u32 0, .int .u32 0, kv], .bool true]) ∧ ZNode w.heap.size w' ∧
        ∀ u0 u1 u2 u3 u4, NodPost C R v ms w (.returned (.tuple #[.agg #[.int .u8 6, .int .i32 0, .int .u32 0, .int .u32 0, kv], .bool true])) (((((w'.setCell ⟨w.heap.size, 0, none⟩ u0).setCell ⟨w.heap.size, 1, none⟩ u1).setCell ⟨w.heap.size, 2, none⟩ u2).setCell ⟨w.heap.size, 3, none⟩ u3).setCell ⟨w.heap.size, 4, none⟩ u4)) := by
  obtain ⟨l, ks, v', ms', kv, g, hK, hR, hg, hF⟩ := h.ex
  have hlt : b < (starts C.s).length := nxR_lt (s := C.s) (k := b) (by rw [hc]; decide)
  have hbig := starts_most C.s
  have hsize := ok.size
  have hK1 := hK.next ok hb
  obtain ⟨o, c, hkv⟩ := ownN_shape hK1.row
  refine ⟨kv, ⟨o, _, c, hkv⟩, hK1.n0, hK1.n1, hK1.n2, hK1.n3, hK1.n4, ?_⟩
  subst hkv
  refine (taken_any C ok b v' 6 0 0 0 o _ c W hK1.S.at_ (by omega)).mono ?_
  rintro e w' ⟨he, hA, hB⟩
  have hK2 : KdL C 6 v ms w l ks (b + 1) v' ms' (.slice o ks.length c) w' := hK1.keep (hK1.S.boxR hA hB) hB (fun k e => hK1.S.loF k (Or.inl e)) (by omega) hlt
  refine ⟨he, hK2.rs, fun u0 u1 u2 u3 u4 => ?_⟩
  have hR2 : R = .ok (.nd 6 0 0 0 (ofL l), b + 1) := by
    rw [← hR]
    obtain ⟨g, rfl⟩ : ∃ q, g = q + 1 := ⟨g - 1, by omega⟩
    rw [rdF, if_pos hc]
  exact hK2.fin ok (by decide) hR2 6 rfl (but5 w.heap.size w' u0 u1 u2 u3 u4) (fun k e => e)
/-- One kid more, or a wrong one. -/
theorem SqL.more {C : RdC} (ok : C.Ok) {R : Rs} {v : Value} {ms : List NdM} {w : World} {F b : Nat} {wr : World} (ih : NodeIH C F) (h : SqL C R v ms w F b wr) (hc : ¬ nxR C.s b = 41) {W : World} (hb : Below wr.heap.size wr W) :
    Calls Tryd.prog 30 #[.pointer (some ⟨C.PB, 0, none⟩), .pointer (some ⟨C.NB, 0, none⟩)] W fun e w2 =>
      (e = .returned (.tuple #[.int .i64 0, .bool false]) ∧ ZNode w.heap.size w2 ∧ ∀ u0 u1 u2 u3 u4, NodPost C R v ms w (.returned (.tuple #[noNode, .bool false])) (((((w2.setCell ⟨w.heap.size, 0, none⟩ u0).setCell ⟨w.heap.size, 1, none⟩ u1).setCell ⟨w.heap.size, 2, none⟩ u2).setCell ⟨w.heap.size, 3, none⟩ u3).setCell ⟨w.heap.size, 4, none⟩ u4)) ∨
      (∃ (k : Nat) (ks : List Int) (kv : Value) (b' : Nat), e = .returned (.tuple #[.int .i64 k, .bool true]) ∧ b < b' ∧ w2.cell? ⟨w.heap.size + 1, 4, none⟩ = some kv ∧ w2.ownsRow (w.heap.size + 2) 3 1 kv ks.length (ks.map fun k => .int .i64 k) ∧ ks.length < 100000 ∧ w.heap.size + 2 ≤ w2.heap.size ∧
        ∀ O kv' w4, w4.ownsRow (w.heap.size + 2) 3 1 kv' (ks ++ [(k : Int)]).length ((ks ++ [(k : Int)]).map fun k => .int .i64 k) → (w2.alloc O).grownBy w4 kv.ownBlock → (kv'.ownBlock = kv.ownBlock ∨ kv'.ownBlock = some (w2.alloc O).heap.size) →
          w4.cell? ⟨w.heap.size + 1, 4, none⟩ = some kv ∧ w4.frozen? ⟨w.heap.size + 1, 4, none⟩ = false ∧ SqL C R v ms w F b' (w4.setCell ⟨w.heap.size + 1, 4, none⟩ kv')) := by
  obtain ⟨l, ks, v', ms', kv, g, hK, hR, hg, hF⟩ := h.ex
  have hK1 := hK.next ok hb
  obtain ⟨g, rfl⟩ : ∃ q, g = q + 1 := ⟨g - 1, by omega⟩
  have hle := hK1.le
  refine (ih g (by omega) b v' (ms ++ ms') W hK1.S.at_ hK1.S.n (by omega) hK1.bn (by omega)).mono ?_
  intro e w2 hp
  cases hq : rdF C.A C.s g .node b with
  | error q =>
    rw [hq] at hp
    obtain ⟨he, v2, hA, hB⟩ := hp
    have hR2 : R = .error q := by rw [← hR, rdF, if_neg hc, hq]
    have hvown : ∀ q, v'.ownBlock = some q → q < w.heap.size ∨ w.heap.size + 2 ≤ q := fun q hq => by
      rcases hK1.S.vat with e2 | ⟨b', e2, hb'⟩
      · exact Or.inl (hK1.S.lov q (e2 ▸ hq))
      · rw [e2] at hq; cases hq; exact Or.inr hb'
    have hRw := hK1.S.loF C.RB (Or.inl rfl)
    have hz := hK1.rs.keep hB (fun e => by
      rcases e with e | e
      · omega
      · have := hvown _ e; omega)
    refine Or.inl ⟨he, hz, fun u0 u1 u2 u3 u4 => ?_⟩
    subst hR2
    have hbt := but5 w.heap.size w2 u0 u1 u2 u3 u4
    have hA2 := hA.keep ok hbt (fun k e => by
      have e' : k = w.heap.size := e
      have := hK1.S.lo1
      exact ⟨by omega, fun f => by have := hK1.S.loF k f; omega⟩)
    refine ⟨rfl, v2, hA2, (hK1.S.but.trans hB (fun i hi e => ?_)).trans hbt (fun i hi e => by have e' : i = w.heap.size := e; omega)⟩
    rcases e with e | e
    · exact Or.inl e
    · rcases hK1.S.vat with e2 | ⟨b', e2, hb'⟩
      · exact Or.inr (e2 ▸ e)
      · rw [e2] at e; cases e; omega
  | ok q =>
    obtain ⟨t, b'⟩ := q
    rw [hq] at hp
    obtain ⟨h1, h2, h3⟩ := rdF_sz C.A C.s g .node b t b' hK1.bn hq
    simp only [mdSz, Nat.add_zero] at h3
    obtain ⟨k, v2, ms2, he, hc4, hrow, hkl, hw2, hnext⟩ := hK1.kid ok hp h3 h1
    refine Or.inr ⟨k, ks, kv, b', he, by omega, hc4, hrow, hkl, hw2, fun O kv' w4 ho hg4 hk' => ?_⟩
    obtain ⟨x4, xf, hKn⟩ := hnext O kv' w4 ho hg4 hk'
    refine ⟨x4, xf, ⟨l ++ [t], ks ++ [(k : Int)], v2, ms2, kv', g, hKn, ?_, by omega, by omega⟩⟩
    rw [← hR, rdF, if_neg hc, hq]
set_option maxHeartbeats 4000000 in
set_option maxRecDepth 100000 in
theorem rdseq_any (C : RdC) (ok : C.Ok) (F a : Nat) (ih : NodeIH C F) (v : Value) (ms : List NdM) (w : World) (h : RdAt C a v w) (hn : RdN C v ms w) (hl : ms.length ≤ a) (ha : a < (starts C.s).length) (hF : 2 * ((starts C.s).length - (a + 1)) + 2 ≤ F) :
    Calls Tryd.prog 47 #[.pointer (some ⟨C.RB, 0, none⟩), C.fn] w (NodPost C (rdF C.A C.s F (.seq []) (a + 1)) v ms w) := by
  obtain ⟨R, hR⟩ : ∃ R, R = rdF C.A C.s F (.seq []) (a + 1) := ⟨_, rfl⟩
  rw [← hR]
  have h0 : SqL C R v ms w F (a + 1) (((w.setCell ⟨C.RB, 5, none⟩ (.int .i64 ((a : Int) + 1))).alloc (.cells #[.int .u8 0, .int .i32 0, .int .u32 0, .int .u32 0, .slice none 0 0] 36)).alloc (.cells #[.int .u8 6, .int .i32 0, .int .u32 0, .int .u32 0, .slice none 0 0] 36)) := by
    have h1 := KdL.start ok h hn hl ha 6 6 ((a : Int) + 1) rfl rfl _ rfl
    rw [World.setCell_alloc_past (hn := by have := h.rlt; simp; omega), World.setCell_alloc_past (hn := h.rlt)] at h1
    exact ⟨[], [], v, [], .slice none 0 0, F, h1, hR.symm, hF, Nat.le_refl _⟩
  have c5 := h.c5; have fz := h.fz 5; have hlt := h.rlt
  have hfn : C.fn = .func (.func 30) #[] #[.pointer (some ⟨C.PB, 0, none⟩), .pointer (some ⟨C.NB, 0, none⟩)] := rfl
  rw [hfn]
  have hbig := starts_most C.s
  have hsize := ok.size
  obtain ⟨RB, hRB⟩ : ∃ b, b = C.RB := ⟨_, rfl⟩
  obtain ⟨n, hnn⟩ : ∃ b, b = (starts C.s).length := ⟨_, rfl⟩
  have hn6 : n ≤ 65536 := by omega
  have ha6 : a < 65536 := by omega
  rw [← hRB] at c5 fz hlt h0 ⊢
  have HAN := Lib.hid (show a + 1 ≤ n by omega)
  have H0 := Lib.hid h0; have HRB := Lib.hid hRB; have HNN := Lib.hid hnn; have IH := Lib.hid ih
  clear h0 hRB hnn ih h hn hl ha hF hR hfn hbig hsize
  go_enter Tryd.func47, Tryd.ntmps47
  go_wp2_with fail
  have HNW := Lib.hid (show w.heap.size + 1 < (((w.setCell ⟨RB, 5, none⟩ (.int .i64 ((a : Int) + 1))).alloc (.cells #[.int .u8 0, .int .i32 0, .int .u32 0, .int .u32 0, .slice none 0 0] 36)).alloc (.cells #[.int .u8 6, .int .i32 0, .int .u32 0, .int .u32 0, .slice none 0 0] 36)).heap.size by simp)
  clear c5 fz
  go_loopw [7] (fun _ wr => ∃ b : Nat, b ≤ n ∧ Hid (SqL C R v ms w F b wr)) (fun _ wr => n - atOf RB wr)
  case atStart => exact ⟨a + 1, HAN.out, H0⟩
  case round =>
    clear H0 HNW
    obtain ⟨b, hb, HL⟩ := hrel
    obtain ⟨hat0, _hx⟩ := HL.out.at
    clear _hx
    have hnx := HL.out.nx ok
    have hlast := fun hc W hb => HL.out.last ok hc (W := W) hb
    have hmore := fun hc W hb => HL.out.more ok IH.out hc (W := W) hb
    rw [← HRB.out] at hnx hat0 hlast
    obtain ⟨x, hx⟩ : ∃ x, x = nxR C.s b := ⟨_, rfl⟩
    rw [← hx] at hnx hlast hmore
    have HNX := Lib.hid hnx; have HLA := Lib.hid hlast; have HMO := Lib.hid hmore; have HAT := Lib.hid hat0
    clear hnx hlast hmore hat0 hx
    by_cases h41 : x = 41
    · subst h41
      have HLL := Lib.hid (HLA.out rfl)
      clear HMO HLA
      go_wp2_with fail
      (with_reducible refine (HNX.out).mono ?_)
      rintro e W ⟨rfl, hb1⟩
      obtain ⟨kv, ⟨ko, kn, kc, rfl⟩, n0, n1, n2, n3, n4, hcall⟩ := HLL.out W hb1
      have HC := Lib.hid hcall
      clear hcall hb1 HNX HLL
      go_wp2_with fail
      (with_reducible refine (HC.out).mono ?_)
      rintro e W2 ⟨rfl, hz, hfin⟩
      obtain ⟨z0, z1, z2, z3, z4, f0, f1, f2, f3, f4⟩ := hz
      have HFIN := Lib.hid hfin
      clear hfin HC
      go_wp2_with fail
      refine bodyPost_ret (v := .tuple #[.agg #[.int .u8 6, .int .i32 0, .int .u32 0, .int .u32 0, .slice ko kn kc], .bool true]) (by simp [results, Tryd.results47, go_sem, *]) rfl ?_
      exact HFIN.out _ _ _ _ _
    · have q1 : ((x : Int) != 41) = true := by simpa using h41
      have HM := Lib.hid (HMO.out h41)
      clear HLA HMO h41
      go_wp2_with fail
      (with_reducible refine (HNX.out).mono ?_)
      rintro e W ⟨rfl, hb1⟩
      have HCA := Lib.hid (HM.out W hb1)
      clear hb1 HNX HM
      go_wp2_with fail
      (with_reducible refine (HCA.out).mono ?_)
      intro e W2 hcase
      rcases hcase with ⟨rfl, hz, hfin⟩ | ⟨k, ks, kv, b', rfl, hbb, n4, hrow, hkl, hw2, hnext⟩
      · obtain ⟨z0, z1, z2, z3, z4, f0, f1, f2, f3, f4⟩ := hz
        have HFIN := Lib.hid hfin
        clear hfin HCA
        go_wp2_with fail
        refine bodyPost_ret (v := .tuple #[noNode, .bool false]) (by simp [results, Tryd.results47, go_sem, noNode, *]) rfl ?_
        exact HFIN.out _ _ _ _ _
      · obtain ⟨ko, kc, rfl⟩ := ownN_shape hrow
        have HROW := Lib.hid hrow; have HNEXT := Lib.hid hnext; have HBB := Lib.hid hbb; have HKL := Lib.hid hkl; have HW2 := Lib.hid hw2
        obtain ⟨nk, hnk⟩ : ∃ q, q = ks.length := ⟨_, rfl⟩
        rw [← hnk] at n4 HNEXT HROW
        have HNK := Lib.hid hnk
        clear hrow hnext hbb hkl HCA hnk hw2
        go_wp2_with (at_builtin; refine app_k rfl (.tmp 29) (.tmp 31) rfl (w.heap.size + 2) (.slice ko nk kc) ks rfl (by have h9 := ownN_below HROW.out ((Below.refl _ _).alloc (Nat.le_refl _) (.cells #[.int .i64 (k : Int)] 3)); rw [HNK.out] at h9 ⊢; exact h9) ⟨W2.heap.size, 0, none⟩ (k : Int) rfl (by simp [Addr.add]) (by have := HKL.out; omega) (by have := HW2.out; simp; omega) ?_)
        intro kv' w4 ho4 hg4 hat4
        obtain ⟨x4, xf, hLn⟩ := HNEXT.out (.cells #[.int .i64 (k : Int)] 3) kv' w4 (by simpa using ho4) hg4 (by simpa using hat4)
        obtain ⟨ko', kc', rfl⟩ := ownN_shape ho4
        have HLN := Lib.hid hLn
        clear ho4 hg4 hat4 HNEXT HROW hLn
        go_wp2_with fail
        go_roundw
        case rel => exact ⟨b', by have := HLN.out.at.2; rw [HNN.out]; exact this, HLN⟩
        case measure =>
          obtain ⟨h3, h4⟩ := HLN.out.at
          rw [← HRB.out] at h3
          rw [← HNN.out] at h4
          have := HBB.out
          rw [h3, HAT.out]
          omega
end Go.Proofs.YtmechinlaladiaaDoor
