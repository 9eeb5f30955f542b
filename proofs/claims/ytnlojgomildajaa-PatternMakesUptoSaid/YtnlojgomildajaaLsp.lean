/-
  WALKS: cognatelaw04.long, spoil.
-/
import Derived.Test.YtnlojgomildajaaSos
import Derived.Test.YtnlojgomildajaaTwp
namespace Go.Proofs.Ytnlojgomildajaa
open Go.RowKit Go.Lib
set_option linter.unusedVariables false
def LongPost (ps : List PtM) (w : World) (e : Ending) (w' : World) : Prop := ∃ B : Bool, e = .returned (.bool B) ∧ w' = w ∧ (B = false → ps.length ≤ 300 ∧ ∀ i, i < ps.length → (ps.getD i default).ms.length ≤ 2000)
set_option maxHeartbeats 4000000 in
set_option maxRecDepth 100000 in
theorem long_any (pp : Option Addr) (bp p0 cp : Nat) (ps : List PtM) (w : World) (h : PsIn pp bp p0 ps w) :
    Calls Try.prog 4 #[.slice pp ps.length cp] w (LongPost ps w) := by
  obtain ⟨n, hn⟩ : ∃ n, n = ps.length := ⟨_, rfl⟩
  rw [← hn]
  have H := Lib.hid h; have HN := Lib.hid hn
  have hbig := h.big
  rw [← hn] at hbig
  clear h hn
  by_cases h3 : 300 < n
  · have a1 : (300 : Int) < (n : Int) := by omega
    go_enter Try.func4, Try.ntmps4
    go_wp2_with fail
    go_ret
    exact ⟨true, rfl, rfl, fun h => by cases h⟩
  have a1 : ¬ (300 : Int) < (n : Int) := by omega
  have hn3 : n ≤ 300 := by omega
  clear h3
  go_enter Try.func4, Try.ntmps4
  go_wp2_with fail
  go_loopw [3, 4] (fun kv iv wr => ∃ i K : Nat, kv = .int .i64 K ∧ iv = .int .i64 i ∧ i ≤ n ∧ K ≤ i * 2000 ∧ Hid (∀ j, j < i → (ps.getD j default).ms.length ≤ 2000) ∧ Hid (wr = w)) (fun _ iv _ => n - (intOf iv).toNat)
  case atStart => exact ⟨0, 0, rfl, rfl, by omega, by omega, Lib.hid (fun j hj => by omega), Lib.hid rfl⟩
  case round =>
    obtain ⟨i, K, rfl, rfl, hi, hK, HA, HW⟩ := hrel
    by_cases hin : i < n
    · have hil : i < ps.length := by rw [← HN.out]; exact hin
      obtain rfl := H.out.at_ (by omega)
      have a0 := H.out.cells i hil
      rw [← HW.out] at a0
      obtain ⟨np, hnp⟩ : ∃ q, q = (ps.getD i default).ms.length := ⟨_, rfl⟩
      rw [← hnp] at a0
      have HNP := Lib.hid hnp
      have HJ := Lib.hid (show i + 1 ≤ n from hin)
      have hKb : i * 2000 ≤ 300 * 2000 := Nat.mul_le_mul_right _ (by omega)
      clear hnp
      by_cases h2 : 2000 < np
      · have h4 : (2000 : Int) < (np : Int) := by omega
        go_wp2_with fail
        go_ret
        exact ⟨true, rfl, HW.out, fun h => by cases h⟩
      · have h4 : ¬ (2000 : Int) < (np : Int) := by omega
        have hKn : K + np ≤ (i + 1) * 2000 := by omega
        have HKN := Lib.hid hKn
        have h2' : np ≤ 2000 := by omega
        have H2 := Lib.hid h2'
        clear hKn h2'
        go_wp2_with fail
        go_roundw
        case rel => exact ⟨i + 1, K + np, by go_num, by go_num, HJ.out, HKN.out, Lib.hid (fun j hj => by
          by_cases e : j = i
          · rw [e, ← HNP.out]; exact H2.out
          · exact HA.out j (by omega)), HW⟩
        case measure => have := HJ.out; simp [intOf]; omega
    · obtain rfl : i = n := by omega
      by_cases hK4 : (4000 : Int) < (K : Int)
      · go_wp2_with fail
        go_ret
        exact ⟨true, rfl, HW.out, fun h => by cases h⟩
      · go_wp2_with fail
        go_ret
        exact ⟨false, rfl, HW.out, fun _ => ⟨by have := HN.out; omega, fun j hj => HA.out j (by have := HN.out; omega)⟩⟩
/-- A pattern's own blocks. -/
def Bk (q : PtM) (k : Nat) : Prop := (0 < q.ms.length ∧ k = q.bn) ∨ ∃ m ∈ q.ms, 0 < m.nd.ks.length ∧ k = m.bk
theorem Mine.bk {lo : Nat} {q : PtM} {w : World} (h : Mine lo q w) : ∀ k, Bk q k → lo ≤ k ∧ k < w.heap.size := by
  rintro k (⟨h0, rfl⟩ | ⟨m, hm, h0, rfl⟩)
  · exact ⟨(h.blk h0).1, (h.blk h0).2.1⟩
  · exact ⟨(h.frk m hm h0).1, (h.frk m hm h0).2.1⟩
/-- What is left of a pattern whose first i nodes are written over. -/
structure SpS (q : PtM) (i : Nat) (W1 w : World) : Prop where
  node : ∀ j, i ≤ j → j < q.ms.length → N5 q.bn (q.n0 + j * 5) (q.ms.getD j default) w
  kids : ∀ m ∈ q.ms, ∀ t, t < m.nd.ks.length → ∃ u, w.cell? ⟨m.bk, m.k0 + t, none⟩ = some u
  nf : 0 < q.ms.length → ∀ o, w.frozen? ⟨q.bn, o, none⟩ = false
  kf : ∀ m ∈ q.ms, 0 < m.nd.ks.length → ∀ o, w.frozen? ⟨m.bk, o, none⟩ = false
  but : But (Bk q) W1 w
theorem SpS.start {lo : Nat} {q : PtM} {w : World} (h : Mine lo q w) : SpS q 0 w w :=
  ⟨fun j _ hj => h.i.node j hj, fun m hm t ht => by
    obtain ⟨j, hj, e⟩ := mem_getD hm
    have := (h.i.kids j hj)
    rw [e] at this
    exact ⟨_, this.cells t ht⟩, fun h0 => own_unfrozen h.own.own (h.blk h0).2.2, fun m hm h0 => (h.frk m hm h0).2.2, But.refl _ _⟩
theorem cell_set_some {w : World} {a b : Addr} {u v : Value} (h : w.cell? b = some u) : ∃ x, (w.setCell a v).cell? b = some x := by
  by_cases e : a = b
  · subst e; exact ⟨v, World.cell?_setCell_same _ _ _ h⟩
  · exact ⟨u, (World.cell?_setCell_other _ _ _ _ e).trans h⟩
theorem SpS.kid {q : PtM} {i : Nat} {W1 w : World} (h : SpS q i W1 w) {m : NdM} (hm : m ∈ q.ms) (h0 : 0 < m.nd.ks.length) (hne : ¬ m.bk = q.bn) (o : Nat) (v : Value) : SpS q i W1 (w.setCell ⟨m.bk, o, none⟩ v) := by
  have key : ∀ c x, w.cell? ⟨q.bn, c, none⟩ = some x → (w.setCell ⟨m.bk, o, none⟩ v).cell? ⟨q.bn, c, none⟩ = some x := fun c x hc => (World.cell?_setCell_other _ _ _ _ (fun e => hne (by injection e))).trans hc
  refine ⟨fun j h1 h2 => ?_, fun m' hm' t ht => ?_, fun h1 o' => by rw [World.frozen?_setCell]; exact h.nf h1 o', fun m' hm' h1 o' => by rw [World.frozen?_setCell]; exact h.kf m' hm' h1 o', h.but.setCell (p := ⟨m.bk, o, none⟩) (fun _ => Or.inr ⟨m, hm, h0, rfl⟩) _⟩
  · obtain ⟨c0, c1, c2, c3, c4⟩ := h.node j h1 h2
    exact ⟨key _ _ c0, key _ _ c1, key _ _ c2, key _ _ c3, key _ _ c4⟩
  · obtain ⟨u, hu⟩ := h.kids m' hm' t ht
    exact cell_set_some hu
theorem SpS.nodeSet {q : PtM} {i : Nat} {W1 w : World} (h : SpS q i W1 w) (hi : i < q.ms.length) (hap : ∀ m ∈ q.ms, 0 < m.nd.ks.length → ¬ m.bk = q.bn) (v0 v1 v2 v3 v4 : Value) :
    SpS q (i + 1) W1 (((((w.setCell ⟨q.bn, q.n0 + i * 5, none⟩ v0).setCell ⟨q.bn, q.n0 + i * 5 + 1, none⟩ v1).setCell ⟨q.bn, q.n0 + i * 5 + 2, none⟩ v2).setCell ⟨q.bn, q.n0 + i * 5 + 3, none⟩ v3).setCell ⟨q.bn, q.n0 + i * 5 + 4, none⟩ v4) := by
  have one : ∀ (w : World) (o o' : Nat) (v x : Value), o ≠ o' → w.cell? ⟨q.bn, o', none⟩ = some x → (w.setCell ⟨q.bn, o, none⟩ v).cell? ⟨q.bn, o', none⟩ = some x := fun w o o' v x hne hc => (World.cell?_setCell_other _ _ _ _ (fun e => hne (by injection e))).trans hc
  have hb : ∀ (w : World) (o : Nat) (v : Value), But (Bk q) W1 w → But (Bk q) W1 (w.setCell ⟨q.bn, o, none⟩ v) := fun w o v h => h.setCell (p := ⟨q.bn, o, none⟩) (fun _ => Or.inl ⟨by omega, rfl⟩) _
  refine ⟨fun j h1 h2 => ?_, fun m' hm' t ht => ?_, fun h1 o' => by simp only [World.frozen?_setCell]; exact h.nf h1 o', fun m' hm' h1 o' => by simp only [World.frozen?_setCell]; exact h.kf m' hm' h1 o', hb _ _ _ (hb _ _ _ (hb _ _ _ (hb _ _ _ (hb _ _ _ h.but))))⟩
  · obtain ⟨c0, c1, c2, c3, c4⟩ := h.node j (by omega) h2
    have key : ∀ c x, q.n0 + i * 5 + 4 < c → w.cell? ⟨q.bn, c, none⟩ = some x → (((((w.setCell ⟨q.bn, q.n0 + i * 5, none⟩ v0).setCell ⟨q.bn, q.n0 + i * 5 + 1, none⟩ v1).setCell ⟨q.bn, q.n0 + i * 5 + 2, none⟩ v2).setCell ⟨q.bn, q.n0 + i * 5 + 3, none⟩ v3).setCell ⟨q.bn, q.n0 + i * 5 + 4, none⟩ v4).cell? ⟨q.bn, c, none⟩ = some x := fun c x hc hx =>
      one _ _ _ _ _ (by omega) (one _ _ _ _ _ (by omega) (one _ _ _ _ _ (by omega) (one _ _ _ _ _ (by omega) (one _ _ _ _ _ (by omega) hx))))
    exact ⟨key _ _ (by omega) c0, key _ _ (by omega) c1, key _ _ (by omega) c2, key _ _ (by omega) c3, key _ _ (by omega) c4⟩
  · obtain ⟨u, hu⟩ := h.kids m' hm' t ht
    obtain ⟨u, hu⟩ := cell_set_some (a := ⟨q.bn, q.n0 + i * 5, none⟩) (v := v0) hu
    obtain ⟨u, hu⟩ := cell_set_some (a := ⟨q.bn, q.n0 + i * 5 + 1, none⟩) (v := v1) hu
    obtain ⟨u, hu⟩ := cell_set_some (a := ⟨q.bn, q.n0 + i * 5 + 2, none⟩) (v := v2) hu
    obtain ⟨u, hu⟩ := cell_set_some (a := ⟨q.bn, q.n0 + i * 5 + 3, none⟩) (v := v3) hu
    exact cell_set_some hu
theorem SpS.alloc {q : PtM} {i : Nat} {w : World} (h : SpS q i w w) (hb : ∀ k, Bk q k → k < w.heap.size) (o : Obj) : SpS q i (w.alloc o) (w.alloc o) := by
  have hB : Below w.heap.size w (w.alloc o) := (Below.refl _ _).alloc (Nat.le_refl _) o
  refine ⟨fun j h1 h2 => (h.node j h1 h2).next hB, fun m hm t ht => ?_, fun h0 o' => (hB.frozen (p := ⟨q.bn, o', none⟩) (hb _ (Or.inl ⟨h0, rfl⟩))).trans (h.nf h0 o'), fun m hm h0 o' => (hB.frozen (p := ⟨m.bk, o', none⟩) (hb _ (Or.inr ⟨m, hm, h0, rfl⟩))).trans (h.kf m hm h0 o'), But.refl _ _⟩
  obtain ⟨u, hu⟩ := h.kids m hm t ht
  exact ⟨u, (hB.cell (p := ⟨m.bk, m.k0 + t, none⟩) (blk_of_cell hu)).trans hu⟩
set_option maxHeartbeats 8000000 in
set_option maxRecDepth 100000 in
theorem spoil_p (lo : Nat) (q : PtM) (w : World) (h : Mine lo q w) :
    Calls Try.prog 26 #[q.v] w fun e w' => e = .returned (.tuple #[]) ∧ But (Bk q) w w' := by
  obtain ⟨n, hn⟩ : ∃ n, n = q.ms.length := ⟨_, rfl⟩
  obtain ⟨pn, hpn⟩ : ∃ n, n = q.pn := ⟨_, rfl⟩
  obtain ⟨cp, hcp⟩ : ∃ n, n = q.c := ⟨_, rfl⟩
  have hbk := h.bk
  have hap : ∀ m ∈ q.ms, 0 < m.nd.ks.length → ¬ m.bk = q.bn := fun m hm h0 e => by
    have hq0 : 0 < q.ms.length := List.length_pos_of_mem hm
    exact (h.own.apart m hm h0).1 (by rw [(h.blk hq0).2.2, e])
  have hss := (SpS.start h).alloc (fun k hk => (hbk k hk).2) (.cells #[.slice q.pn q.ms.length q.c] 25)
  have hlen := h.len
  have hat := h.i.at_
  unfold PtM.v
  rw [← hn, ← hpn, ← hcp] at hss ⊢
  rw [← hn, ← hpn] at hat
  rw [← hn] at hlen
  have hc0 : (w.alloc (.cells #[.slice pn n cp] 25)).cell? ⟨w.heap.size, 0, none⟩ = some (.slice pn n cp) := by simp
  have hbA : Below w.heap.size w (w.alloc (.cells #[.slice pn n cp] 25)) := (Below.refl _ _).alloc (Nat.le_refl _) _
  have H := Lib.hid h; have HN := Lib.hid hn; have HPN := Lib.hid hpn; have HBK := Lib.hid hbk; have HAP := Lib.hid hap; have HSS := Lib.hid hss; have HAT := Lib.hid hat; have HC0 := Lib.hid hc0; have HBA := Lib.hid hbA
  clear h hn hpn hcp hbk hap hss hat hc0 hbA
  go_enter Try.func26, Try.ntmps26
  go_wp2_with fail
  obtain ⟨W1, hW1⟩ : ∃ W1, W1 = w.alloc (.cells #[.slice pn n cp] 25) := ⟨_, rfl⟩
  have hss := HSS.out
  have hc0 := HC0.out
  have hba := HBA.out
  rw [← hW1] at hss hc0 hba ⊢
  have S0 := Lib.hid hss; have C0 := Lib.hid hc0; have BA := Lib.hid hba
  clear hss hc0 hba hW1 HSS HC0 HBA
  go_loopw [2] (fun iv wr => ∃ i : Nat, iv = .int .i64 i ∧ i ≤ n ∧ Hid (SpS q i W1 wr)) (fun iv _ => n - (intOf iv).toNat)
  case atStart => exact ⟨0, rfl, by omega, S0⟩
  case round =>
    obtain ⟨i, rfl, hi, HS⟩ := hrel
    have c0 := HS.out.but.cell (p := ⟨w.heap.size, 0, none⟩) C0.out (fun e => Nat.lt_irrefl _ (HBK.out w.heap.size e).2)
    by_cases hin : i < n
    · have hil : i < q.ms.length := by rw [← HN.out]; exact hin
      obtain rfl : pn = some ⟨q.bn, q.n0, none⟩ := HAT.out (by omega)
      obtain ⟨m, hm⟩ : ∃ m, m = q.ms.getD i default := ⟨_, rfl⟩
      have hmm : m ∈ q.ms := by rw [hm, List.getD_eq_getElem?_getD, List.getElem?_eq_getElem hil]; exact List.getElem_mem hil
      obtain ⟨b0, b1, b2, b3, b4⟩ := HS.out.node i (Nat.le_refl _) hil
      rw [← hm] at b0 b1 b2 b3 b4
      have hks := H.out.i.kids i hil
      rw [← hm] at hks
      obtain ⟨L, hL⟩ : ∃ L, L = m.nd.ks.length := ⟨_, rfl⟩
      obtain ⟨pk, hpk⟩ : ∃ L, L = m.pk := ⟨_, rfl⟩
      obtain ⟨ck, hck⟩ : ∃ L, L = m.c := ⟨_, rfl⟩
      have hLb := hks.big
      rw [← hL] at hLb
      rw [← hL, ← hpk, ← hck] at b4
      have HM := Lib.hid hm; have HMM := Lib.hid hmm; have HL := Lib.hid hL; have HPK := Lib.hid hpk; have HCK := Lib.hid hck; have HKS := Lib.hid hks
      have HJ := Lib.hid (show i + 1 ≤ n from hin); have HIL := Lib.hid hil
      clear hm hmm hL hpk hck hks hil
      go_wp2_with fail
      clear b0 b1 b2 b3 b4 c0
      go_loopw [3] (fun tv wx => ∃ t : Nat, tv = .int .i64 t ∧ t ≤ L ∧ Hid (SpS q i W1 wx)) (fun tv _ => L - (intOf tv).toNat)
      case atStart => exact ⟨0, rfl, by omega, HS⟩
      case round =>
        clear HS
        obtain ⟨t, rfl, ht, HS⟩ := hrel
        have c0 := HS.out.but.cell (p := ⟨w.heap.size, 0, none⟩) C0.out (fun e => Nat.lt_irrefl _ (HBK.out w.heap.size e).2)
        obtain ⟨b0, b1, b2, b3, b4⟩ := HS.out.node i (Nat.le_refl _) HIL.out
        rw [← HM.out] at b0 b1 b2 b3 b4
        rw [← HL.out, ← HPK.out, ← HCK.out] at b4
        by_cases htL : t < L
        · have htl : t < m.nd.ks.length := by rw [← HL.out]; exact htL
          obtain rfl : pk = some ⟨m.bk, m.k0, none⟩ := HPK.out.trans (HKS.out.at_ (by omega))
          obtain ⟨u, hu⟩ := HS.out.kids m HMM.out t htl
          have hf := HS.out.kf m HMM.out (by omega) (m.k0 + t)
          have HK := Lib.hid (HS.out.kid HMM.out (by omega) (HAP.out m HMM.out (by omega)) (m.k0 + t) (.int .i64 77))
          have HT := Lib.hid (show t + 1 ≤ L from htL)
          clear htl
          go_wp2_with fail
          go_roundw
          case rel => exact ⟨t + 1, by go_num, HT.out, HK⟩
          case measure => have := HT.out; simp [intOf]; omega
        · obtain rfl : t = L := by omega
          have f0 := HS.out.nf (by have := HIL.out; omega) (q.n0 + i * 5)
          have f1 := HS.out.nf (by have := HIL.out; omega) (q.n0 + i * 5 + 1)
          have f2 := HS.out.nf (by have := HIL.out; omega) (q.n0 + i * 5 + 2)
          have f3 := HS.out.nf (by have := HIL.out; omega) (q.n0 + i * 5 + 3)
          have f4 := HS.out.nf (by have := HIL.out; omega) (q.n0 + i * 5 + 4)
          have HK := Lib.hid (HS.out.nodeSet HIL.out HAP.out (.int .u8 77) (.int .i32 0) (.int .u32 0) (.int .u32 0) (.slice none 0 0))
          go_wp2_with fail
          exact ⟨⟨i + 1, by go_num, HJ.out, HK⟩, by have := HJ.out; simp [intOf]; omega⟩
    · obtain rfl : i = n := by omega
      have hfin : But (Bk q) w wr := (But.of_below (X := Bk q) BA.out).trans HS.out.but (fun k _ e => e)
      have HF := Lib.hid hfin
      clear hfin
      go_wp2_with fail
      go_end0
      exact ⟨rfl, HF.out⟩
end Go.Proofs.Ytnlojgomildajaa
