/-
  WALKS: pattern.putTree, numbered.
-/
import Derived.Test.YtnlojgomildajaaPtT
import Derived.Test.YtnlojgomildajaaOpenPt
import Derived.Laws.EntriesVeiled
namespace Go.Proofs.Ytnlojgomildajaa
open Go.RowKit Go.Lib
set_option linter.unusedVariables false

theorem OutN.free {N : Nat} {F G : Nat → Prop} {v : Value} {ms : List NdM} {w : World} (h : OutN N F v ms w) (hg : ∀ m ∈ ms, 0 < m.nd.ks.length → ¬ G m.bk) : OutN N G v ms w :=
  ⟨h.own, h.kids, fun m hm h0 => ⟨(h.apart m hm h0).1, hg m hm h0⟩, h.ok⟩
theorem three_boxes (w : World) (A B C : Value) (t1 t2 t3 : TypeId) : (((w.alloc (.cells #[A] t1)).alloc (.cells #[B] t2)).alloc (.cells #[C] t3)).cell? ⟨w.heap.size, 0, none⟩ = some A ∧ (((w.alloc (.cells #[A] t1)).alloc (.cells #[B] t2)).alloc (.cells #[C] t3)).cell? ⟨w.heap.size+1, 0, none⟩ = some B ∧ (((w.alloc (.cells #[A] t1)).alloc (.cells #[B] t2)).alloc (.cells #[C] t3)).cell? ⟨w.heap.size+2, 0, none⟩ = some C ∧ (((w.alloc (.cells #[A] t1)).alloc (.cells #[B] t2)).alloc (.cells #[C] t3)).frozen? ⟨w.heap.size, 0, none⟩ = false := by
  have hb1 : Below (w.alloc (.cells #[A] t1)).heap.size (w.alloc (.cells #[A] t1)) (((w.alloc (.cells #[A] t1)).alloc (.cells #[B] t2)).alloc (.cells #[C] t3)) := ((Below.refl _ _).alloc (Nat.le_refl _) _).alloc (by simp) _
  have hb2 : Below ((w.alloc (.cells #[A] t1)).alloc (.cells #[B] t2)).heap.size ((w.alloc (.cells #[A] t1)).alloc (.cells #[B] t2)) (((w.alloc (.cells #[A] t1)).alloc (.cells #[B] t2)).alloc (.cells #[C] t3)) := (Below.refl _ _).alloc (Nat.le_refl _) _
  refine ⟨(hb1.cell (p := ⟨w.heap.size, 0, none⟩) (by simp)).trans (by simp), (hb2.cell (p := ⟨w.heap.size + 1, 0, none⟩) (by simp)).trans ?_, ?_, (hb1.frozen (p := ⟨w.heap.size, 0, none⟩) (by simp)).trans (by simp)⟩
  · have h : (w.alloc (.cells #[A] t1)).heap.size = w.heap.size + 1 := by simp
    rw [← h]
    simp
  · have h : ((w.alloc (.cells #[A] t1)).alloc (.cells #[B] t2)).heap.size = w.heap.size + 2 := by simp
    have e : (⟨w.heap.size + 2, 0, none⟩ : Addr) = ⟨((w.alloc (.cells #[A] t1)).alloc (.cells #[B] t2)).heap.size, 0, none⟩ := by rw [h]
    rw [e, World.cell?_alloc_mark]
    rfl
/-- What comes of putting a tree behind some nodes. -/
def PtR (N : Nat) (v : Value) (ms : List NdM) (t : Tr) (w : World) (e : Ending) (w' : World) : Prop :=
  ∃ v' ms', e = .returned v' ∧ OutN N (fun _ => False) v' (ms ++ ms') w' ∧ nds ms' = t.flat ms.length ∧ (∀ m ∈ ms', FrK w.heap.size m w') ∧ But (fun k => v.ownBlock = some k) w w' ∧ (v'.ownBlock = v.ownBlock ∨ ∃ b, v'.ownBlock = some b ∧ w.heap.size ≤ b)
set_option maxHeartbeats 8000000 in
set_option maxRecDepth 100000 in
theorem putTree_any (N : Nat) (pn : Option Addr) (bn n0 cl : Nat) (ls : List NdM) (W0 : World) (hW0 : W0.heap.size = N) (hIn : NsIn pn bn n0 ls W0) (i : Int) (t : Tr) (w : World) (v : Value) (ms : List NdM) (hB : Below N W0 w) (hout : OutN N (fun _ => False) v ms w) (hat : t.At (nds ls) i) (hsz : ms.length + t.sz ≤ 100000) :
    Calls Try.prog 41 #[v, .slice pn ls.length cl, .int .i64 i] w (PtR N v ms t w) := by
  have hNw : N ≤ w.heap.size := by have := hB.size; omega
  obtain ⟨ov, nv, cv, rfl⟩ : ∃ o n c, v = .slice o n c := by obtain ⟨o, c, h⟩ := hout.len; exact ⟨o, _, c, h⟩
  obtain ⟨nl, hnl⟩ : ∃ n, n = ls.length := ⟨_, rfl⟩
  have hvb : ∀ b, (Value.slice ov nv cv).ownBlock = some b → b < w.heap.size := fun b hb => (hout.own.lt b hb).2
  have key : ∀ (w3 : World), Below w.heap.size w w3 → w.heap.size + 2 < w3.heap.size → w3.cell? ⟨w.heap.size, 0, none⟩ = some (.slice ov nv cv) → w3.cell? ⟨w.heap.size + 1, 0, none⟩ = some (.slice pn ls.length cl) →
      w3.cell? ⟨w.heap.size + 2, 0, none⟩ = some (.func (.func 44) #[] #[.pointer (some ⟨w.heap.size, 0, none⟩), .pointer (some ⟨w.heap.size + 1, 0, none⟩), .pointer (some ⟨w.heap.size + 2, 0, none⟩)]) → w3.frozen? ⟨w.heap.size, 0, none⟩ = false →
      Calls Try.prog 44 #[.int .i64 i, .pointer (some ⟨w.heap.size, 0, none⟩), .pointer (some ⟨w.heap.size + 1, 0, none⟩), .pointer (some ⟨w.heap.size + 2, 0, none⟩)] w3 fun e w' => ∃ z o n c, e = .returned (.int .i64 z) ∧ w'.cell? ⟨w.heap.size, 0, none⟩ = some (.slice o n c) ∧ PtR N (.slice ov nv cv) ms t w (.returned (.slice o n c)) w' := by
    intro w3 hb3 hz3 h0 h1 h2 hf
    have hbN : Below N W0 w3 := hB.trans (hb3.mono hNw)
    have ho3 : OutN N (fun k => k = w.heap.size) (.slice ov nv cv) ms w3 := (hout.next hb3).free (fun m hm h0 e => by have := (hout.kids m hm).lt h0; omega)
    refine (putc_any w.heap.size (w.heap.size + 1) (w.heap.size + 2) N pn bn n0 cl ls W0 hW0 hIn hNw (by omega) (by omega) (by omega) (by omega) t.sz t (Nat.le_refl _) i w3 (.slice ov nv cv) ms ⟨hbN, h1, h2, hf⟩ h0 ho3 (fun k hk => by have := hvb k hk; omega) hat hsz).mono ?_
    rintro e w' ⟨rfl, v', ms', hcO, hout', hnd, hfk, hbut, hvat, _⟩
    obtain ⟨o, n, c, rfl⟩ : ∃ o n c, v' = .slice o n c := by obtain ⟨o, c, h⟩ := hout'.len; exact ⟨o, _, c, h⟩
    have hs3 := hb3.size
    refine ⟨_, o, n, c, rfl, hcO, .slice o n c, ms', rfl, hout'.free (fun _ _ _ e => e), hnd, fun m hm => (hfk m hm).mono hs3, ((But.of_below hb3).trans hbut (fun k hk e => ?_)), ?_⟩
    · rcases e with e | e
      · omega
      · exact e
    · rcases hvat with e | ⟨b, e, hb⟩
      · exact Or.inl e
      · exact Or.inr ⟨b, e, by omega⟩
  rw [← hnl] at key ⊢
  have HK := Lib.hid key
  clear key hvb hout hat hB hIn hnl
  go_enter Try.func41, Try.ntmps41
  go_wp2_with fail
  refine (HK.out _ ?_ ?_ ?_ ?_ ?_ ?_).mono ?_
  case refine_1 =>
    exact ((((Below.refl _ _).alloc (Nat.le_refl _) _).alloc (by simp) _).alloc (by simp; omega) _)
  case refine_2 => simp
  case refine_3 => exact (three_boxes w _ _ _ _ _ _).1
  case refine_4 => exact (three_boxes w _ _ _ _ _ _).2.1
  case refine_5 => exact (three_boxes w _ _ _ _ _ _).2.2.1
  case refine_6 => exact (three_boxes w _ _ _ _ _ _).2.2.2
  intro e w' hpost
  obtain ⟨z, o, n, c, rfl, hc, hR⟩ := hpost
  have HR := Lib.hid hR
  clear hR
  go_wp2_with fail
  go_ret
  exact HR.out
/-- A pattern that a call made: all of it lies in blocks from lo on. -/
structure Mine (lo : Nat) (q : PtM) (w : World) : Prop where
  i : NsIn q.pn q.bn q.n0 q.ms w
  own : OutN lo (fun _ => False) (.slice q.pn q.ms.length q.c) q.ms w
  frk : ∀ m ∈ q.ms, FrK lo m w
  len : q.ms.length ≤ 100000
theorem NsIn.keep {pn : Option Addr} {bn n0 : Nat} {ms : List NdM} {w w' : World} {X : Nat → Prop} (h : NsIn pn bn n0 ms w) (hb : But X w w') (hn : 0 < ms.length → ¬ X bn) (hk : ∀ m ∈ ms, 0 < m.nd.ks.length → ¬ X m.bk) : NsIn pn bn n0 ms w' := by
  refine ⟨h.at_, fun j hj => ?_, fun j hj => (h.kids j hj).keep hb (hk _ (by rw [List.getD_eq_getElem?_getD, List.getElem?_eq_getElem hj]; exact List.getElem_mem hj)), h.ok, h.big⟩
  have hx := hn (by omega)
  obtain ⟨c0, c1, c2, c3, c4⟩ := h.node j hj
  exact ⟨hb.cell (p := ⟨bn, n0 + j * 5, none⟩) c0 hx, hb.cell (p := ⟨bn, n0 + j * 5 + 1, none⟩) c1 hx, hb.cell (p := ⟨bn, n0 + j * 5 + 2, none⟩) c2 hx, hb.cell (p := ⟨bn, n0 + j * 5 + 3, none⟩) c3 hx, hb.cell (p := ⟨bn, n0 + j * 5 + 4, none⟩) c4 hx⟩
theorem Mine.blk {lo : Nat} {q : PtM} {w : World} (h : Mine lo q w) (h0 : 0 < q.ms.length) : lo ≤ q.bn ∧ q.bn < w.heap.size ∧ (Value.slice q.pn q.ms.length q.c).ownBlock = some q.bn := by
  have e := h.i.at_ h0
  have e2 : (Value.slice q.pn q.ms.length q.c).ownBlock = some q.bn := by rw [e]; rfl
  exact ⟨(h.own.own.lt _ e2).1, (h.own.own.lt _ e2).2, e2⟩
theorem Mine.keep {lo : Nat} {q : PtM} {w w' : World} {X : Nat → Prop} (h : Mine lo q w) (hb : But X w w') (hx : ∀ k, lo ≤ k → k < w.heap.size → ¬ X k) : Mine lo q w' := by
  have hk : ∀ m ∈ q.ms, 0 < m.nd.ks.length → ¬ X m.bk := fun m hm h0 => hx _ (h.frk m hm h0).1 (h.frk m hm h0).2.1
  refine ⟨h.i.keep hb (fun h0 => hx _ (h.blk h0).1 (h.blk h0).2.1) hk, h.own.keep hb (fun k e => hx k (h.own.own.lt k e).1 (h.own.own.lt k e).2) hk, fun m hm => (h.frk m hm).keep hb (hk m hm), h.len⟩
theorem OutN.lower {N N' : Nat} {F : Nat → Prop} {v : Value} {ms : List NdM} {w : World} (h : OutN N F v ms w) (hn : N' ≤ N) : OutN N' F v ms w := by
  refine ⟨⟨h.own.1, ?_⟩, h.kids, h.apart, h.ok⟩
  rcases h.own.2 with e | ⟨g, cap, cur, h3, h4, h5⟩
  · exact Or.inl e
  · exact Or.inr ⟨g, cap, cur, h3, by omega, h5⟩
theorem Mine.lower {lo lo' : Nat} {q : PtM} {w : World} (h : Mine lo q w) (hl : lo' ≤ lo) : Mine lo' q w := ⟨h.i, h.own.lower hl, fun m hm => (h.frk m hm).mono hl, h.len⟩
theorem Mine.next {lo : Nat} {q : PtM} {w w' : World} (h : Mine lo q w) (hb : Below w.heap.size w w') : Mine lo q w' :=
  ⟨h.i.next hb, h.own.next hb, fun m hm => (h.frk m hm).keep (But.of_below (X := fun _ => False) hb) (fun _ e => e), h.len⟩
theorem Mine.none (lo : Nat) (w : World) : Mine lo ⟨[], none, 0, 0, 0⟩ w :=
  ⟨⟨fun h => absurd h (by decide), fun j hj => absurd hj (by simp), fun j hj => absurd hj (by simp), fun j hj => absurd hj (by simp), by decide⟩, OutN.nil _ _ _, fun m hm => absurd hm (by simp), by decide⟩
theorem mine_of {lo : Nat} {o : Option Addr} {n c : Nat} {ms : List NdM} {w : World} (h : OutN lo (fun _ => False) (.slice o n c) ms w) (hf : ∀ m ∈ ms, FrK lo m w) (hl : ms.length ≤ 100000) : ∃ q : PtM, q.v = .agg #[.slice o n c] ∧ q.ms = ms ∧ Mine lo q w := by
  obtain ⟨pn, bn, c', e, hi, _⟩ := h.nsin (by omega)
  injection e with e1 e2 e3
  subst e1; subst e2; subst e3
  exact ⟨⟨ms, o, bn, 0, c⟩, rfl, rfl, hi, h, hf, hl⟩
def MkPost (ns : List Nd) (w : World) (e : Ending) (w' : World) : Prop := ∃ q : PtM, e = .returned q.v ∧ nds q.ms = ns ∧ Mine w.heap.size q w' ∧ Below w.heap.size w w'
def MkPost2 (err : Nat) (ns : List Nd) (w : World) (e : Ending) (w' : World) : Prop := ∃ q : PtM, e = .returned (.tuple #[q.v, .int .i64 err]) ∧ nds q.ms = ns ∧ Mine w.heap.size q w' ∧ Below w.heap.size w w'
set_option maxHeartbeats 8000000 in
set_option maxRecDepth 100000 in
theorem numbered_any (pn : Option Addr) (bn n0 cl : Nat) (ls : List NdM) (w : World) (hIn : NsIn pn bn n0 ls w) (i : Int) (t : Tr) (hat : t.At (nds ls) i) (hsz : t.sz ≤ 100000) :
    Calls Try.prog 33 #[.slice pn ls.length cl, .int .i64 i] w (MkPost (t.flat 0) w) := by
  have key : ∀ w1, Below w.heap.size w w1 → w.heap.size < w1.heap.size → Calls Try.prog 41 #[.slice none 0 0, .slice pn ls.length cl, .int .i64 i] w1 fun e w' => ∃ o n c, e = .returned (.slice o n c) ∧ Below w1.heap.size w1 w' ∧ ∀ u, MkPost (t.flat 0) w (.returned (.agg #[.slice o n c])) (w'.setCell ⟨w.heap.size, 0, none⟩ u) := by
    intro w1 hb1 hz1
    refine (putTree_any w1.heap.size pn bn n0 cl ls w1 rfl (hIn.next hb1) i t w1 (.slice none 0 0) [] (Below.refl _ _) (OutN.nil _ _ _) hat (by simpa using hsz)).mono ?_
    rintro e w' ⟨v', ms', rfl, hout, hnd, hfk, hbut, _⟩
    obtain ⟨o, n, c, rfl⟩ : ∃ o n c, v' = .slice o n c := by obtain ⟨o, c, h⟩ := hout.len; exact ⟨o, _, c, h⟩
    have hB : Below w1.heap.size w1 w' := hbut.below (Nat.le_refl _) (fun k hk e => by cases e)
    refine ⟨o, n, c, rfl, hB, fun u => ?_⟩
    have hl : ms'.length ≤ 100000 := by
      have := congrArg List.length hnd
      rw [nds_length, Tr.flat_length] at this
      omega
    obtain ⟨q, hq, hqm, hm⟩ := mine_of (show OutN w1.heap.size (fun _ => False) (.slice o n c) ms' w' from hout) hfk hl
    have hb2 : But (fun k => k = w.heap.size) w' (w'.setCell ⟨w.heap.size, 0, none⟩ u) := (But.refl (fun k => k = w.heap.size) w').setCell (p := ⟨w.heap.size, 0, none⟩) (fun _ => rfl) _
    exact ⟨q, by rw [hq], by rw [hqm]; exact hnd, (hm.keep hb2 (fun k h1 h2 e => by omega)).lower hb1.size, (hb1.trans (hB.mono hb1.size)).setCell (p := ⟨w.heap.size, 0, none⟩) (Nat.le_refl _) _⟩
  obtain ⟨nl, hnl⟩ : ∃ n, n = ls.length := ⟨_, rfl⟩
  rw [← hnl] at key ⊢
  have HK := Lib.hid key
  clear key hIn hat hnl
  go_enter Try.func33, Try.ntmps33
  go_wp2_with fail
  refine (HK.out _ ?_ ?_).mono ?_
  case refine_1 => exact (Below.refl _ _).alloc (Nat.le_refl _) _
  case refine_2 => simp
  intro e w' hpost
  obtain ⟨o, n, c, rfl, hb, hR⟩ := hpost
  have c0 := (hb.cell (p := ⟨w.heap.size, 0, none⟩) (by simp)).trans (show _ = some (Value.slice none 0 0) by simp)
  have f0 := (hb.frozen (p := ⟨w.heap.size, 0, none⟩) (by simp)).trans (show _ = false by simp)
  have HR := Lib.hid hR
  clear hR hb
  go_wp2_with fail
  refine bodyPost_ret (v := .agg #[.slice o n c]) (by simp [results, Try.results33, go_sem, *]) rfl ?_
  exact HR.out _
end Go.Proofs.Ytnlojgomildajaa
