/-
  slices.SortFunc AT THE WORDS: the closure of word.Sort, the order of words, the whole sort (the shelf's contract).
-/
import Derived.Test.YtcibjgkifafohaaDoorCmQ
import Derived.Test.YtcibjgkifafohaaDoorShelfY
namespace Go.Proofs.YtcibjgkifafohaaDoor
open Go.RowKit Go.Lib
set_option linter.unusedVariables false

set_option maxHeartbeats 1000000 in
set_option maxRecDepth 100000 in
theorem closure_any (rb : Nat) (pr qr tr : Option Addr) (br r0 cr ur s0 cs vr t0 ct : Nat) (row l m : List Int) (w : World) (hc : w.cell? ⟨rb, 0, none⟩ = some (.slice pr row.length cr)) (hW : RsIn pr br r0 row w) (hR : RsIn qr ur s0 l w) (hS : RsIn tr vr t0 m w) :
    Calls Tryd.prog 64 #[.slice qr l.length cs, .slice tr m.length ct, .pointer (some ⟨rb, 0, none⟩)] w fun e w' => e = .returned (.int .i64 (cmpI row l m)) ∧ QB w w' := by
  have k1 := wcompareq_any pr qr tr br r0 cr ur s0 cs vr t0 ct row l m w hW hR hS
  obtain ⟨nr, hnr⟩ : ∃ n, n = row.length := ⟨_, rfl⟩
  obtain ⟨nl, hnl⟩ : ∃ n, n = l.length := ⟨_, rfl⟩
  obtain ⟨nm, hnm⟩ : ∃ n, n = m.length := ⟨_, rfl⟩
  obtain ⟨R, hR'⟩ : ∃ n, n = cmpI row l m := ⟨_, rfl⟩
  rw [← hnr] at k1 hc
  rw [← hnl, ← hnm, ← hR'] at k1 ⊢
  have K1 := Lib.hid k1
  clear k1 hnr hnl hnm hR' hW hR hS
  go_enter Tryd.func64, Tryd.ntmps64
  go_wp2_with fail
  refine K1.out.mono ?_
  rintro _ w1 ⟨rfl, hb⟩
  have HB := Lib.hid hb
  clear hb
  go_wp2_with fail
  go_ret
  exact ⟨rfl, HB.out⟩

/-- A word's place in the row of all letters. -/
def WP (n : Nat) : Type := {p : Nat × Nat // p.1 ≤ p.2 ∧ p.2 ≤ n}
instance (n : Nat) : Inhabited (WP n) := ⟨⟨(0, 0), Nat.le_refl _, Nat.zero_le _⟩⟩
def encP (oa : Option Addr) {n : Nat} (p : WP n) : Value := prtV oa p.1.1 p.1.2
def wordP (L : List Int) (p : WP L.length) : List Int := subL L p.1.1 p.1.2
def cfP (row L : List Int) (p q : WP L.length) : Int := cmpI row (wordP L p) (wordP L q)
theorem encP_one (oa : Option Addr) (n : Nat) : OneCell (encP oa (n := n)) := by
  intro p
  obtain ⟨a, b, c, h⟩ := prtV_shape oa p.1.1 p.1.2
  show (prtV oa p.1.1 p.1.2).oneCell' = true
  rw [h]
  rfl
theorem wordP_mem {row L : List Int} (h : ∀ r ∈ L, r ∈ row) (p : WP L.length) : ∀ r ∈ wordP L p, r ∈ row := fun r hr => h r (List.mem_of_mem_drop (List.mem_of_mem_take hr))
theorem cfP_lex {row L : List Int} (h : ∀ r ∈ L, r ∈ row) (p q : WP L.length) : cfP row L p q = lexI (numL row (wordP L p)) (numL row (wordP L q)) := cmpI_lex _ _ (wordP_mem h p) (wordP_mem h q)
theorem cfP_swo {row L : List Int} (h : ∀ r ∈ L, r ∈ row) : Sort.SWO (ltOf (cfP row L)) where
  irrefl x := by unfold ltOf; rw [cfP_lex h, lexI_refl]; rfl
  trans x y z h1 h2 := by
    unfold ltOf at *
    rw [cfP_lex h, decide_eq_true_eq] at *
    exact (lexI_trans _ _ _ (Int.le_of_lt h1) (Int.le_of_lt h2)).2 (Or.inl h1)
  ntrans x y z h1 h2 := by
    unfold ltOf at *
    rw [cfP_lex h, decide_eq_false_iff_not] at *
    have a := lexI_swap (numL row (wordP L x)) (numL row (wordP L y))
    have b := lexI_swap (numL row (wordP L y)) (numL row (wordP L z))
    have c := lexI_swap (numL row (wordP L x)) (numL row (wordP L z))
    have d := (lexI_trans (numL row (wordP L z)) (numL row (wordP L y)) (numL row (wordP L x)) (by omega) (by omega)).1
    omega
theorem partV_rs {B : Nat} {oa : Option Addr} {ca : Nat} {L : List Int} {w : World} (ho : w.ownsRow B 21 1 (.slice oa L.length ca) L.length (L.map E32)) (hl : L.length ≤ 1100000) (a b : Nat) (hab : a ≤ b) (hb : b ≤ L.length) :
    ∃ pr br r0 cr, prtV oa a b = .slice pr (subL L a b).length cr ∧ RsIn pr br r0 (subL L a b) w ∧ (0 < (subL L a b).length → (Value.slice oa L.length ca).ownBlock = some br) := by
  rcases ho.2 with ⟨he, h0⟩ | ⟨g, cap, cur, he, hB, hg, hc, hm, hsz, ht⟩
  · simp only [Value.slice.injEq] at he
    obtain ⟨rfl, _, rfl⟩ := he
    obtain rfl : b = 0 := by omega
    obtain rfl : a = 0 := by omega
    rw [subL_same]
    exact ⟨none, 0, 0, 0, rfl, ⟨fun h => absurd h (by decide), fun j hj => absurd hj (by simp), by decide⟩, fun h => absurd h (by decide)⟩
  · simp only [Value.slice.injEq] at he
    obtain ⟨rfl, _, rfl⟩ := he
    by_cases hlt : a < b
    · have h1 : prtV (some ⟨g, 0, none⟩) a b = .slice (some ⟨g, a, none⟩) (b - a) (b - a) := if_pos hlt
      rw [h1]
      refine ⟨some ⟨g, a, none⟩, g, a, b - a, by rw [subL_len L a b hb], ⟨fun _ => rfl, fun j hj => ?_, by rw [subL_len L a b hb]; omega⟩, fun _ => by simp [Value.ownBlock]⟩
      rw [subL_len L a b hb] at hj
      rw [subL_at L a b j hb hj, ho.cellAt (a + j) (by omega), List.getElem?_map, List.getElem?_eq_getElem (by omega), getD_at (by omega)]
      rfl
    · obtain rfl : a = b := by omega
      have h1 : prtV (some ⟨g, 0, none⟩) a a = .slice (some ⟨g, 0, none⟩) 0 0 := if_neg hlt
      rw [h1, subL_same]
      exact ⟨some ⟨g, 0, none⟩, g, 0, 0, rfl, ⟨fun h => absurd h (by decide), fun j hj => absurd hj (by simp), by decide⟩, fun h => absurd h (by decide)⟩
theorem sortW_grown {α : Type} [Inhabited α] (enc : α → Value) (w : World) (blk off n : Nat) (dk : Array α) (os : Array Obj) : w.grownBy (sortWorld enc w blk off n dk os) (some blk) := by
  refine ⟨rfl, rfl, rfl, ?_, fun k hk hne => ?_⟩
  · unfold sortWorld
    rw [Sort.size_grow]
    simp [Sort.putRow, Sort.mapBlock]
  · unfold sortWorld
    rw [Sort.heap_grow_old _ _ (by simp [Sort.putRow, Sort.mapBlock]; omega)]
    show ((Sort.ahead w n).heap.modify blk _)[k]? = _
    rw [Array.getElem?_modify, if_neg (by intro e; exact hne (by rw [e]))]
    rfl
theorem RsIn.other {pr : Option Addr} {br r0 q : Nat} {l : List Int} {w w' : World} (h : RsIn pr br r0 l w) (hg : w.grownBy w' (some q)) (hne : 0 < l.length → br ≠ q) : RsIn pr br r0 l w' :=
  ⟨h.at_, fun j hj => by
    have h1 := h.cells j hj
    rw [World.cell?_of_block (hg.block br (lt_of_cell h1) (by intro e; exact hne (by omega) (Option.some.inj e)))]
    exact h1, h.big⟩

set_option maxHeartbeats 1000000 in
/-- slices.SortFunc, by the closure of word.Sort. -/
theorem sortf_any {B : Nat} {oa : Option Addr} {ca : Nat} {row L : List Int} (rb : Nat) (pr : Option Addr) (br r0 cr : Nat) (blk cap : Nat) (d : Array (WP L.length)) (w : World)
    (ho : w.ownsRow B 21 1 (.slice oa L.length ca) L.length (L.map E32)) (hl : L.length ≤ 1100000) (hLr : ∀ r ∈ L, r ∈ row)
    (hc : w.cell? ⟨rb, 0, none⟩ = some (.slice pr row.length cr)) (hW : RsIn pr br r0 row w) (hn1 : rb ≠ blk) (hn2 : br ≠ blk) (hn3 : (Value.slice oa L.length ca).ownBlock ≠ some blk)
    (hH : Sort.Holds (encP oa) w blk 0 d) (hblk : blk < w.heap.size) (hsz : d.size < 4611686018427387904) :
    Calls Tryd.prog 63 #[.slice (some ⟨blk, 0, none⟩) d.size cap, .func (.func 64) #[] #[.pointer (some ⟨rb, 0, none⟩)]] w fun e w' =>
      e = .returned (.tuple #[]) ∧ ∃ d' n os, Sort.PermIn 0 d.size d d' ∧ Sort.SortedIn (ltOf (cfP row L)) 0 d.size d' ∧ w' = sortWorld (encP oa) w blk 0 n d' os := by
  have eg : ∀ args w, (callFunc 64 args).run Tryd.prog w = .ok (.enter 64 args) w := enters_of Tryd.func64 (by kernel_rfl) rfl
  have hcmp : CmpReads Tryd.prog 64 #[.pointer (some ⟨rb, 0, none⟩)] (encP oa) (cfP row L) blk 0 d.size w := by
    intro m os dk hs x y
    have hg := sortW_grown (encP oa (n := L.length)) w blk 0 m dk os
    obtain ⟨p1, b1, o1, c1, e1, i1, j1⟩ := partV_rs ho hl x.1.1 x.1.2 x.2.1 x.2.2
    obtain ⟨p2, b2, o2, c2, e2, i2, j2⟩ := partV_rs ho hl y.1.1 y.1.2 y.2.1 y.2.2
    have k1 := closure_any rb pr p1 p2 br r0 cr b1 o1 c1 b2 o2 c2 row _ _ (sortWorld (encP oa) w blk 0 m dk os)
      (by rw [World.cell?_of_block (hg.block rb (lt_of_cell hc) (by intro e; exact hn1 (Option.some.inj e)))]; exact hc)
      (hW.other hg fun _ => hn2) (i1.other hg fun h e => hn3 (by rw [j1 h, e])) (i2.other hg fun h e => hn3 (by rw [j2 h, e]))
    rw [← e1, ← e2] at k1
    exact k1
  exact Any.slices_SortFunc Tryd.sortF_l (encP oa) (encP_one oa L.length) (cfP row L) (cfP_swo hLr) 64 _ blk 0 cap d w eg hcmp.lays hH hblk hsz
end Go.Proofs.YtcibjgkifafohaaDoor
