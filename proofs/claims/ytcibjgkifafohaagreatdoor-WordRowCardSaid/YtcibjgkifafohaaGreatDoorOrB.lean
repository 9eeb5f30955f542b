/-
  slices.SortFunc AT THE WORDS: the closure of word.Sort, the order of words, the whole sort (the shelf's contract).
  WALKS: slices.Equal at rows of runes (it only draws).
  PLAIN: what slices.CompactFunc keeps of a row: the places that are not like the place before.
  WALKS: slices.CompactFunc at words.
  PLAIN: the words of a list as places in the row of all their letters.
  PLAIN: what is left of a sorted row: each word once, each ahead of the next one; there is one such row.
  WALKS: word.Sort.
  PLAIN and WALK: cognatelaw03.WordOrder: true for every input.
-/
import Derived.Test.YtcibjgkifafohaaGreatDoorOrA
import Derived.Test.YtcibjgkifafohaaGreatDoorShelfY
import Derived.Lib.SliceRun
namespace Go.Proofs.YtcibjgkifafohaaGreatDoor
open Go.RowKit Go.Lib
set_option linter.unusedVariables false

set_option maxHeartbeats 1000000 in
set_option maxRecDepth 100000 in
theorem closure_any (rb : Nat) (pr qr tr : Option Addr) (br r0 cr ur s0 cs vr t0 ct : Nat) (row l m : List Int) (w : World) (hc : w.cell? ⟨rb, 0, none⟩ = some (.slice pr row.length cr)) (hW : RsIn pr br r0 row w) (hR : RsIn qr ur s0 l w) (hS : RsIn tr vr t0 m w) :
    Calls Tryz.prog 27 #[.slice qr l.length cs, .slice tr m.length ct, .pointer (some ⟨rb, 0, none⟩)] w fun e w' => e = .returned (.int .i64 (cmpI row l m)) ∧ QB w w' := by
  have k1 := wcompareq_any pr qr tr br r0 cr ur s0 cs vr t0 ct row l m w hW hR hS
  obtain ⟨nr, hnr⟩ : ∃ n, n = row.length := ⟨_, rfl⟩
  obtain ⟨nl, hnl⟩ : ∃ n, n = l.length := ⟨_, rfl⟩
  obtain ⟨nm, hnm⟩ : ∃ n, n = m.length := ⟨_, rfl⟩
  obtain ⟨R, hR'⟩ : ∃ n, n = cmpI row l m := ⟨_, rfl⟩
  rw [← hnr] at k1 hc
  rw [← hnl, ← hnm, ← hR'] at k1 ⊢
  have K1 := Lib.hid k1
  clear k1 hnr hnl hnm hR' hW hR hS
  go_enter Tryz.func27, Tryz.ntmps27
  go_wp2_with fail
  refine K1.out.mono ?_
  rintro _ w1 ⟨rfl, hb⟩
  have HB := Lib.hid hb
  clear hb
  go_wp2_with fail
  go_ret
  exact ⟨rfl, HB.out⟩

/-- A word's place in the row of all letters. -/
def WP (n : Nat) : Type := {p : Nat × Nat // p.1 ≤ p.2 ∧ p.2 ≤ n}
instance (n : Nat) : Inhabited (WP n) := ⟨⟨(0, 0), Nat.le_refl _, Nat.zero_le _⟩⟩
def encP (oa : Option Addr) {n : Nat} (p : WP n) : Value := prtV oa p.1.1 p.1.2
def wordP (L : List Int) (p : WP L.length) : List Int := subL L p.1.1 p.1.2
def cfP (row L : List Int) (p q : WP L.length) : Int := cmpI row (wordP L p) (wordP L q)
theorem encP_one (oa : Option Addr) (n : Nat) : OneCell (encP oa (n := n)) := by
  intro p
  obtain ⟨a, b, c, h⟩ := prtV_shape oa p.1.1 p.1.2
  show (prtV oa p.1.1 p.1.2).oneCell' = true
  rw [h]
  rfl
theorem wordP_mem {row L : List Int} (h : ∀ r ∈ L, r ∈ row) (p : WP L.length) : ∀ r ∈ wordP L p, r ∈ row := fun r hr => h r (List.mem_of_mem_drop (List.mem_of_mem_take hr))
theorem cfP_lex {row L : List Int} (h : ∀ r ∈ L, r ∈ row) (p q : WP L.length) : cfP row L p q = lexI (numL row (wordP L p)) (numL row (wordP L q)) := cmpI_lex _ _ (wordP_mem h p) (wordP_mem h q)
theorem cfP_swo {row L : List Int} (h : ∀ r ∈ L, r ∈ row) : Sort.SWO (ltOf (cfP row L)) where
  irrefl x := by unfold ltOf; rw [cfP_lex h, lexI_refl]; rfl
  trans x y z h1 h2 := by
    unfold ltOf at *
    rw [cfP_lex h, decide_eq_true_eq] at *
    exact (lexI_trans _ _ _ (Int.le_of_lt h1) (Int.le_of_lt h2)).2 (Or.inl h1)
  ntrans x y z h1 h2 := by
    unfold ltOf at *
    rw [cfP_lex h, decide_eq_false_iff_not] at *
    have a := lexI_swap (numL row (wordP L x)) (numL row (wordP L y))
    have b := lexI_swap (numL row (wordP L y)) (numL row (wordP L z))
    have c := lexI_swap (numL row (wordP L x)) (numL row (wordP L z))
    have d := (lexI_trans (numL row (wordP L z)) (numL row (wordP L y)) (numL row (wordP L x)) (by omega) (by omega)).1
    omega
theorem partV_rs {B : Nat} {oa : Option Addr} {ca : Nat} {L : List Int} {w : World} (ho : w.ownsRow B 21 1 (.slice oa L.length ca) L.length (L.map E32)) (hl : L.length ≤ 1100000) (a b : Nat) (hab : a ≤ b) (hb : b ≤ L.length) :
    ∃ pr br r0 cr, prtV oa a b = .slice pr (subL L a b).length cr ∧ RsIn pr br r0 (subL L a b) w ∧ (0 < (subL L a b).length → (Value.slice oa L.length ca).ownBlock = some br) := by
  rcases ho.2 with ⟨he, h0⟩ | ⟨g, cap, cur, he, hB, hg, hc, hm, hsz, ht⟩
  · simp only [Value.slice.injEq] at he
    obtain ⟨rfl, _, rfl⟩ := he
    obtain rfl : b = 0 := by omega
    obtain rfl : a = 0 := by omega
    rw [subL_same]
    exact ⟨none, 0, 0, 0, rfl, ⟨fun h => absurd h (by decide), fun j hj => absurd hj (by simp), by decide⟩, fun h => absurd h (by decide)⟩
  · simp only [Value.slice.injEq] at he
    obtain ⟨rfl, _, rfl⟩ := he
    by_cases hlt : a < b
    · have h1 : prtV (some ⟨g, 0, none⟩) a b = .slice (some ⟨g, a, none⟩) (b - a) (b - a) := if_pos hlt
      rw [h1]
      refine ⟨some ⟨g, a, none⟩, g, a, b - a, by rw [subL_len L a b hb], ⟨fun _ => rfl, fun j hj => ?_, by rw [subL_len L a b hb]; omega⟩, fun _ => by simp [Value.ownBlock]⟩
      rw [subL_len L a b hb] at hj
      rw [subL_at L a b j hb hj, ho.cellAt (a + j) (by omega), List.getElem?_map, List.getElem?_eq_getElem (by omega), getD_at (by omega)]
      rfl
    · obtain rfl : a = b := by omega
      have h1 : prtV (some ⟨g, 0, none⟩) a a = .slice (some ⟨g, 0, none⟩) 0 0 := if_neg hlt
      rw [h1, subL_same]
      exact ⟨some ⟨g, 0, none⟩, g, 0, 0, rfl, ⟨fun h => absurd h (by decide), fun j hj => absurd hj (by simp), by decide⟩, fun h => absurd h (by decide)⟩
theorem sortW_grown {α : Type} [Inhabited α] (enc : α → Value) (w : World) (blk off n : Nat) (dk : Array α) (os : Array Obj) : w.grownBy (sortWorld enc w blk off n dk os) (some blk) := by
  refine ⟨rfl, rfl, rfl, ?_, fun k hk hne => ?_⟩
  · unfold sortWorld
    rw [Sort.size_grow]
    simp [Sort.putRow, Sort.mapBlock]
  · unfold sortWorld
    rw [Sort.heap_grow_old _ _ (by simp [Sort.putRow, Sort.mapBlock]; omega)]
    show ((Sort.ahead w n).heap.modify blk _)[k]? = _
    rw [Array.getElem?_modify, if_neg (by intro e; exact hne (by rw [e]))]
    rfl
theorem RsIn.other {pr : Option Addr} {br r0 q : Nat} {l : List Int} {w w' : World} (h : RsIn pr br r0 l w) (hg : w.grownBy w' (some q)) (hne : 0 < l.length → br ≠ q) : RsIn pr br r0 l w' :=
  ⟨h.at_, fun j hj => by
    have h1 := h.cells j hj
    rw [World.cell?_of_block (hg.block br (lt_of_cell h1) (by intro e; exact hne (by omega) (Option.some.inj e)))]
    exact h1, h.big⟩

set_option maxHeartbeats 1000000 in
/-- slices.SortFunc, by the closure of word.Sort. -/
theorem sortf_any {B : Nat} {oa : Option Addr} {ca : Nat} {row L : List Int} (rb : Nat) (pr : Option Addr) (br r0 cr : Nat) (blk cap : Nat) (d : Array (WP L.length)) (w : World)
    (ho : w.ownsRow B 21 1 (.slice oa L.length ca) L.length (L.map E32)) (hl : L.length ≤ 1100000) (hLr : ∀ r ∈ L, r ∈ row)
    (hc : w.cell? ⟨rb, 0, none⟩ = some (.slice pr row.length cr)) (hW : RsIn pr br r0 row w) (hn1 : rb ≠ blk) (hn2 : br ≠ blk) (hn3 : (Value.slice oa L.length ca).ownBlock ≠ some blk)
    (hH : Sort.Holds (encP oa) w blk 0 d) (hblk : blk < w.heap.size) (hsz : d.size < 4611686018427387904) :
    Calls Tryz.prog 26 #[.slice (some ⟨blk, 0, none⟩) d.size cap, .func (.func 27) #[] #[.pointer (some ⟨rb, 0, none⟩)]] w fun e w' =>
      e = .returned (.tuple #[]) ∧ ∃ d' n os, Sort.PermIn 0 d.size d d' ∧ Sort.SortedIn (ltOf (cfP row L)) 0 d.size d' ∧ w' = sortWorld (encP oa) w blk 0 n d' os := by
  have eg : ∀ args w, (callFunc 27 args).run Tryz.prog w = .ok (.enter 27 args) w := enters_of Tryz.func27 (by kernel_rfl) rfl
  have hcmp : CmpReads Tryz.prog 27 #[.pointer (some ⟨rb, 0, none⟩)] (encP oa) (cfP row L) blk 0 d.size w := by
    intro m os dk hs x y
    have hg := sortW_grown (encP oa (n := L.length)) w blk 0 m dk os
    obtain ⟨p1, b1, o1, c1, e1, i1, j1⟩ := partV_rs ho hl x.1.1 x.1.2 x.2.1 x.2.2
    obtain ⟨p2, b2, o2, c2, e2, i2, j2⟩ := partV_rs ho hl y.1.1 y.1.2 y.2.1 y.2.2
    have k1 := closure_any rb pr p1 p2 br r0 cr b1 o1 c1 b2 o2 c2 row _ _ (sortWorld (encP oa) w blk 0 m dk os)
      (by rw [World.cell?_of_block (hg.block rb (lt_of_cell hc) (by intro e; exact hn1 (Option.some.inj e)))]; exact hc)
      (hW.other hg fun _ => hn2) (i1.other hg fun h e => hn3 (by rw [j1 h, e])) (i2.other hg fun h e => hn3 (by rw [j2 h, e]))
    rw [← e1, ← e2] at k1
    exact k1
  exact Any.slices_SortFunc Tryz.sortF_l (encP oa) (encP_one oa L.length) (cfP row L) (cfP_swo hLr) 27 _ blk 0 cap d w eg hcmp.lays hH hblk hsz
end Go.Proofs.YtcibjgkifafohaaGreatDoor
namespace Go.Proofs.YtcibjgkifafohaaGreatDoor
open Go.RowKit Go.Lib
set_option linter.unusedVariables false

theorem drop_yes {l m : List Int} {k : Nat} (h1 : k < l.length) (h2 : k < m.length) (h : l.getD k 0 = m.getD k 0) : decide (l.drop k = m.drop k) = decide (l.drop (k + 1) = m.drop (k + 1)) := by
  rw [getD_at h1, getD_at h2] at h
  have e1 : l.drop k = l[k] :: l.drop (k + 1) := List.drop_eq_getElem_cons h1
  have e2 : m.drop k = m[k] :: m.drop (k + 1) := List.drop_eq_getElem_cons h2
  rw [e1, e2, h]
  apply decide_eq_decide.2
  rw [List.cons.injEq]
  exact ⟨fun x => x.2, fun x => ⟨rfl, x⟩⟩
theorem drop_no {l m : List Int} {k : Nat} (h1 : k < l.length) (h2 : k < m.length) (h : ¬ l.getD k 0 = m.getD k 0) : decide (l.drop k = m.drop k) = false := by
  rw [getD_at h1, getD_at h2] at h
  have e1 : l.drop k = l[k] :: l.drop (k + 1) := List.drop_eq_getElem_cons h1
  have e2 : m.drop k = m[k] :: m.drop (k + 1) := List.drop_eq_getElem_cons h2
  rw [e1, e2, decide_eq_false_iff_not, List.cons.injEq]
  exact fun x => h x.1
theorem drop_end {l m : List Int} {k : Nat} (h1 : l.length ≤ k) (h2 : m.length ≤ k) : decide (l.drop k = m.drop k) = true := by
  rw [List.drop_eq_nil_of_le h1, List.drop_eq_nil_of_le h2]
  rfl

set_option maxHeartbeats 4000000 in
set_option maxRecDepth 100000 in
theorem eqr_any (pr qr : Option Addr) (br r0 cr ur s0 cs : Nat) (l m : List Int) (w : World) (hR : RsIn pr br r0 l w) (hS : RsIn qr ur s0 m w) :
    Calls Tryz.prog 29 #[.slice pr l.length cr, .slice qr m.length cs] w fun e w' => e = .returned (.bool (decide (l = m))) ∧ QB w w' := by
  have hb1 := hR.big
  have hb2 := hS.big
  obtain ⟨X, hX⟩ : ∃ X, X = decide (l = m) := ⟨_, rfl⟩
  have hX0 : X = decide (l.drop 0 = m.drop 0) := hX
  have hXn : ¬ l.length = m.length → X = false := fun h => by rw [hX, decide_eq_false_iff_not]; intro e; exact h (by rw [e])
  rw [← hX]
  obtain ⟨n, hn⟩ : ∃ n, n = l.length := ⟨_, rfl⟩
  obtain ⟨j, hj⟩ : ∃ n, n = m.length := ⟨_, rfl⟩
  rw [← hn] at hb1 hXn ⊢
  rw [← hj] at hb2 hXn ⊢
  have HR := Lib.hid hR; have HS := Lib.hid hS; have HN := Lib.hid hn; have HJ := Lib.hid hj; have HX := Lib.hid hX0
  by_cases hnj : n = j
  · subst hnj
    clear hR hS hn hj hX hX0 hXn
    go_enter Tryz.func29, Tryz.ntmps29
    go_wp2_with fail
    go_loopw [13] (fun iv wr => ∃ k : Nat, iv = .int .i64 k ∧ k ≤ n ∧ Hid (X = decide (l.drop k = m.drop k)) ∧ Hid (QB w wr)) (fun iv _ => n - (intOf iv).toNat)
    case atStart => exact ⟨0, rfl, Nat.zero_le _, HX, QB.refl _⟩
    case round =>
      obtain ⟨k, rfl, hk, HK, HB⟩ := hrel
      by_cases hkn : k < n
      · have hkl : k < l.length := by rw [← HN.out]; exact hkn
        have hkm : k < m.length := by rw [← HJ.out]; exact hkn
        have hz1 : (k : Int) < (n : Int) := by omega
        obtain rfl := HR.out.at_ (by omega)
        obtain rfl := HS.out.at_ (by omega)
        have a0 := (HR.out.next HB.out.below).cells k hkl
        have b0 := (HS.out.next HB.out.below).cells k hkm
        have hy := drop_yes hkl hkm
        have hno := drop_no hkl hkm
        obtain ⟨q, hq⟩ : ∃ q, q = l.getD k 0 := ⟨_, rfl⟩
        obtain ⟨u, hu⟩ : ∃ q, q = m.getD k 0 := ⟨_, rfl⟩
        rw [← hq] at a0 hy hno
        rw [← hu] at b0 hy hno
        by_cases hqu : q = u
        · have HY := Lib.hid (hy hqu)
          clear hy hno hq hkl hkm hu
          subst hqu
          go_wp2_with fail
          go_quiet (fail)
          have HB2 := Lib.hid (HB.out.drew nq)
          go_wp2_with fail
          go_roundw
          case rel => exact ⟨k + 1, by go_num, by omega, by show _ = _; rw [HK.out]; exact HY.out, HB2⟩
          case measure => simp [intOf]; omega
        · have hxf : X = false := by rw [HK.out]; exact hno hqu
          have e1 : (q == u) = false := by simp [hqu]
          have e2 : (q != u) = true := by simp [hqu]
          clear hy hno hq hkl hkm hu HK HX
          subst hxf
          go_wp2_with fail
          go_quiet (fail)
          have HB2 := Lib.hid (HB.out.drew nq)
          go_wp2_with fail
          go_ret
          exact ⟨rfl, HB2.out⟩
      · have hxt : X = true := by rw [HK.out]; exact drop_end (by rw [← HN.out]; omega) (by rw [← HJ.out]; omega)
        clear HK HX
        subst hxt
        go_wp2_with fail
        go_ret
        exact ⟨rfl, HB.out⟩
  · have hxf := hXn hnj
    have e1 : ((n : Int) == (j : Int)) = false := by simp; omega
    have e2 : ((n : Int) != (j : Int)) = true := by simp; omega
    clear hR hS hn hj hX hX0 hXn HX
    subst hxf
    go_enter Tryz.func29, Tryz.ntmps29
    go_wp2_with fail
    go_ret
    exact ⟨rfl, QB.refl _⟩
end Go.Proofs.YtcibjgkifafohaaGreatDoor
namespace Go.Proofs.YtcibjgkifafohaaGreatDoor
open Go.RowKit Go.Lib
set_option linter.unusedVariables false

/-- The kept ones of the first t places; E i: the i-th is like the one before. -/
def kpL (E : Nat → Bool) (t : Nat) : List Nat := (List.range t).filter fun i => decide (i = 0) || !E i
theorem kpL_snoc (E : Nat → Bool) (t : Nat) : kpL E (t + 1) = kpL E t ++ (if (decide (t = 0) || !E t) = true then [t] else []) := by
  unfold kpL
  rw [List.range_succ, List.filter_append]
  congr 1
  by_cases h : (decide (t = 0) || !E t) = true
  · rw [if_pos h]; simp only [List.filter_cons, h, if_true, List.filter_nil]
  · rw [if_neg h]; simp only [List.filter_cons, h, List.filter_nil]; rfl
theorem kpL_yes {E : Nat → Bool} {t : Nat} (h : E t = false) : kpL E (t + 1) = kpL E t ++ [t] := by rw [kpL_snoc, if_pos (by rw [h]; simp)]
theorem kpL_no {E : Nat → Bool} {t : Nat} (h : E t = true) (h0 : 0 < t) : kpL E (t + 1) = kpL E t := by
  rw [kpL_snoc, if_neg (by rw [h]; simp; omega), List.append_nil]
theorem kpL_one (E : Nat → Bool) : kpL E 1 = [0] := by rw [kpL_snoc, if_pos (by simp)]; rfl
theorem kpL_le (E : Nat → Bool) (t : Nat) : (kpL E t).length ≤ t := by
  have := List.length_filter_le (fun i => decide (i = 0) || !E i) (List.range t)
  rw [List.length_range] at this
  exact this
theorem kpL_lt {E : Nat → Bool} : ∀ {t : Nat} (k : Nat), 0 < k → k < t → E k = true → (kpL E t).length < t
  | 0, k, _, h, _ => absurd h (by omega)
  | t + 1, k, h0, h, hk => by
    by_cases e : k = t
    · subst e
      rw [kpL_no hk h0]
      have := kpL_le E k
      omega
    · have ih := kpL_lt (t := t) k h0 (by omega) hk
      rw [kpL_snoc, List.length_append]
      split <;> simp <;> omega
/-- Nothing like the one before: all are kept. -/
theorem kpL_all {E : Nat → Bool} : ∀ (t : Nat), (∀ i, 0 < i → i < t → E i = false) → kpL E t = List.range t
  | 0, _ => rfl
  | t + 1, h => by
    have ih := kpL_all t fun i h0 h1 => h i h0 (by omega)
    by_cases e : t = 0
    · subst e; exact kpL_one E
    · rw [kpL_yes (h t (by omega) (by omega)), ih, List.range_succ]
theorem kpL_bound (E : Nat → Bool) (t : Nat) : ∀ i ∈ kpL E t, i < t := fun i hi => List.mem_range.1 (List.mem_filter.1 hi).1
/-- The row behind the first t places: the kept ones ahead, the rest from t - 1 on as it was. -/
structure KpIn (E : Nat → Bool) (D : List Value) (t : Nat) (xs : List Value) : Prop where
  len : xs.length = D.length
  kept : ∀ j, j < (kpL E t).length → xs[j]? = D[(kpL E t).getD j 0]?
  rest : ∀ j, t ≤ j + 1 → j < D.length → xs[j]? = D[j]?
theorem KpIn.start {E : Nat → Bool} {D : List Value} {k : Nat} (h : ∀ i, 0 < i → i < k → E i = false) : KpIn E D k D := by
  refine ⟨rfl, fun j hj => ?_, fun j _ _ => rfl⟩
  rw [kpL_all k h] at hj ⊢
  rw [List.length_range] at hj
  rw [List.getD_eq_getElem?_getD, List.getElem?_range hj]
  rfl
theorem KpIn.skip {E : Nat → Bool} {D xs : List Value} {t : Nat} (h : KpIn E D t xs) (he : E t = true) (h0 : 0 < t) : KpIn E D (t + 1) xs := by
  refine ⟨h.len, ?_, fun j h1 h2 => h.rest j (by omega) h2⟩
  rw [kpL_no he h0]
  exact h.kept
theorem KpIn.keep {E : Nat → Bool} {D xs : List Value} {t : Nat} {u : Value} (h : KpIn E D t xs) (he : E t = false) (ht : t < D.length) (hu : D[t]? = some u) (hlt : (kpL E t).length < t) :
    KpIn E D (t + 1) (xs.set (kpL E t).length u) := by
  refine ⟨by rw [List.length_set]; exact h.len, fun j hj => ?_, fun j h1 h2 => ?_⟩
  · rw [kpL_yes he] at hj ⊢
    rw [List.length_append] at hj
    by_cases e : j = (kpL E t).length
    · subst e
      rw [List.getElem?_set_self (by rw [h.len]; omega), List.getD_eq_getElem?_getD, List.getElem?_append_right (Nat.le_refl _), Nat.sub_self]
      simp [hu]
    · have hj2 : j < (kpL E t).length := by simp at hj; omega
      rw [List.getElem?_set_ne (by omega), h.kept j hj2, List.getD_eq_getElem?_getD, List.getD_eq_getElem?_getD, List.getElem?_append_left hj2]
  · rw [List.getElem?_set_ne (by omega)]
    exact h.rest j (by omega) h2
end Go.Proofs.YtcibjgkifafohaaGreatDoor
namespace Go.Proofs.YtcibjgkifafohaaGreatDoor
open Go.RowKit Go.Lib
set_option linter.unusedVariables false

theorem setCell_grown (g o : Nat) (v : Value) (w : World) : w.grownBy (w.setCell ⟨g, o, none⟩ v) (some g) := by
  rw [Sort.setCell_eq]
  refine ⟨rfl, rfl, rfl, by simp [Sort.mapBlock], fun k hk hne => ?_⟩
  show (w.heap.modify g _)[k]? = _
  rw [Array.getElem?_modify, if_neg (by intro e; exact hne (by rw [e]))]
theorem setCells_grown (g : Nat) : ∀ (vs : List Value) (o : Nat) (w : World), w.grownBy (w.setCells g o vs) (some g)
  | [], _, w => ⟨rfl, rfl, rfl, Nat.le_refl _, fun k _ _ => rfl⟩
  | v :: r, o, w => grown_step (setCell_grown g o v w) (setCells_grown g r (o + 1) _) (fun q hq => Or.inl hq)

set_option maxHeartbeats 4000000 in
set_option maxRecDepth 100000 in
theorem compf_any (B g cap n : Nat) (D : List Value) (E : Nat → Bool) (w : World) (hD : ∀ j, j < n → ∃ p m c, D[j]? = some (.slice p m c)) (ho : w.ownsRow B 40 1 (.slice (some ⟨g, 0, none⟩) n cap) n D) (hn : n = D.length) (hn4 : n ≤ 4096)
    (ke : ∀ i x y, i + 1 < n → D[i + 1]? = some x → D[i]? = some y → ∀ W, w.grownBy W (some g) → Calls Tryz.prog 29 #[x, y] W fun e w' => e = .returned (.bool (E (i + 1))) ∧ QB W w') :
    Calls Tryz.prog 28 #[.slice (some ⟨g, 0, none⟩) n cap, .func (.func 29) #[] #[]] w fun e w' =>
      e = .returned (.slice (some ⟨g, 0, none⟩) (kpL E n).length cap) ∧ (∀ j, j < (kpL E n).length → w'.cell? ⟨g, j, none⟩ = D[(kpL E n).getD j 0]?) ∧ w.grownBy w' (some g) := by
  have HO := Lib.hid ho; have HN := Lib.hid hn; have HD := Lib.hid hD; have KE := Lib.hid ke
  clear ho hn hD ke
  by_cases h2 : n < 2
  · have hall : kpL E n = List.range n := kpL_all n fun i h0 h1 => absurd h1 (by omega)
    have hP : (kpL E n).length = n ∧ (∀ j, j < (kpL E n).length → w.cell? ⟨g, j, none⟩ = D[(kpL E n).getD j 0]?) := by
      rw [hall, List.length_range]
      refine ⟨rfl, fun j hj => ?_⟩
      rw [List.getD_eq_getElem?_getD, List.getElem?_range hj, HO.out.cellAt j (by omega)]
      rfl
    have HP := Lib.hid hP
    obtain ⟨K, hK⟩ : ∃ K, K = kpL E n := ⟨_, rfl⟩
    rw [← hK] at HP ⊢
    obtain ⟨m, hm⟩ : ∃ m, m = K.length := ⟨_, rfl⟩
    rw [← hm] at HP ⊢
    clear hall hP hK hm
    go_enter Tryz.func28, Tryz.ntmps28
    go_wp2_with fail
    go_ret
    exact ⟨by rw [HP.out.1] <;> rfl, HP.out.2, ⟨rfl, rfl, rfl, Nat.le_refl _, fun k _ _ => rfl⟩⟩
  · obtain ⟨R, hR⟩ : ∃ K, K = kpL E n := ⟨_, rfl⟩
    have HR := Lib.hid hR
    rw [← hR]
    clear hR
    go_enter Tryz.func28, Tryz.ntmps28
    go_wp2_with fail
    go_loopw [5] (fun iv wr => ∃ k : Nat, iv = .int .i64 (k + 1 : Nat) ∧ k + 1 ≤ n ∧ Hid (∀ i, 0 < i → i < k + 1 → E i = false) ∧ Hid (QB w wr)) (fun iv _ => n - (intOf iv).toNat)
    case atStart => exact ⟨0, rfl, by omega, fun i h0 h1 => absurd h1 (by omega), QB.refl _⟩
    case round =>
      obtain ⟨k, rfl, hk, HE, HB⟩ := hrel
      have hgr : w.grownBy wr (some g) := by
        obtain ⟨q, hq⟩ := HB.out
        subst hq
        exact ⟨rfl, rfl, rfl, Nat.le_refl _, fun k _ _ => rfl⟩
      by_cases hkn : k + 1 < n
      · obtain ⟨p1, m1, c1, e1⟩ := HD.out (k + 1) hkn
        obtain ⟨p0, m0, c0, e0⟩ := HD.out k (by omega)
        have hor := own_below HO.out HB.out.below
        have a1 : wr.cell? ⟨g, k + 1, none⟩ = some (.slice p1 m1 c1) := by rw [hor.cellAt (k + 1) (by omega)]; exact e1
        have a0 : wr.cell? ⟨g, k, none⟩ = some (.slice p0 m0 c0) := by rw [hor.cellAt k (by omega)]; exact e0
        have kc := fun q => KE.out k _ _ hkn e1 e0 (wr.drewN q) (⟨hgr.os, hgr.tape, hgr.output, hgr.size, hgr.block⟩)
        have hz1 : ((k : Int) + 1) < (n : Int) := by omega
        have hz2 : (k : Int) < (n : Int) := by omega
        have q1 : IntKind.i64.wrap ((k : Int) + 1 - 1) = (k : Int) := by rw [IntKind.wrap_i64]; omega
        obtain ⟨X, hX⟩ : ∃ X, X = E (k + 1) := ⟨_, rfl⟩
        rw [← hX] at kc
        have KC := Lib.hid kc; have HX := Lib.hid hX
        clear kc hX e1 e0 hor hgr
        go_wp2_with fail
        go_quiet (first | (go_at_call 29; with_reducible exact Calls.quiet_of (KC.out _)))
        have HBq := Lib.hid (HB.out.drew nq)
        cases X with
        | false =>
          have HE2 := Lib.hid (show ∀ i, 0 < i → i < k + 1 + 1 → E i = false from fun i h0 h1 => by
            by_cases e : i = k + 1
            · subst e; exact HX.out.symm
            · exact HE.out i h0 (by omega))
          go_wp2_with fail
          go_roundw
          case rel => exact ⟨k + 1, by go_num, by omega, HE2, HBq⟩
          case measure => simp [intOf]; omega
        | true =>
          have hbd : n ≤ cap ∧ cap ≤ 9223372036854775807 := by
            rcases HO.out.2 with ⟨he, h0⟩ | ⟨g', cap', cur, he, hBg, hg, hc, hm, hsz, ht⟩
            · simp at he
            · simp only [Value.slice.injEq] at he
              obtain ⟨_, _, rfl⟩ := he
              unfold maxLen at hm
              exact ⟨hc, by omega⟩
          obtain ⟨hb1, hb2⟩ := hbd
          have hst := KpIn.skip (KpIn.start (D := D) HE.out) HX.out.symm (by omega)
          have HST := Lib.hid hst
          have HOr := Lib.hid (own_below HO.out HBq.out.below)
          have hgr2 : w.grownBy (wr.drewN nq) (some g) := by
            obtain ⟨q, hq⟩ := HBq.out
            rw [hq]
            exact ⟨rfl, rfl, rfl, Nat.le_refl _, fun k _ _ => rfl⟩
          have HGr := Lib.hid hgr2
          have hkl : (kpL E (k + 2)).length = k + 1 := by
            rw [kpL_no HX.out.symm (by omega), kpL_all (k + 1) HE.out, List.length_range]
          have HKL := Lib.hid hkl
          have hs2 : n - (k + 1) ≤ cap - (k + 1) := by omega
          clear hst hgr2 hkl KC
          go_wp2_with fail
          clear HBq HB hb1 hs2 hb2
          go_loopw [5, 7] (fun kv iv wk => ∃ (j : Nat) (xs : List Value), iv = .int .i64 (j + 1 : Nat) ∧ k + 1 + (j + 1) ≤ n ∧ kv = .int .i64 ((kpL E (k + 1 + (j + 1))).length : Nat) ∧ Hid (KpIn E D (k + 1 + (j + 1)) xs) ∧ Hid (wk.ownsRow B 40 1 (.slice (some ⟨g, 0, none⟩) n cap) n xs) ∧ Hid (w.grownBy wk (some g))) (fun _ iv _ => n - (intOf iv).toNat)
          case atStart => exact ⟨0, D, rfl, by omega, by have := HKL.out; rw [show k + 1 + (0 + 1) = k + 2 by omega, this], HST, HOr, HGr⟩
          case round =>
            clear HST HOr HGr HKL
            obtain ⟨j, xs, rfl, hj, rfl, HK, HOw, HG⟩ := hrel
            obtain ⟨K, hK⟩ : ∃ K, K = (kpL E (k + 1 + (j + 1))).length := ⟨_, rfl⟩
            have hKn : K < k + 1 + (j + 1) := by rw [hK]; exact kpL_lt (k + 1) (by omega) (by omega) HX.out.symm
            rw [← hK]
            by_cases hjn : k + 1 + (j + 1) < n
            · obtain ⟨p1, m1, c1, e1⟩ := HD.out (k + 1 + (j + 1)) hjn
              obtain ⟨p0, m0, c0, e0⟩ := HD.out (k + 1 + j) (by omega)
              have hlx := HK.out.len
              have r1 := HK.out.rest (k + 1 + (j + 1)) (by omega) (by rw [← HN.out]; omega)
              have r0 := HK.out.rest (k + 1 + j) (by omega) (by rw [← HN.out]; omega)
              have b1 : wr.cell? ⟨g, k + 1 + (j + 1), none⟩ = some (.slice p1 m1 c1) := by rw [HOw.out.cellAt _ (by omega), r1]; exact e1
              have b0 : wr.cell? ⟨g, k + 1 + j, none⟩ = some (.slice p0 m0 c0) := by rw [HOw.out.cellAt _ (by omega), r0]; exact e0
              have kc := fun q => KE.out (k + 1 + j) _ _ (by omega) e1 e0 (wr.drewN q) ⟨HG.out.os, HG.out.tape, HG.out.output, HG.out.size, HG.out.block⟩
              have hz3 : ((j : Int) + 1) < ((n - (k + 1) : Nat) : Int) := by omega
              have hz4 : (j : Int) < ((n - (k + 1) : Nat) : Int) := by omega
              have q2 : IntKind.i64.wrap ((j : Int) + 1 - 1) = (j : Int) := by rw [IntKind.wrap_i64]; omega
              have hkeep := fun (he : E (k + 1 + (j + 1)) = false) => KpIn.keep HK.out he (by rw [← HN.out]; omega) e1 (by rw [← hK]; omega)
              have hskip := fun (he : E (k + 1 + (j + 1)) = true) => KpIn.skip HK.out he (by omega)
              have hly := fun (he : E (k + 1 + (j + 1)) = false) => kpL_yes he
              have hln := fun (he : E (k + 1 + (j + 1)) = true) => kpL_no he (by omega)
              obtain ⟨X2, hX2⟩ : ∃ X, X = E (k + 1 + (j + 1)) := ⟨_, rfl⟩
              have kc2 : ∀ q, Calls Tryz.prog 29 #[.slice p1 m1 c1, .slice p0 m0 c0] (wr.drewN q) fun e w' => e = .returned (.bool X2) ∧ QB (wr.drewN q) w' := fun q => by rw [hX2]; exact kc q
              have KC2 := Lib.hid kc2
              rw [← hX2, ← hK] at hkeep
              rw [← hX2] at hskip hly hln
              have HKp := Lib.hid hkeep; have HSk := Lib.hid hskip; have HLY := Lib.hid hly; have HLN := Lib.hid hln
              have hyK := HOw.out.cellAt K (by omega)
              rw [List.getElem?_eq_getElem (by rw [hlx, ← HN.out]; omega)] at hyK
              obtain ⟨y, hy⟩ : ∃ y, wr.cell? ⟨g, K, none⟩ = some y := ⟨_, hyK⟩
              have hfz := HOw.out.frozenAt K
              have hzk : (K : Int) < (n : Int) := by omega
              have HKK := Lib.hid hK
              clear kc kc2 hkeep hskip hly hln e1 e0 r1 r0 hyK hX2 hK
              go_wp2_with fail
              go_quiet (first | (go_at_call 29; with_reducible exact Calls.quiet_of (KC2.out _)))
              have hGq : w.grownBy (wr.drewN nq) (some g) := ⟨HG.out.os, HG.out.tape, HG.out.output, HG.out.size, HG.out.block⟩
              have HGq := Lib.hid hGq
              have HOq := Lib.hid (own_below HOw.out (below_drewN (Below.refl wr.heap.size wr) nq))
              have hyd : (wr.drewN nq).cell? ⟨g, K, none⟩ = some y := hy
              have hfd : (wr.drewN nq).frozen? ⟨g, K, none⟩ = false := hfz
              have b1d : (wr.drewN nq).cell? ⟨g, k + 1 + (j + 1), none⟩ = some (.slice p1 m1 c1) := b1
              clear hGq hy hfz b1 b0 HOw HG
              cases X2 with
              | true =>
                have HS2 := Lib.hid (HSk.out rfl)
                have HL2 := Lib.hid (HLN.out rfl)
                clear HKp HSk HLY HLN KC2
                go_wp2_with fail
                go_roundw
                case rel => exact ⟨j + 1, xs, by go_num, by omega, by rw [show k + 1 + (j + 1 + 1) = k + 1 + (j + 1) + 1 by omega, HL2.out, ← HKK.out], by rw [show k + 1 + (j + 1 + 1) = k + 1 + (j + 1) + 1 by omega]; exact HS2.out, HOq, HGq⟩
                case measure => simp [intOf]; omega
              | false =>
                have HS2 := Lib.hid (HKp.out rfl)
                have HL2 := Lib.hid (HLY.out rfl)
                obtain ⟨hs1, hs2⟩ := HOq.out.stored K (.slice p1 m1 c1)
                have HO2 := Lib.hid hs1
                have hg2 : w.grownBy ((wr.drewN nq).setCell ⟨g, K, none⟩ (.slice p1 m1 c1)) (some g) := grown_step HGq.out hs2 (fun q hq => Or.inl hq)
                have HG2 := Lib.hid hg2
                clear HKp HSk HLY HLN KC2 hs1 hs2 hg2 HGq HOq
                go_wp2_with fail
                go_roundw
                case rel => exact ⟨j + 1, _, by go_num, by omega, by rw [show k + 1 + (j + 1 + 1) = k + 1 + (j + 1) + 1 by omega, HL2.out, List.length_append, ← HKK.out]; go_num, by rw [show k + 1 + (j + 1 + 1) = k + 1 + (j + 1) + 1 by omega]; exact HS2.out, HO2, HG2⟩
                case measure => simp [intOf]; omega
            · have htn : k + 1 + (j + 1) = n := by omega
              have hx : (kpL E n).length = K := by rw [hK, htn]
              have hKl : K < n := by omega
              have hxR : R.length = K := by rw [HR.out]; exact hx
              have hkp := HK.out
              rw [htn] at hkp
              have hcl : ∀ ty, (Builtin.clear_ #[53] ty #[.slice (some ⟨g, K, none⟩) (n - K) (cap - K)]).run Tryz.prog wr = .ok (.tuple #[]) (wr.setCells g K (List.replicate (n - K) (.slice none 0 0))) :=
                fun ty => Lib.run_clear_slice wr 53 40 ty (.slice none 0 0) Tryz.underlying53 Tryz.zeroValue40 rfl rfl g K (n - K) (cap - K) (by omega)
                  (fun i hi => by rw [HOw.out.cellAt (K + i) (by omega), List.getElem?_eq_getElem (by rw [hkp.len, ← HN.out]; omega)]; rfl) (fun i hi => HOw.out.frozenAt (K + i))
              have hfin : (∀ i, i < R.length → (wr.setCells g K (List.replicate (n - K) (.slice none 0 0))).cell? ⟨g, i, none⟩ = D[R.getD i 0]?) ∧ w.grownBy (wr.setCells g K (List.replicate (n - K) (.slice none 0 0))) (some g) := by
                refine ⟨fun i hi => ?_, grown_step HG.out (setCells_grown g _ _ _) (fun q hq => Or.inl hq)⟩
                rw [World.cell?_setCells_out g _ K wr ⟨g, i, none⟩ (fun _ _ => Or.inl (by show i < K; omega)), HOw.out.cellAt i (by omega), HR.out]
                exact hkp.kept i (by rw [hx]; omega)
              have HFin := Lib.hid hfin
              have HxR := Lib.hid hxR
              have hbd : n ≤ cap ∧ cap ≤ 9223372036854775807 := by
                rcases HO.out.2 with ⟨he, h0⟩ | ⟨g', cap', cur, he, hBg, hg, hc, hm, hsz, ht⟩
                · simp at he
                · simp only [Value.slice.injEq] at he
                  obtain ⟨_, _, rfl⟩ := he
                  unfold maxLen at hm
                  exact ⟨hc, by omega⟩
              obtain ⟨hb1, hb2⟩ := hbd
              have hb3 : n - K ≤ cap - K := by omega
              have hz5 : decide (((j + 1 : Nat) : Int) < ((n - (k + 1) : Nat) : Int)) = false := by simp; omega
              clear hfin hxR hkp hx htn hK
              go_wp2_with fail
              go_ret
              exact ⟨by rw [HxR.out] <;> rfl, HFin.out.1, HFin.out.2⟩
      · have hkk : k + 1 = n := by omega
        have hall : kpL E n = List.range n := kpL_all n fun i h0 h1 => HE.out i h0 (by omega)
        have hfin : R.length = n ∧ (∀ i, i < R.length → wr.cell? ⟨g, i, none⟩ = D[R.getD i 0]?) ∧ w.grownBy wr (some g) := by
          rw [HR.out, hall, List.length_range]
          refine ⟨rfl, fun i hi => ?_, hgr⟩
          rw [List.getD_eq_getElem?_getD, List.getElem?_range hi, (own_below HO.out HB.out.below).cellAt i (by omega)]
          rfl
        have HFin := Lib.hid hfin
        have hz5 : decide (((k + 1 : Nat) : Int) < (n : Int)) = false := by simp; omega
        clear hfin hall hgr
        go_wp2_with fail
        go_ret
        exact ⟨by rw [HFin.out.1] <;> rfl, HFin.out.2.1, HFin.out.2.2⟩
end Go.Proofs.YtcibjgkifafohaaGreatDoor
namespace Go.Proofs.YtcibjgkifafohaaGreatDoor
open Go.RowKit Go.Lib
set_option linter.unusedVariables false

theorem enL_len (l : List ByteArray) (k : Nat) : (enL l k).length = k := by unfold enL; rw [List.length_map, List.length_range]
theorem enL_at (l : List ByteArray) (n k : Nat) (hk : k < n) : (enL l n).getD k 0 = (alL (l.take (k + 1))).length := by
  unfold enL
  rw [List.getD_eq_getElem?_getD, List.getElem?_map, List.getElem?_range hk]
  rfl
theorem enF_at (l : List ByteArray) (n k : Nat) (hk : k < n) : enF (enL l n) k = (alL (l.take k)).length := by
  unfold enF
  by_cases h : k = 0
  · subst h; rw [if_pos rfl]; rfl
  · rw [if_neg h, enL_at l n (k - 1) (by omega), show k - 1 + 1 = k by omega]
theorem alL_take (l : List ByteArray) (k : Nat) : alL l = alL (l.take k) ++ alL (l.drop k) := by
  unfold alL
  rw [← List.flatMap_append, List.take_append_drop]
theorem en_bounds (l : List ByteArray) (k : Nat) (hk : k < l.length) : enF (enL l l.length) k ≤ (enL l l.length).getD k 0 ∧ (enL l l.length).getD k 0 ≤ (alL l).length := by
  rw [enF_at l _ k hk, enL_at l _ k hk]
  have h1 := alL_snoc hk
  have h2 := alL_take l (k + 1)
  have e1 : (alL (l.take (k + 1))).length = (alL (l.take k)).length + (runesL (cutW (l.getD k ByteArray.empty))).length := by rw [h1, List.length_append]
  have e2 : (alL l).length = (alL (l.take (k + 1))).length + (alL (l.drop (k + 1))).length := by rw [← List.length_append, ← h2]
  omega
/-- The k-th word's letters. -/
theorem en_word (l : List ByteArray) (k : Nat) (hk : k < l.length) : subL (alL l) (enF (enL l l.length) k) ((enL l l.length).getD k 0) = runesL (cutW (l.getD k ByteArray.empty)) := by
  rw [enF_at l _ k hk, enL_at l _ k hk]
  have h1 := alL_snoc hk
  have h2 := alL_take l (k + 1)
  unfold subL
  rw [h2, h1, List.length_append, Nat.add_sub_cancel_left, List.append_assoc, List.drop_left, List.take_left]
def mkWP {n : Nat} (a b : Nat) (h : a ≤ b ∧ b ≤ n) : WP n := ⟨(a, b), h⟩
/-- The words' places. -/
def wpL (l : List ByteArray) : List (WP (alL l).length) :=
  List.ofFn fun i : Fin l.length => mkWP (enF (enL l l.length) i.1) ((enL l l.length).getD i.1 0) (en_bounds l i.1 i.2)
theorem wpL_len (l : List ByteArray) : (wpL l).length = l.length := by unfold wpL; rw [List.length_ofFn]
theorem wpL_at (l : List ByteArray) (k : Nat) (hk : k < l.length) : (wpL l)[k]? = some (mkWP (enF (enL l l.length) k) ((enL l l.length).getD k 0) (en_bounds l k hk)) := by
  unfold wpL
  rw [List.getElem?_ofFn, dif_pos hk]
theorem wpL_words (l : List ByteArray) : (wpL l).map (wordP (alL l)) = l.map fun s => runesL (cutW s) := by
  apply List.ext_getElem?
  intro k
  by_cases hk : k < l.length
  · rw [List.getElem?_map, wpL_at l k hk, List.getElem?_map, List.getElem?_eq_getElem hk]
    show some (subL (alL l) (enF (enL l l.length) k) ((enL l l.length).getD k 0)) = _
    rw [en_word l k hk, getS_at hk]
    rfl
  · rw [List.getElem?_eq_none (by rw [List.length_map, wpL_len]; omega), List.getElem?_eq_none (by rw [List.length_map]; omega)]
theorem wpL_cut (oa : Option Addr) (l : List ByteArray) : (wpL l).map (encP oa) = cutCs oa (enL l l.length) l.length := by
  apply List.ext_getElem?
  intro k
  unfold cutCs
  by_cases hk : k < l.length
  · rw [List.getElem?_map, wpL_at l k hk, List.getElem?_map, List.getElem?_range hk]
    rfl
  · rw [List.getElem?_eq_none (by rw [List.length_map, wpL_len]; omega), List.getElem?_eq_none (by rw [List.length_map, List.length_range]; omega)]
end Go.Proofs.YtcibjgkifafohaaGreatDoor
namespace Go.Proofs.YtcibjgkifafohaaGreatDoor
open Go.RowKit Go.Lib
set_option linter.unusedVariables false

/-- Strictly ahead, by the alphabet's row. -/
def Ahd (row a b : List Int) : Prop := lexI (numL row a) (numL row b) < 0
theorem Ahd.irr {row a : List Int} : ¬ Ahd row a a := by unfold Ahd; rw [lexI_refl]; omega
theorem Ahd.asym {row a b : List Int} (h : Ahd row a b) : ¬ Ahd row b a := by
  unfold Ahd at *
  have := lexI_swap (numL row a) (numL row b)
  omega
/-- There is one ascending row of the same members. -/
theorem asc_one {α : Type} (R : α → α → Prop) (hirr : ∀ a, ¬ R a a) (hasym : ∀ a b, R a b → ¬ R b a) : ∀ (l m : List α), l.Pairwise R → m.Pairwise R → (∀ x, x ∈ l ↔ x ∈ m) → l = m
  | [], [], _, _, _ => rfl
  | [], b :: m, _, _, h => absurd ((h b).2 List.mem_cons_self) List.not_mem_nil
  | a :: l, [], _, _, h => absurd ((h a).1 List.mem_cons_self) List.not_mem_nil
  | a :: l, b :: m, hl, hm, h => by
    obtain ⟨hl1, hl2⟩ := List.pairwise_cons.1 hl
    obtain ⟨hm1, hm2⟩ := List.pairwise_cons.1 hm
    have hab : a = b := by
      rcases List.mem_cons.1 ((h a).1 List.mem_cons_self) with e | e
      · exact e
      · rcases List.mem_cons.1 ((h b).2 List.mem_cons_self) with e' | e'
        · exact e'.symm
        · exact absurd (hl1 b e') (hasym _ _ (hm1 a e))
    subst hab
    rw [asc_one R hirr hasym l m hl2 hm2 fun x => ?_]
    constructor
    · intro hx
      rcases List.mem_cons.1 ((h x).1 (List.mem_cons_of_mem _ hx)) with e | e
      · subst e; exact absurd (hl1 x hx) (hirr x)
      · exact e
    · intro hx
      rcases List.mem_cons.1 ((h x).2 (List.mem_cons_of_mem _ hx)) with e | e
      · subst e; exact absurd (hm1 x hx) (hirr x)
      · exact e

/-! ### what is kept -/
theorem kpL_mem {E : Nat → Bool} {n i : Nat} : i ∈ kpL E n ↔ i < n ∧ (i = 0 ∨ E i = false) := by
  unfold kpL
  rw [List.mem_filter, List.mem_range, Bool.or_eq_true, decide_eq_true_eq, Bool.not_eq_true']
theorem kpL_up (E : Nat → Bool) (n : Nat) : (kpL E n).Pairwise (· < ·) := List.Pairwise.filter _ List.pairwise_lt_range
/-- The words behind slices.CompactFunc. -/
def kpW (X : Nat → List Int) (n : Nat) : List (List Int) := (kpL (fun i => decide (X i = X (i - 1))) n).map X
theorem kpW_mem {X : Nat → List Int} {n : Nat} : ∀ i, i < n → X i ∈ kpW X n
  | 0, h => List.mem_map.2 ⟨0, kpL_mem.2 ⟨h, Or.inl rfl⟩, rfl⟩
  | i + 1, h => by
    by_cases e : X (i + 1) = X i
    · rw [e]; exact kpW_mem i (by omega)
    · exact List.mem_map.2 ⟨i + 1, kpL_mem.2 ⟨h, Or.inr (by rw [decide_eq_false_iff_not]; exact e)⟩, rfl⟩
theorem mem_kpW {X : Nat → List Int} {n : Nat} {x : List Int} (h : x ∈ kpW X n) : ∃ i, i < n ∧ X i = x := by
  obtain ⟨i, hi, rfl⟩ := List.mem_map.1 h
  exact ⟨i, (kpL_mem.1 hi).1, rfl⟩
theorem kpW_asc {row : List Int} {X : Nat → List Int} {n : Nat} (hX : ∀ i, i < n → ∀ r ∈ X i, r ∈ row) (hs : ∀ i j, i < j → j < n → ¬ Ahd row (X j) (X i)) : (kpW X n).Pairwise (Ahd row) := by
  unfold kpW
  rw [List.pairwise_map]
  refine (kpL_up _ n).imp_of_mem fun {i j} hi hj hij => ?_
  obtain ⟨hin, _⟩ := kpL_mem.1 hi
  obtain ⟨hjn, h0⟩ := kpL_mem.1 hj
  have hne : X j ≠ X (j - 1) := by
    rcases h0 with h0 | h0
    · omega
    · exact of_decide_eq_false h0
  have h1 := hs (j - 1) j (by omega) hjn
  have h2 : lexI (numL row (X j)) (numL row (X (j - 1))) ≠ 0 := fun e => hne (numL_inj _ _ (hX j hjn) (hX (j - 1) (by omega)) (lexI_eq _ _ e))
  have h3 := lexI_swap (numL row (X j)) (numL row (X (j - 1)))
  have h4 : ¬ Ahd row (X (j - 1)) (X i) := by
    by_cases e : i = j - 1
    · rw [e]; exact Ahd.irr
    · exact hs i (j - 1) (by omega) (by omega)
  have h5 := lexI_swap (numL row (X (j - 1))) (numL row (X i))
  unfold Ahd at *
  exact (lexI_trans (numL row (X i)) (numL row (X (j - 1))) (numL row (X j)) (by omega) (by omega)).2 (Or.inr (by omega))
theorem kpW_len (X : Nat → List Int) (n : Nat) : (kpW X n).length ≤ n := by unfold kpW; rw [List.length_map]; exact kpL_le _ _

/-! ### the row of texts -/
/-- What word.Sort makes of texts that may be. -/
structure SrtOf (row : List Int) (l T : List ByteArray) : Prop where
  mem : ∀ s, s ∈ T ↔ s ∈ l
  asc : T.Pairwise fun s t => Ahd row (runesL (cutW s)) (runesL (cutW t))
  len : T.length ≤ l.length
theorem alE_zero {row : List Int} : ∀ {l : List ByteArray}, alE row l = 0 ↔ ∀ s ∈ l, rdW row s = 0
  | [] => by simp [alE]
  | s :: l => by
    have ih := alE_zero (row := row) (l := l)
    unfold alE
    by_cases h : rdW row s = 0
    · rw [if_pos h, ih]; simp [h]
    · rw [if_neg h]; simp [h]
theorem SrtOf.ok {row : List Int} {l T : List ByteArray} (h : SrtOf row l T) (h0 : rdaE row l = 0) : rdaE row T = 0 := by
  unfold rdaE at *
  by_cases h4 : 4096 < l.length
  · rw [if_pos h4] at h0; exact absurd h0 (by decide)
  · rw [if_neg h4] at h0
    rw [if_neg (by have := h.len; omega)]
    exact alE_zero.2 fun s hs => alE_zero.1 h0 s ((h.mem s).1 hs)
theorem SrtOf.again {row : List Int} {l T U : List ByteArray} (h : SrtOf row l T) (h' : SrtOf row T U) : U = T :=
  asc_one (fun s t => Ahd row (runesL (cutW s)) (runesL (cutW t))) (fun _ => Ahd.irr) (fun _ _ => Ahd.asym) U T h'.asc h.asc h'.mem
end Go.Proofs.YtcibjgkifafohaaGreatDoor
namespace Go.Proofs.YtcibjgkifafohaaGreatDoor
open Go.RowKit Go.Lib
set_option linter.unusedVariables false

def srtE (A : Al) (l : List ByteArray) : Int := if A.ok then rdaE (rowL A) l else 7
def SrtNo (A : Al) (l : List ByteArray) (w : World) (e : Ending) (w' : World) : Prop := e = .returned (.tuple #[.slice none 0 0, .int .i64 (srtE A l)]) ∧ Below w.heap.size w w'
def SrtYes (A : Al) (l : List ByteArray) (w : World) (e : Ending) (w' : World) : Prop :=
  ∃ v T, e = .returned (.tuple #[v, .int .i64 0]) ∧ SrtOf (rowL A) l T ∧ w'.ownsRow w.heap.size 9 1 v T.length (T.map Value.string) ∧ Below w.heap.size w w'

set_option maxHeartbeats 2000000 in
set_option maxRecDepth 100000 in
theorem wsort_no (A : Al) (sr : Option Addr) (ur s0 cs : Nat) (l : List ByteArray) (w : World) (hA : A.In w) (hT : Tabs w) (hS : SsIn sr ur s0 l w) (h : ¬ srtE A l = 0) :
    Calls Tryz.prog 10 #[A.v, .slice sr l.length cs] w (SrtNo A l w) := by
  unfold SrtNo
  cases hok : A.ok with
  | false =>
    have hr := fun W h => rowOf_no A W h hok
    have he : srtE A l = 7 := by unfold srtE; rw [hok]; rfl
    rw [he]
    unfold RowNo at hr
    obtain ⟨n, hn⟩ : ∃ n, n = l.length := ⟨_, rfl⟩
    rw [← hn]
    obtain ⟨pf, pl, nf, cf, nl, cl, hv, hnf, hnl, hpl, hcl, hpf, hcf⟩ := A.parts
    rw [hv] at hr ⊢
    have HR := Lib.hid hr; have HA := Lib.hid hA
    clear hr hA hT hS hv hnf hnl hpl hcl hpf hcf he hn h
    go_enter Tryz.func10, Tryz.ntmps10
    go_wp2_with fail
    refine (HR.out _ (HA.out.alloc _)).mono ?_
    rintro e w1 ⟨o, c, rfl, hb1⟩
    have HB := Lib.hid (show Below w.heap.size w w1 from ((Below.refl _ _).alloc (Nat.le_refl _) _).trans (hb1.mono (by simp)))
    clear hb1
    go_wp2_with fail
    go_ret2
    exact ⟨rfl, HB.out.alloc (by have := HB.out.size; omega) _⟩
  | true =>
    have hr := fun W h => rowOf_yes A W h hok
    unfold RowYes at hr
    have kra := fun pr br cr W hT hR hS => readAll_any pr br cr (rowL A) sr ur s0 cs l W hT hR hS
    unfold RdaPost at kra
    have he : srtE A l = rdaE (rowL A) l := by unfold srtE; rw [hok, if_pos rfl]
    rw [he] at h ⊢
    obtain ⟨n, hn⟩ : ∃ n, n = l.length := ⟨_, rfl⟩
    obtain ⟨m, hm⟩ : ∃ m, m = (rowL A).length := ⟨_, rfl⟩
    obtain ⟨E, hE⟩ : ∃ E, E = rdaE (rowL A) l := ⟨_, rfl⟩
    obtain ⟨pf, pl, nf, cf, nl, cl, hv, hnf, hnl, hpl, hcl, hpf, hcf⟩ := A.parts
    rw [hv] at hr ⊢
    rw [← hm] at hr kra
    rw [← hn] at kra ⊢
    rw [← hE] at kra h ⊢
    have e1 : (E == 0) = false := by simp [h]
    have e2 : (E != 0) = true := by simp [h]
    have HR := Lib.hid hr; have HA := Lib.hid hA; have HT := Lib.hid hT; have HS := Lib.hid hS; have KRA := Lib.hid kra; have H0 := Lib.hid h
    clear hr hA hT hS kra hv hnf hnl hpl hcl hpf hcf he hn hm hE h
    go_enter Tryz.func10, Tryz.ntmps10
    go_wp2_with fail
    refine (HR.out _ (HA.out.alloc _)).mono ?_
    rintro e w1 ⟨qr, vr, cq, rfl, hrs, hbr, hb1⟩
    have HRS := Lib.hid hrs
    have hbw : Below w.heap.size w w1 := ((Below.refl _ _).alloc (Nat.le_refl _) _).trans (hb1.mono (by simp))
    have HB := Lib.hid hbw
    have hsz1 := hbw.size
    clear hb1 hbw hrs
    go_wp2_with fail
    refine (KRA.out _ _ _ _ (HT.out.next (HB.out.alloc hsz1 _)) (HRS.out.next ((Below.refl _ _).alloc (Nat.le_refl _) _)) (HS.out.next (HB.out.alloc hsz1 _))).mono ?_
    rintro e w2 ⟨va, ve, rfl, _, h1, hb2⟩
    obtain ⟨rfl, rfl⟩ := h1 H0.out
    have HB2 := Lib.hid ((HB.out.alloc hsz1 (.cells #[.slice qr m cq] 40)).trans (hb2.mono (by simp; omega)))
    clear h1 hb2
    go_wp2_with fail
    go_ret2
    exact ⟨rfl, HB2.out⟩

/-! ### the sort's world as a row of the call's own -/
theorem own_sortW {α : Type} [Inhabited α] (enc : α → Value) {w : World} {B g cap n m : Nat} {e : TypeId} {os : Array Obj} {xs : List Value} (d : Array α) (h : w.ownsRow B e 1 (.slice (some ⟨g, 0, none⟩) n cap) n xs) (hd : d.size = n) :
    (sortWorld enc w g 0 m d os).ownsRow B e 1 (.slice (some ⟨g, 0, none⟩) n cap) n (d.toList.map enc) := by
  rcases h.2 with ⟨he, _⟩ | ⟨g', cap', cur, he, hB, hb, h1, h2, h3, _⟩
  · cases he
  · cases he
    have hg : g < w.heap.size := (Array.getElem?_eq_some_iff.1 hb).1
    refine ⟨by simp [hd], .inr ⟨g, cap, Sort.putCells enc 0 d cur, rfl, hB, ?_, h1, h2, by simp [Sort.putCells, h3], ?_⟩⟩
    · unfold sortWorld
      rw [Sort.heap_grow_old _ _ (by simp [Sort.putRow, Sort.mapBlock, Sort.ahead]; omega)]
      simp [Sort.putRow, Sort.mapBlock, Sort.ahead, Array.getElem?_modify, hb, Sort.onCells]
    · rw [Nat.mul_one]
      apply List.ext_getElem?
      intro j
      by_cases hj : j < n
      · rw [List.getElem?_take_of_lt hj, Array.getElem?_toList, List.getElem?_map, Array.getElem?_toList, Array.getElem?_eq_getElem (xs := d) (show j < d.size by omega)]
        simp [Sort.putCells, show j < cur.size by omega, show j < d.size by omega]
      · rw [List.getElem?_take_eq_none (by omega), List.getElem?_eq_none (by simp; omega)]
/-- What the sort leaves of the words. -/
def SfPost (row : List Int) (l : List ByteArray) (B g cap : Nat) (W : World) (e : Ending) (W' : World) : Prop :=
  e = .returned (.tuple #[]) ∧ ∃ (D : List Value) (X : Nat → List Int), W'.ownsRow B 40 1 (.slice (some ⟨g, 0, none⟩) l.length cap) l.length D ∧ W.grownBy W' (some g) ∧
    (∀ j, j < l.length → ∃ p b o c, D[j]? = some (.slice p (X j).length c) ∧ RsIn p b o (X j) W ∧ (0 < (X j).length → b ≠ g)) ∧
    (∀ i j, i < j → j < l.length → ¬ Ahd row (X j) (X i)) ∧ (∀ x, (∃ i, i < l.length ∧ X i = x) ↔ x ∈ l.map fun s => runesL (cutW s)) ∧ (∀ i, i < l.length → ∀ r ∈ X i, r ∈ row)
theorem sorted_any {B : Nat} {oa : Option Addr} {ca : Nat} {row : List Int} {l : List ByteArray} (rb : Nat) (pr : Option Addr) (br r0 cr g cap : Nat) (w : World) (hl : l.length ≤ 4096) (hrd : alE row l = 0)
    (ho : w.ownsRow B 21 1 (.slice oa (alL l).length ca) (alL l).length ((alL l).map E32))
    (hc : w.cell? ⟨rb, 0, none⟩ = some (.slice pr row.length cr)) (hW : RsIn pr br r0 row w) (hn1 : rb ≠ g) (hn2 : br ≠ g) (hn3 : (Value.slice oa (alL l).length ca).ownBlock ≠ some g)
    (hw : w.ownsRow B 40 1 (.slice (some ⟨g, 0, none⟩) l.length cap) l.length (cutCs oa (enL l l.length) l.length)) :
    Calls Tryz.prog 26 #[.slice (some ⟨g, 0, none⟩) l.length cap, .func (.func 27) #[] #[.pointer (some ⟨rb, 0, none⟩)]] w (SfPost row l B g cap w) := by
  have hal := alL_le l
  have hLr : ∀ r ∈ alL l, r ∈ row := fun r hr => by
    obtain ⟨s, hs, hr⟩ := List.mem_flatMap.1 hr
    exact (rd_word (alE_zero.1 hrd s hs)).1.mem r hr
  have hsz : (wpL l).toArray.size = l.length := by rw [List.size_toArray, wpL_len]
  have hH : Sort.Holds (encP oa) w g 0 (wpL l).toArray := fun j hj => by
    rw [hsz] at hj
    refine ⟨?_, hw.frozenAt _⟩
    rw [Nat.zero_add, hw.cellAt j (by omega), ← wpL_cut, List.getElem?_map, getElem!_pos _ j (by rw [hsz]; exact hj), List.getElem?_eq_getElem (by rw [wpL_len]; exact hj)]
    rfl
  have hblk : g < w.heap.size := (hw.lt g rfl).2
  have h1 := sortf_any (B := B) (oa := oa) (ca := ca) (row := row) (L := alL l) rb pr br r0 cr g cap (wpL l).toArray w ho (by omega) hLr hc hW hn1 hn2 hn3 hH hblk (by rw [hsz]; omega)
  rw [hsz] at h1
  refine h1.mono ?_
  rintro e W' ⟨rfl, d', n, os, hp, hs, rfl⟩
  obtain ⟨hps, hpo, hpp⟩ := hp
  rw [hsz] at hps
  have he1 : d'.extract 0 l.length = d' := by rw [← hps]; exact Array.extract_size
  have he2 : (wpL l).toArray.extract 0 l.length = (wpL l).toArray := by rw [← hsz]; exact Array.extract_size
  rw [he1, he2] at hpp
  have hat : ∀ j, (hj : j < l.length) → d'[j]! = d'.toList[j]'(by rw [Array.length_toList, hps]; exact hj) := fun j hj => by
    rw [getElem!_pos d' j (by rw [hps]; exact hj), Array.getElem_toList]
  refine ⟨rfl, d'.toList.map (encP oa), fun j => wordP (alL l) d'[j]!, own_sortW (encP oa) d' hw hps, sortW_grown (encP oa) w g 0 n d' os, fun j hj => ?_, fun i j hij hj => ?_, fun x => ?_, fun i hi r hr => wordP_mem hLr _ r hr⟩
  · obtain ⟨p, b, o, c, h1, h2, h3⟩ := partV_rs ho (by omega) d'[j]!.1.1 d'[j]!.1.2 d'[j]!.2.1 d'[j]!.2.2
    refine ⟨p, b, o, c, ?_, h2, fun h e => hn3 (by rw [h3 h, e])⟩
    rw [List.getElem?_map, List.getElem?_eq_getElem (by rw [Array.length_toList, hps]; exact hj), ← hat j hj]
    exact congrArg some h1
  · have h2 := hs i j (Nat.zero_le _) hij hj
    unfold ltOf at h2
    rw [cfP_lex hLr, decide_eq_false_iff_not] at h2
    exact h2
  · constructor
    · rintro ⟨i, hi, rfl⟩
      rw [← wpL_words]
      refine List.mem_map.2 ⟨d'[i]!, ?_, rfl⟩
      rw [hat i hi]
      exact hpp.mem_iff.1 (List.getElem_mem _)
    · intro hx
      rw [← wpL_words] at hx
      obtain ⟨p, hp, rfl⟩ := List.mem_map.1 hx
      obtain ⟨i, hi, rfl⟩ := List.getElem_of_mem (hpp.mem_iff.2 hp)
      have hi' : i < l.length := by rw [Array.length_toList, hps] at hi; exact hi
      exact ⟨i, hi', by show wordP (alL l) d'[i]! = _; rw [hat i hi']⟩
theorem own_ss {w : World} {B : Nat} {v : Value} {l : List ByteArray} (h : w.ownsRow B 9 1 v l.length (l.map Value.string)) (hb : l.length ≤ 140737488355328) : ∃ pr br cr, v = .slice pr l.length cr ∧ SsIn pr br 0 l w := by
  rcases h.2 with ⟨rfl, hn⟩ | ⟨g, cap, cur, rfl, _⟩
  · exact ⟨none, 0, 0, by rw [hn], ⟨fun h => absurd h (by omega), fun j hj => absurd hj (by omega), hb⟩⟩
  · refine ⟨_, g, cap, rfl, ⟨fun _ => rfl, fun j hj => ?_, hb⟩⟩
    rw [Nat.zero_add, h.cellAt j (by omega), List.getElem?_map, getS_at hj, List.getElem?_eq_getElem hj]
    rfl
/-- The words that are kept, as texts. -/
def kpT (X : Nat → List Int) (n : Nat) : List ByteArray := (kpW X n).map fun x => strOf (textL x)
theorem kpT_srt {row : List Int} {l : List ByteArray} {X : Nat → List Int} (hrd : alE row l = 0) (hs : ∀ i j, i < j → j < l.length → ¬ Ahd row (X j) (X i)) (hm : ∀ x, (∃ i, i < l.length ∧ X i = x) ↔ x ∈ l.map fun s => runesL (cutW s))
    (hX : ∀ i, i < l.length → ∀ r ∈ X i, r ∈ row) : SrtOf row l (kpT X l.length) := by
  have hin : ∀ x ∈ kpW X l.length, ∃ s ∈ l, runesL (cutW s) = x ∧ strOf (textL x) = s := fun x hx => by
    obtain ⟨i, hi, rfl⟩ := mem_kpW hx
    obtain ⟨s, hs1, hs2⟩ := List.mem_map.1 ((hm (X i)).1 ⟨i, hi, rfl⟩)
    exact ⟨s, hs1, hs2, by rw [← hs2]; exact (rd_word (alE_zero.1 hrd s hs1)).2⟩
  refine ⟨fun s => ⟨fun h => ?_, fun h => ?_⟩, ?_, by unfold kpT; rw [List.length_map]; exact kpW_len _ _⟩
  · obtain ⟨x, hx, rfl⟩ := List.mem_map.1 h
    obtain ⟨s, h1, h2, h3⟩ := hin x hx
    rw [h3]; exact h1
  · obtain ⟨i, hi, he⟩ := (hm (runesL (cutW s))).2 (List.mem_map.2 ⟨s, h, rfl⟩)
    refine List.mem_map.2 ⟨X i, kpW_mem i hi, ?_⟩
    rw [he]
    exact (rd_word (alE_zero.1 hrd s h)).2
  · unfold kpT
    rw [List.pairwise_map]
    refine (kpW_asc hX hs).imp_of_mem fun {x y} hx hy hxy => ?_
    obtain ⟨s, _, h2, h3⟩ := hin x hx
    obtain ⟨t, _, h4, h5⟩ := hin y hy
    rw [h3, h5, h2, h4]
    exact hxy
theorem str_info : (Tryz.prog.info? 9).map (fun i => (i.zero, i.size, i.bytes)) = some (some (.string ByteArray.empty), 1, 16) := by kernel_rfl

/-- The row of texts while it is filled. -/
def fillT (T : List ByteArray) (j : Nat) : List Value := (T.take j).map Value.string ++ List.replicate (T.length - j) (.string ByteArray.empty)
theorem fillT_zero (T : List ByteArray) : fillT T 0 = List.replicate T.length (.string ByteArray.empty) := by simp [fillT]
theorem fillT_all (T : List ByteArray) : fillT T T.length = T.map Value.string := by simp [fillT]
theorem fillT_set (T : List ByteArray) (j : Nat) (hj : j < T.length) : (fillT T j).set j (.string (T.getD j ByteArray.empty)) = fillT T (j + 1) := by
  unfold fillT
  rw [List.take_succ_eq_append_getElem hj, getS_at hj, List.map_append, show T.length - j = (T.length - (j + 1)) + 1 by omega, List.replicate_succ]
  have e : ((T.take j).map Value.string).length = j := by rw [List.length_map, List.length_take]; omega
  rw [List.set_append_right _ _ (by omega), e, Nat.sub_self]
  simp
/-- The kept words in memory. -/
def KpW (g : Nat) (T : List ByteArray) (w : World) : Prop := ∀ j, j < T.length → ∃ p b o c x, w.cell? ⟨g, j, none⟩ = some (.slice p (List.length x) c) ∧ RsIn p b o x w ∧ T.getD j ByteArray.empty = strOf (textL x)
theorem KpW.next {g : Nat} {T : List ByteArray} {w w' : World} (h : KpW g T w) (hb : Below w.heap.size w w') : KpW g T w' := fun j hj => by
  obtain ⟨p, b, o, c, x, h1, h2, h3⟩ := h j hj
  exact ⟨p, b, o, c, x, (hb.cell (p := ⟨g, j, none⟩) (lt_of_cell h1)).trans h1, h2.next hb, h3⟩
/-- The same, below a mark. -/
def KpZ (g z : Nat) (T : List ByteArray) (w : World) : Prop := ∀ j, j < T.length → ∃ p b o c x, w.cell? ⟨g, j, none⟩ = some (.slice p (List.length x) c) ∧ g < z ∧ RsIn p b o x w ∧ (0 < List.length x → b < z) ∧ T.getD j ByteArray.empty = strOf (textL x)
theorem KpW.z {g : Nat} {T : List ByteArray} {w : World} (h : KpW g T w) : KpZ g w.heap.size T w := fun j hj => by
  obtain ⟨p, b, o, c, x, h1, h2, h3⟩ := h j hj
  exact ⟨p, b, o, c, x, h1, lt_of_cell h1, h2, fun h => lt_of_cell (h2.cells 0 h), h3⟩
theorem KpZ.next {g z : Nat} {T : List ByteArray} {w w' : World} (h : KpZ g z T w) (hb : Below z w w') : KpZ g z T w' := fun j hj => by
  obtain ⟨p, b, o, c, x, h1, h2, h3, h4, h5⟩ := h j hj
  exact ⟨p, b, o, c, x, (hb.cell (p := ⟨g, j, none⟩) h2).trans h1, h2, ⟨h3.at_, fun i hi => (hb.cell (p := ⟨b, o + i, none⟩) (h4 (by omega))).trans (h3.cells i hi), h3.big⟩, h4, h5⟩

set_option maxHeartbeats 8000000 in
set_option maxRecDepth 100000 in
theorem wsort_yes (A : Al) (sr : Option Addr) (ur s0 cs : Nat) (l : List ByteArray) (w : World) (hA : A.In w) (hT : Tabs w) (hS : SsIn sr ur s0 l w) (h : srtE A l = 0) :
    Calls Tryz.prog 10 #[A.v, .slice sr l.length cs] w (SrtYes A l w) := by
  unfold SrtYes
  have hok : A.ok = true := by
    cases hok : A.ok with
    | true => rfl
    | false => unfold srtE at h; rw [hok] at h; simp at h
  have h0 : rdaE (rowL A) l = 0 := by unfold srtE at h; rw [hok, if_pos rfl] at h; exact h
  have hle := rdaE_len h0
  have hrd : alE (rowL A) l = 0 := by unfold rdaE at h0; rw [if_neg (by omega)] at h0; exact h0
  have hal := alL_le l
  have hr := fun W h => rowOf_yes A W h hok
  unfold RowYes at hr
  have kra := fun pr br cr W hT hR hS => readAll_any pr br cr (rowL A) sr ur s0 cs l W hT hR hS
  unfold RdaPost at kra
  rw [h0] at kra
  have kcut := fun (B : Nat) (oa : Option Addr) (ca : Nat) (np : Option Addr) (nb nc : Nat) (W : World) ho hN => cut_any (B := B) (oa := oa) (na := (alL l).length) (ca := ca) (L := alL l) (np := np) (nb := nb) (nc := nc) (EN := enL l l.length) W ho hN
    (fun k hk => en_bounds l k (by rw [enL_len] at hk; exact hk)) (by rw [enL_len]; exact hle) (by omega)
  rw [enL_len] at kcut
  have ksf := fun (B : Nat) (oa : Option Addr) (ca rb : Nat) (pr : Option Addr) (br cr g cap : Nat) (W : World) => sorted_any (B := B) (oa := oa) (ca := ca) (row := rowL A) (l := l) rb pr br 0 cr g cap W hle hrd
  have hns := fun (W : World) (B : Nat) (v : Value) (h : W.ownsRow B 3 1 v l.length ((enL l l.length).map E64)) => own_ns (l := enL l l.length) (by rw [enL_len]; exact h) (by rw [enL_len]; omega)
  rw [enL_len] at hns
  obtain ⟨n, hn⟩ : ∃ n, n = l.length := ⟨_, rfl⟩
  obtain ⟨m, hm⟩ : ∃ m, m = (rowL A).length := ⟨_, rfl⟩
  obtain ⟨k, hk⟩ : ∃ k, k = (alL l).length := ⟨_, rfl⟩
  obtain ⟨pf, pl, nf, cf, nl, cl, hv, hnf, hnl, hpl, hcl, hpf, hcf⟩ := A.parts
  rw [hv] at hr ⊢
  rw [← hm] at hr kra ksf
  rw [← hn] at kra kcut ksf hns hle hal ⊢
  rw [← hk] at kra kcut ksf hal
  have HR := Lib.hid hr; have HA := Lib.hid hA; have HT := Lib.hid hT; have HS := Lib.hid hS; have KRA := Lib.hid kra; have KCUT := Lib.hid kcut; have KSF := Lib.hid ksf; have HNS := Lib.hid hns
  have HN := Lib.hid hn; have HRD := Lib.hid hrd
  clear hr hA hT hS kra kcut ksf hns hv hnf hnl hpl hcl hpf hcf hn hm hk h0 h hrd
  go_enter Tryz.func10, Tryz.ntmps10
  go_wp2_with fail
  refine (HR.out _ (HA.out.alloc _)).mono ?_
  rintro e w1 ⟨qr, vr, cq, rfl, hrs, hbr, hb1⟩
  have HRS := Lib.hid hrs
  have hbw : Below w.heap.size w w1 := ((Below.refl _ _).alloc (Nat.le_refl _) _).trans (hb1.mono (by simp))
  have HB := Lib.hid hbw
  have hsz1 := hbw.size
  clear hb1 hbw hrs
  go_wp2_with fail
  refine (KRA.out _ _ _ _ (HT.out.next (HB.out.alloc hsz1 _)) (HRS.out.next ((Below.refl _ _).alloc (Nat.le_refl _) _)) (HS.out.next (HB.out.alloc hsz1 _))).mono ?_
  rintro e w2 ⟨va, ve, rfl, h1, _, hb2⟩
  obtain ⟨ha, hve⟩ := h1 trivial
  obtain ⟨oa, ca, rfl⟩ := own_shape ha
  obtain ⟨np, nb, nc, rfl, hnn⟩ := HNS.out _ _ _ hve
  have hc1 : w2.cell? ⟨w1.heap.size, 0, none⟩ = some (.slice qr m cq) := by
    rw [hb2.cell (p := ⟨w1.heap.size, 0, none⟩) (by simp)]
    simp
  have hR2 : RsIn qr vr 0 (rowL A) w2 := (HRS.out.next ((Below.refl _ _).alloc (Nat.le_refl _) _)).next hb2
  have hsz2 : w1.heap.size < w2.heap.size := by have := hb2.size; simp at this; omega
  have HB2 := Lib.hid ((HB.out.alloc hsz1 (.cells #[.slice qr m cq] 40)).trans (hb2.mono (by simp; omega)))
  have HA2 := Lib.hid ha; have HN2 := Lib.hid hnn; have HR2 := Lib.hid hR2; have HC2 := Lib.hid hc1
  clear h1 hb2 ha hve hnn hR2 hc1
  go_wp2_with fail
  refine (KCUT.out _ _ _ _ _ _ _ HA2.out HN2.out).mono ?_
  rintro e w3 ⟨vw, rfl, hw3, hb3, hnil⟩
  rcases hw3.2 with ⟨he, _⟩ | ⟨g, cap, cur, rfl, hg1, hg2, hg3, hg4, hg5, hg6⟩
  · exact absurd he hnil
  have HW3 := Lib.hid hw3
  have HA3 := Lib.hid (own_below HA2.out hb3)
  have HR3 := Lib.hid (HR2.out.next hb3)
  have HC3 := Lib.hid (show w3.cell? ⟨w1.heap.size, 0, none⟩ = some (.slice qr m cq) from (hb3.cell (p := ⟨w1.heap.size, 0, none⟩) (by omega)).trans HC2.out)
  have HB3 := Lib.hid (HB2.out.trans (hb3.mono HB2.out.size))
  have hsz3 : w.heap.size ≤ w2.heap.size := HB2.out.size
  have hn3 : (Value.slice oa k ca).ownBlock ≠ some g := fun e => by have := (HA2.out.lt g e).2; omega
  clear hg2 hg5 hg6 hb3 hw3 hnil
  go_wp2_with fail
  refine (KSF.out w.heap.size oa ca w1.heap.size qr vr cq g cap w3 (own_base HA3.out (by simp; omega)) HC3.out HR3.out (by omega) (by omega) hn3 (own_base HW3.out hsz3)).mono ?_
  rintro e w4 ⟨rfl, D, X, ho4, hg4', hat, hs, hm, hX⟩
  rw [← HN.out] at ho4 hat hs hm hX
  have kcf := compf_any w.heap.size g cap n D (fun i => decide (X i = X (i - 1))) w4 (fun j hj => by obtain ⟨p, b, o, c, h1, _⟩ := hat j hj; exact ⟨p, _, c, h1⟩) ho4 (by have := ho4.1; omega) hle
    (fun i x y hi hx hy W hW => by
      obtain ⟨p, b, o, c, h1, h2, h3⟩ := hat (i + 1) hi
      obtain ⟨p', b', o', c', h1', h2', h3'⟩ := hat i (by omega)
      rw [h1] at hx
      rw [h1'] at hy
      obtain rfl := Option.some.inj hx
      obtain rfl := Option.some.inj hy
      have hgr : w3.grownBy W (some g) := grown_step hg4' hW (fun q hq => Or.inl hq)
      exact eqr_any p p' b o c b' o' c' (X (i + 1)) (X i) W (h2.other hgr h3) (h2'.other hgr h3'))
  have hkt : SrtOf (rowL A) l (kpT X n) := by
    rw [HN.out] at hs hm hX ⊢
    exact kpT_srt HRD.out hs hm hX
  have hkl : (kpL (fun i => decide (X i = X (i - 1))) n).length = (kpT X n).length := by unfold kpT kpW; rw [List.length_map, List.length_map]
  have hkw : ∀ w5, (∀ j, j < (kpL (fun i => decide (X i = X (i - 1))) n).length → w5.cell? ⟨g, j, none⟩ = D[(kpL (fun i => decide (X i = X (i - 1))) n).getD j 0]?) → w4.grownBy w5 (some g) → KpW g (kpT X n) w5 := fun w5 h1 h2 j hj => by
    rw [← hkl] at hj
    have hin : (kpL (fun i => decide (X i = X (i - 1))) n).getD j 0 ∈ kpL (fun i => decide (X i = X (i - 1))) n := by rw [List.getD_eq_getElem?_getD, List.getElem?_eq_getElem hj]; exact List.getElem_mem hj
    obtain ⟨p, b, o, c, h3, h4, h5⟩ := hat _ (kpL_mem.1 hin).1
    refine ⟨p, b, o, c, X ((kpL (fun i => decide (X i = X (i - 1))) n).getD j 0), ?_, h4.other (grown_step hg4' h2 fun q hq => Or.inl hq) h5, ?_⟩
    · rw [h1 j hj]; exact h3
    · unfold kpT kpW
      rw [List.getD_eq_getElem?_getD, List.getElem?_map, List.getElem?_map, List.getD_eq_getElem?_getD, List.getElem?_eq_getElem hj]
      rfl
  obtain ⟨T, hT'⟩ : ∃ T, T = kpT X n := ⟨_, rfl⟩
  rw [← hT'] at hkt hkl hkw
  obtain ⟨K, hK⟩ : ∃ K, K = T.length := ⟨_, rfl⟩
  have hK4 : K ≤ n := by have := hkt.len; rw [← HN.out] at this; omega
  rw [← hK] at hkl
  obtain ⟨KL, hKL⟩ : ∃ KL, KL = kpL (fun i => decide (X i = X (i - 1))) n := ⟨_, rfl⟩
  rw [← hKL] at kcf hkl hkw
  rw [hkl] at kcf hkw
  have HKCF := Lib.hid kcf; have HKT := Lib.hid hkt; have HKW := Lib.hid hkw; have HKK := Lib.hid hK
  have hB4 : Below w.heap.size w w4 := HB3.out.grown hg4' HB3.out.size (fun q hq => by cases hq; omega)
  have HB4 := Lib.hid hB4
  have HTX := Lib.hid (fun pr br r0 cr x W h => text_row pr br r0 cr x W h)
  obtain ⟨i0, hi, hz0, hz1, hz2⟩ := info_parts str_info
  have HI0 := Lib.hid hi; have HZ0 := Lib.hid hz0; have HZ1 := Lib.hid hz1; have HZ2 := Lib.hid hz2
  clear hi hz0 hz1 hz2 kcf hkt hkl hkw hKL hT' hK hB4 ho4 hg4' hat hs hm hX hn3 hal
  go_wp2_with fail
  refine HKCF.out.mono ?_
  rintro e w5 ⟨rfl, h51, h52⟩
  have HW5 := Lib.hid (HKW.out w5 h51 h52)
  have HB5 := Lib.hid (HB4.out.grown h52 (by have := HB4.out.size; omega) (fun q hq => by cases hq; omega))
  have hsz5 := HB5.out.size
  clear h51 h52
  go_wp2_with (at_make; go_loud (refine wpList_make_full _ rfl _ _ 22 rfl w.heap.size 9 i0 _ 1 Tryz.underlying22 HI0.out HZ0.out HZ1.out .i64 .i64 K K K rfl rfl rfl rfl ?m1 ?m2 ?m3 ?_))
  case m1 => rw [HZ2.out]; omega
  case m2 => unfold maxLen; omega
  case m3 => exact hsz5
  intro w6 hown6 hgrow6
  have hB6 : Below w5.heap.size w5 w6 := grown_none hgrow6
  have HW6 := Lib.hid (HW5.out.z.next hB6)
  have HB6 := Lib.hid (HB5.out.trans (hB6.mono hsz5))
  have ho6 : w6.ownsRow w5.heap.size 9 1 (.slice (some ⟨w5.heap.size, 0, none⟩) K K) K (fillT T 0) := by
    rw [fillT_zero, ← HKK.out, ← toList_madeCells_one]
    exact ⟨hown6.1, hown6.2.imp id fun ⟨g', cap', cur', a, b, c⟩ => ⟨g', cap', cur', a, by cases a; exact Nat.le_refl _, c⟩⟩
  have HO6 := Lib.hid ho6
  clear hB6 hown6 hgrow6 ho6
  obtain ⟨z, hz⟩ : ∃ z, z = w5.heap.size := ⟨_, rfl⟩
  rw [← hz] at HO6 HW6 hsz5 ⊢
  clear hz
  go_wp2_with fail
  go_loopw [45] (fun iv wr => ∃ j : Nat, iv = .int .i64 j ∧ j ≤ K ∧ Hid (wr.ownsRow z 9 1 (.slice (some ⟨z, 0, none⟩) K K) K (fillT T j)) ∧ Hid (KpZ g z T wr) ∧ Hid (Below w.heap.size w wr)) (fun iv _ => K - (intOf iv).toNat)
  case atStart => exact ⟨0, rfl, Nat.zero_le _, HO6, HW6, HB6⟩
  case round =>
    obtain ⟨j, rfl, hj, HO, HKw, HBr⟩ := hrel
    by_cases hjK : j < K
    · have hjT : j < T.length := by have := HKK.out; omega
      obtain ⟨p, b, o, c, x, x1, x0, x2, x4, x3⟩ := HKw.out j hjT
      have hset := fillT_set T j hjT
      rw [x3] at hset
      have htx := HTX.out p b o c x wr x2
      obtain ⟨q, hq⟩ : ∃ q, q = strOf (textL x) := ⟨_, rfl⟩
      rw [← hq] at hset htx
      obtain ⟨nx, hnx⟩ : ∃ nx, nx = x.length := ⟨_, rfl⟩
      rw [← hnx] at x1 htx
      have HTx := Lib.hid htx
      have hlen := HO.out.1
      have hy := HO.out.cellAt j (by omega)
      rw [List.getElem?_eq_getElem (by rw [hlen]; omega)] at hy
      obtain ⟨y, hy2⟩ : ∃ y, wr.cell? ⟨z, j, none⟩ = some y := ⟨_, hy⟩
      clear hy hlen
      have hfz := HO.out.frozenAt j
      obtain ⟨hs1, hs2⟩ := HO.out.stored j (.string q)
      rw [hset] at hs1
      have HO2 := Lib.hid hs1
      have hbw : Below z wr (wr.setCell ⟨z, j, none⟩ (.string q)) := grown_below hs2 (by have := HO.out.lt z rfl; omega) (fun q hq => by cases hq; exact Nat.le_refl _)
      have HB2 := Lib.hid (HBr.out.trans (hbw.mono hsz5))
      have hkw2 := HKw.out.next hbw
      have HW2 := Lib.hid hkw2
      clear hs1 hs2 hset htx x0 x2 x3 x4 hq hnx hbw hkw2 HO
      go_wp2_with fail
      refine HTx.out.mono ?_
      rintro _ w7 ⟨rfl, rfl⟩
      go_wp2_with fail
      go_roundw
      case rel => exact ⟨j + 1, by go_num, by omega, HO2, HW2, HB2⟩
      case measure => simp [intOf]; omega
    · have hjk : j = K := by omega
      have hfin : wr.ownsRow w.heap.size 9 1 (.slice (some ⟨z, 0, none⟩) T.length K) T.length (T.map Value.string) := by
        have h1 := HO.out
        rw [hjk] at h1
        rw [← fillT_all, ← HKK.out]
        exact own_base h1 hsz5
      have HFin := Lib.hid hfin
      clear hfin
      go_wp2_with fail
      go_ret2
      exact ⟨.slice (some ⟨z, 0, none⟩) K K, T, rfl, HKT.out, by have := HFin.out; rw [← HKK.out] at this ⊢; exact this, HBr.out⟩
end Go.Proofs.YtcibjgkifafohaaGreatDoor
namespace Go.Proofs.YtcibjgkifafohaaGreatDoor
open Go.RowKit Go.Lib
set_option linter.unusedVariables false

theorem bothE_of {A : Al} {x y : ByteArray} (hok : A.ok = true) (hx : rdW (rowL A) x = 0) (hy : rdW (rowL A) y = 0) : bothE A x y = 0 := by
  unfold bothE
  rw [hok, if_pos rfl, if_pos hx]
  exact hy
theorem bothE_comm {A : Al} {x y : ByteArray} (h : bothE A x y = 0) : bothE A y x = 0 := by
  obtain ⟨h1, h2, h3⟩ := bothE_yes h
  exact bothE_of h1 h3 h2
theorem cmpR_lex {A : Al} {x y : ByteArray} (h : bothE A x y = 0) : cmpR A x y = lexI (numL (rowL A) (runesL (cutW x))) (numL (rowL A) (runesL (cutW y))) := by
  obtain ⟨h1, h2, h3⟩ := bothE_yes h
  unfold cmpR
  rw [if_pos h, cmpI_lex _ _ (rd_word h2).1.mem (rd_word h3).1.mem]
theorem cmpR_no {A : Al} {x y : ByteArray} (h : ¬ bothE A x y = 0) : cmpR A x y = 0 := by unfold cmpR; rw [if_neg h]
theorem cmpR_range (A : Al) (x y : ByteArray) : cmpR A x y = -1 ∨ cmpR A x y = 0 ∨ cmpR A x y = 1 := by
  by_cases h : bothE A x y = 0
  · rw [cmpR_lex h]; exact lexI_range _ _
  · rw [cmpR_no h]; exact Or.inr (Or.inl rfl)
theorem cmpR_zero {A : Al} {x y : ByteArray} (h : bothE A x y = 0) : cmpR A x y = 0 ↔ x = y := by
  obtain ⟨h1, h2, h3⟩ := bothE_yes h
  rw [cmpR_lex h]
  constructor
  · intro e
    have e2 := numL_inj _ _ (rd_word h2).1.mem (rd_word h3).1.mem (lexI_eq _ _ e)
    rw [← (rd_word h2).2, e2, (rd_word h3).2]
  · rintro rfl
    exact lexI_refl _
/-- All that the four comparisons can answer. -/
structure CmpCase (x y : ByteArray) (p e q f r g s h : Int) : Prop where
  ef : e = 0 ↔ f = 0
  opp : p + q = 0
  no : ¬ e = 0 → p = 0
  rng : p = -1 ∨ p = 0 ∨ p = 1
  same : e = 0 → (p = 0 ↔ x = y)
  r1 : r = -1 ∨ r = 0 ∨ r = 1
  gh : e = 0 → g = 0 → h = 0
  tr : e = 0 → g = 0 → p ≤ 0 → r ≤ 0 → s ≤ 0 ∧ (p < 0 ∨ r < 0 → s = -1)
theorem cmp_case (A : Al) (x y z : ByteArray) : CmpCase x y (cmpR A x y) (bothE A x y) (cmpR A y x) (bothE A y x) (cmpR A y z) (bothE A y z) (cmpR A x z) (bothE A x z) := by
  refine ⟨⟨bothE_comm, bothE_comm⟩, ?_, fun h => cmpR_no h, cmpR_range _ _ _, cmpR_zero, cmpR_range _ _ _, fun h1 h2 => ?_, fun h1 h2 hp hr => ?_⟩
  · by_cases h : bothE A x y = 0
    · rw [cmpR_lex h, cmpR_lex (bothE_comm h)]; exact lexI_swap _ _
    · rw [cmpR_no h, cmpR_no (fun e => h (bothE_comm e))]; rfl
  · obtain ⟨a, b, c⟩ := bothE_yes h1
    obtain ⟨_, d, e⟩ := bothE_yes h2
    exact bothE_of a b e
  · obtain ⟨a, b, c⟩ := bothE_yes h1
    obtain ⟨_, d, e⟩ := bothE_yes h2
    have h3 := bothE_of a b e
    have hr := cmpR_range A x z
    rw [cmpR_lex h1, cmpR_lex h2, cmpR_lex h3] at *
    have := lexI_trans _ _ _ hp ‹_›
    refine ⟨this.1, fun h => ?_⟩
    have := this.2 h
    omega
theorem srt_cmp {A : Al} {l T : List ByteArray} (h0 : srtE A l = 0) (h : SrtOf (rowL A) l T) (j : Nat) (hj : j + 1 < T.length) :
    bothE A (T.getD j ByteArray.empty) (T.getD (j + 1) ByteArray.empty) = 0 ∧ cmpR A (T.getD j ByteArray.empty) (T.getD (j + 1) ByteArray.empty) = -1 := by
  have hok : A.ok = true := by
    cases hok : A.ok with
    | true => rfl
    | false => unfold srtE at h0; rw [hok] at h0; simp at h0
  have h1 : rdaE (rowL A) l = 0 := by unfold srtE at h0; rw [hok, if_pos rfl] at h0; exact h0
  have h2 := h.ok h1
  have h3 : alE (rowL A) T = 0 := by unfold rdaE at h2; rw [if_neg (by have := rdaE_len h2; omega)] at h2; exact h2
  have h4 := alE_zero.1 h3
  rw [getS_at hj, getS_at (show j < T.length by omega)]
  have hb := bothE_of hok (h4 _ (List.getElem_mem (show j < T.length by omega))) (h4 _ (List.getElem_mem hj))
  refine ⟨hb, ?_⟩
  rw [cmpR_lex hb]
  have h5 := List.pairwise_iff_getElem.1 h.asc j (j + 1) (by omega) hj (by omega)
  unfold Ahd at h5
  have := lexI_range (numL (rowL A) (runesL (cutW T[j]))) (numL (rowL A) (runesL (cutW T[j + 1])))
  omega
theorem srt_again {A : Al} {l T : List ByteArray} (h0 : srtE A l = 0) (h : SrtOf (rowL A) l T) : srtE A T = 0 := by
  unfold srtE at *
  split at h0
  · rename_i hok; rw [if_pos hok]; exact h.ok h0
  · exact absurd h0 (by decide)
end Go.Proofs.YtcibjgkifafohaaGreatDoor
