/-
  PLAIN: a pattern's text, read piece by piece, as the program does it: a tree, or the number of the piece where it goes wrong.
  SMALL LAWS for walks over patterns, of no other layer.
  WALKS: pattern.isNode; nodes that lie in the world.
  NODES THAT LIE IN THE WORLD.
-/
import Derived.Test.YtmechinlaladiaaDoorProg
import Derived.OwnWalk
import Derived.Laws.MakeOwn
import Derived.Laws.AppendOwn
import Derived.Laws.AppendOwnNone
import Derived.Maps.AppendAt
import Derived.Laws.BitsAllLaws
import Derived.WalkSmall
import Derived.RegionTactic
import Derived.LoopTactic
import Derived.Deep.LoopGhost
import Derived.Deep.RegionWith
import Derived.Deep.RegionHeld3
import Derived.Deep.AppendLies
import Derived.Deep.Cut
import Derived.Deep.CutRange
import Derived.Deep.CutBlock
import Derived.Lib.Hide
import Derived.Lib.OthersKept
import Derived.Test.YtmechinlaladiaaDoorZAJ
import Derived.Test.YtmechinlaladiaaDoorZAH
import Derived.Test.YtmechinlaladiaaDoorZAI
namespace Go.Proofs.YtmechinlaladiaaDoor
open Go.RowKit Go.Lib
set_option linter.unusedVariables false

/-- The rune of piece k; -1: there is none. -/
def nxR (s : ByteArray) (k : Nat) : Int := match (starts s)[k]? with
  | none => -1
  | some p => (dR s p : Int)
/-- Where piece k begins. -/
def plR (s : ByteArray) (k : Nat) : Nat := (starts s).getD k s.size
/-- The first ] from piece k on; behind the last piece: none. -/
def toR (s : ByteArray) (k : Nat) : Nat := k + ((starts s).drop k).findIdx fun p => dR s p == 93
inductive Md where
  | node : Md
  | seq : List Tr → Md
  | or : List Tr → Md
abbrev Rs := Except Nat (Tr × Nat)
/-- A [..]. -/
def clsRd (A : Al) (s : ByteArray) (a : Nat) : Rs :=
  if toR s (a + 1) < (starts s).length then
    (if (parR A (s.extract (plR s (a + 1)) (plR s (toR s (a + 1))))).2.2.2 = 0 ∧ textR A (parR A (s.extract (plR s (a + 1)) (plR s (toR s (a + 1))))).1 (parR A (s.extract (plR s (a + 1)) (plR s (toR s (a + 1))))).2.1 = ((s.extract (plR s (a + 1)) (plR s (toR s (a + 1)))).data.toList, 0) then
      .ok (.nd 3 0 (parR A (s.extract (plR s (a + 1)) (plR s (toR s (a + 1))))).1 (parR A (s.extract (plR s (a + 1)) (plR s (toR s (a + 1))))).2.1 .nil, toR s (a + 1) + 1)
    else .error (a + 1))
  else .error a
/-- The * and ? behind a node. -/
def repF (s : ByteArray) : Nat → Tr → Nat → Tr × Nat
  | 0, t, a => (t, a)
  | f + 1, t, a => if nxR s a = 42 then repF s f (.nd 8 0 0 0 (.cons t .nil)) (a + 1) else if nxR s a = 63 then repF s f (.nd 9 0 0 0 (.cons t .nil)) (a + 1) else (t, a)
/-- A node without them. -/
def bareR (A : Al) (s : ByteArray) (R : Md → Nat → Rs) (a : Nat) : Rs :=
  if nxR s a = 40 then R (.seq []) (a + 1)
  else if nxR s a = 123 then (if nxR s (a + 1) = 125 then .ok (.nd 7 0 0 0 .nil, a + 2) else R (.or []) (a + 1))
  else if nxR s a = 91 then clsRd A s a
  else if nxR s a = 126 then .ok (.nd 1 0 0 0 .nil, a + 1)
  else if nxR s a = 46 then .ok (.nd 4 0 0 0 .nil, a + 1)
  else if nxR s a = 35 then .ok (.nd 5 0 0 0 .nil, a + 1)
  else if nxR s a ∈ clsR A 0 0 then .ok (.nd 2 (nxR s a) 0 0 .nil, a + 1)
  else .error a
def rdF (A : Al) (s : ByteArray) : Nat → Md → Nat → Rs
  | 0, _, a => .error a
  | f + 1, .node, a => match bareR A s (rdF A s f) a with
    | .error e => .error e
    | .ok (t, b) => .ok (repF s (starts s).length t b)
  | f + 1, .seq l, a => if nxR s a = 41 then .ok (.nd 6 0 0 0 (ofL l), a + 1) else match rdF A s f .node a with
    | .error e => .error e
    | .ok (t, b) => rdF A s f (.seq (l ++ [t])) b
  | f + 1, .or l, a => match rdF A s f .node a with
    | .error e => .error e
    | .ok (t, b) => if nxR s b = 125 then .ok (.nd 7 0 0 0 (ofL (l ++ [t])), b + 1) else if nxR s b = 124 then rdF A s f (.or (l ++ [t])) (b + 1) else .error b
/-- What Parse answers: the nodes, the place, the error. -/
def rdR (A : Al) (s : ByteArray) : List Nd × Nat × Int :=
  if aacR A 0 0 ≠ 0 then ([], 0, aacR A 0 0)
  else if 65536 < s.size then ([], 0, 3)
  else match rdF A s (2 * (starts s).length + 1) .node 0 with
    | .error e => ([], plR s e, 40)
    | .ok (t, b) => if b = (starts s).length then (if t.sz ≤ 256 then (t.flat 0, 0, 0) else ([], 0, 4)) else ([], plR s b, 40)

/-! ### bounds -/
theorem nxR_lt {s : ByteArray} {k : Nat} (h : nxR s k ≠ -1) : k < (starts s).length := by
  unfold nxR at h
  cases hk : (starts s)[k]? with
  | none => rw [hk] at h; exact absurd rfl h
  | some p => exact (List.getElem?_eq_some_iff.1 hk).1
theorem nxR_end {s : ByteArray} {k : Nat} (h : ¬ k < (starts s).length) : nxR s k = -1 := by
  unfold nxR; rw [List.getElem?_eq_none (by omega)]
theorem nxR_bits (s : ByteArray) (k : Nat) : -1 ≤ nxR s k ∧ nxR s k ≤ 1114111 := by
  unfold nxR
  cases hk : (starts s)[k]? with
  | none => simp
  | some p =>
    have := dR_le s p
    show (-1 : Int) ≤ (dR s p : Int) ∧ (dR s p : Int) ≤ 1114111
    omega
theorem plR_le (s : ByteArray) (k : Nat) : plR s k ≤ s.size := by
  unfold plR
  rw [List.getD_eq_getElem?_getD]
  cases hk : (starts s)[k]? with
  | none => exact Nat.le_refl _
  | some p => exact Nat.le_of_lt (startsF_mem s _ _ _ (List.mem_of_getElem? hk))
theorem toR_ge (s : ByteArray) (k : Nat) : k ≤ toR s k := by unfold toR; omega
theorem toR_is {s : ByteArray} {k : Nat} (h : toR s k < (starts s).length) : nxR s (toR s k) = 93 := by
  have hl : ((starts s).drop k).findIdx (fun p => dR s p == 93) < ((starts s).drop k).length := by
    rw [List.length_drop]; unfold toR at h; omega
  have h1 := List.findIdx_getElem (w := hl)
  unfold nxR toR
  rw [List.getElem_drop] at h1
  rw [List.getElem?_eq_getElem (by rw [List.length_drop] at hl; omega)]
  have h2 : dR s ((starts s)[k + ((starts s).drop k).findIdx (fun p => dR s p == 93)]'(by rw [List.length_drop] at hl; omega)) = 93 := by simpa using h1
  show ((dR s _ : Nat) : Int) = 93
  rw [h2]
  rfl
theorem clsR_pos {A : Al} {x : Int} (h : x ∈ clsR A 0 0) : 0 ≤ x := by
  unfold clsR at h
  split at h
  · rename_i h0
    have hok := aacR_ok0 h0
    rw [Al.ok_eq, Bool.and_eq_true] at hok
    unfold clsL at h
    obtain ⟨l, hl, rfl⟩ := List.mem_map.1 h
    have hl2 := (List.mem_filter.1 hl).1
    have h3 := hok.2
    unfold ltrsB at h3
    simp only [Bool.and_eq_true] at h3
    have h4 := List.all_eq_true.1 h3.1.2 l hl2
    unfold ltrB at h4
    simp only [Bool.and_eq_true] at h4
    have h5 : letB l.r = true := by first | exact h4.1 | exact h4.1.1 | exact h4.1.1.1
    unfold letB at h5
    simp only [Bool.or_eq_true, Bool.and_eq_true, decide_eq_true_eq] at h5
    omega
  · cases h
theorem repF_sz (s : ByteArray) : ∀ (f : Nat) (t : Tr) (a : Nat), a ≤ (starts s).length → (repF s f t a).2 ≤ (starts s).length ∧ a ≤ (repF s f t a).2 ∧ a + (repF s f t a).1.sz = (repF s f t a).2 + t.sz
  | 0, t, a, h => ⟨h, Nat.le_refl _, rfl⟩
  | f + 1, t, a, h => by
    unfold repF
    by_cases h1 : nxR s a = 42
    · have hl := nxR_lt (s := s) (k := a) (by rw [h1]; decide)
      rw [if_pos h1]
      obtain ⟨x, y, z⟩ := repF_sz s f (.nd 8 0 0 0 (.cons t .nil)) (a + 1) hl
      refine ⟨x, by omega, ?_⟩
      simp only [Tr.sz, Ts.sz] at z
      omega
    · rw [if_neg h1]
      by_cases h2 : nxR s a = 63
      · have hl := nxR_lt (s := s) (k := a) (by rw [h2]; decide)
        rw [if_pos h2]
        obtain ⟨x, y, z⟩ := repF_sz s f (.nd 9 0 0 0 (.cons t .nil)) (a + 1) hl
        refine ⟨x, by omega, ?_⟩
        simp only [Tr.sz, Ts.sz] at z
        omega
      · rw [if_neg h2]
        exact ⟨h, Nat.le_refl _, rfl⟩
theorem ofL_snoc (l : List Tr) (t : Tr) : (ofL (l ++ [t])).sz = (ofL l).sz + t.sz := by
  induction l with
  | nil => simp [ofL, Ts.sz]
  | cons x l ih => simp only [List.cons_append, ofL, Ts.sz, ih]; omega
def mdSz : Md → Nat
  | .node => 0
  | .seq l => (ofL l).sz
  | .or l => (ofL l).sz
/-- Each node takes a piece at least. -/
theorem rdF_sz (A : Al) (s : ByteArray) : ∀ (f : Nat) (m : Md) (a : Nat) (t : Tr) (b : Nat), a ≤ (starts s).length → rdF A s f m a = .ok (t, b) → b ≤ (starts s).length ∧ a + 1 ≤ b ∧ a + t.sz ≤ b + mdSz m
  | 0, m, a, t, b, _, h => by cases h
  | f + 1, .node, a, t, b, ha, h => by
    unfold rdF at h
    cases hb : bareR A s (rdF A s f) a with
    | error e => rw [hb] at h; cases h
    | ok q =>
      obtain ⟨t', b'⟩ := q
      rw [hb] at h
      have h' : repF s (starts s).length t' b' = (t, b) := by injection h
      have key : b' ≤ (starts s).length ∧ a + 1 ≤ b' ∧ a + t'.sz ≤ b' := by
        have leaf : ∀ (k : Nat) (r : Int) (p m : Nat), nxR s a ≠ -1 → Except.ok (ε := Nat) (Tr.nd k r p m .nil, a + 1) = .ok (t', b') → b' ≤ (starts s).length ∧ a + 1 ≤ b' ∧ a + t'.sz ≤ b' := fun k r p m hn e => by
          have hl := nxR_lt hn
          injection e with e
          injection e with e1 e2
          subst e1; subst e2
          exact ⟨hl, Nat.le_refl _, by simp [Tr.sz, Ts.sz]⟩
        unfold bareR at hb
        by_cases c1 : nxR s a = 40
        · have hl := nxR_lt (s := s) (k := a) (by rw [c1]; decide)
          rw [if_pos c1] at hb
          obtain ⟨x, y, z⟩ := rdF_sz A s f (.seq []) (a + 1) t' b' hl hb
          simp only [mdSz, ofL, Ts.sz] at z
          exact ⟨x, by omega, by omega⟩
        rw [if_neg c1] at hb
        by_cases c2 : nxR s a = 123
        · have hl := nxR_lt (s := s) (k := a) (by rw [c2]; decide)
          rw [if_pos c2] at hb
          by_cases c3 : nxR s (a + 1) = 125
          · have hl2 := nxR_lt (s := s) (k := a + 1) (by rw [c3]; decide)
            rw [if_pos c3] at hb
            injection hb with e
            injection e with e1 e2
            subst e1; subst e2
            exact ⟨hl2, by omega, by simp [Tr.sz, Ts.sz]⟩
          · rw [if_neg c3] at hb
            obtain ⟨x, y, z⟩ := rdF_sz A s f (.or []) (a + 1) t' b' hl hb
            simp only [mdSz, ofL, Ts.sz] at z
            exact ⟨x, by omega, by omega⟩
        rw [if_neg c2] at hb
        by_cases c4 : nxR s a = 91
        · rw [if_pos c4] at hb
          unfold clsRd at hb
          split at hb
          · rename_i hto
            split at hb
            · have h9 := toR_ge s (a + 1)
              injection hb with e
              injection e with e1 e2
              subst e1; subst e2
              exact ⟨hto, by omega, by simp [Tr.sz, Ts.sz]; omega⟩
            · cases hb
          · cases hb
        rw [if_neg c4] at hb
        by_cases c5 : nxR s a = 126
        · rw [if_pos c5] at hb
          exact leaf _ _ _ _ (by rw [c5]; decide) hb
        rw [if_neg c5] at hb
        by_cases c6 : nxR s a = 46
        · rw [if_pos c6] at hb
          exact leaf _ _ _ _ (by rw [c6]; decide) hb
        rw [if_neg c6] at hb
        by_cases c7 : nxR s a = 35
        · rw [if_pos c7] at hb
          exact leaf _ _ _ _ (by rw [c7]; decide) hb
        rw [if_neg c7] at hb
        by_cases c8 : nxR s a ∈ clsR A 0 0
        · have := clsR_pos c8
          rw [if_pos c8] at hb
          exact leaf _ _ _ _ (by omega) hb
        rw [if_neg c8] at hb
        cases hb
      obtain ⟨x, y, z⟩ := repF_sz s (starts s).length t' b' key.1
      rw [h'] at x y z
      simp only [mdSz]
      simp only at x y z
      omega
  | f + 1, .seq l, a, t, b, ha, h => by
    unfold rdF at h
    by_cases c : nxR s a = 41
    · have hl := nxR_lt (s := s) (k := a) (by rw [c]; decide)
      rw [if_pos c] at h
      injection h with e
      injection e with e1 e2
      subst e1; subst e2
      exact ⟨hl, Nat.le_refl _, by simp only [mdSz, Tr.sz]; omega⟩
    · rw [if_neg c] at h
      cases hb : rdF A s f .node a with
      | error e => rw [hb] at h; cases h
      | ok q =>
        obtain ⟨t', b'⟩ := q
        rw [hb] at h
        obtain ⟨x, y, z⟩ := rdF_sz A s f .node a t' b' ha hb
        obtain ⟨x2, y2, z2⟩ := rdF_sz A s f (.seq (l ++ [t'])) b' t b x h
        simp only [mdSz, ofL_snoc] at z z2 ⊢
        omega
  | f + 1, .or l, a, t, b, ha, h => by
    unfold rdF at h
    cases hb : rdF A s f .node a with
    | error e => rw [hb] at h; cases h
    | ok q =>
      obtain ⟨t', b'⟩ := q
      rw [hb] at h
      obtain ⟨x, y, z⟩ := rdF_sz A s f .node a t' b' ha hb
      simp only at h
      by_cases c : nxR s b' = 125
      · have hl := nxR_lt (s := s) (k := b') (by rw [c]; decide)
        rw [if_pos c] at h
        injection h with e
        injection e with e1 e2
        subst e1; subst e2
        simp only [mdSz, Tr.sz, ofL_snoc] at z ⊢
        omega
      · rw [if_neg c] at h
        by_cases c2 : nxR s b' = 124
        · have hl := nxR_lt (s := s) (k := b') (by rw [c2]; decide)
          rw [if_pos c2] at h
          obtain ⟨x2, y2, z2⟩ := rdF_sz A s f (.or (l ++ [t'])) (b' + 1) t b hl h
          simp only [mdSz, ofL_snoc] at z z2 ⊢
          omega
        · rw [if_neg c2] at h
          cases h
theorem bareR_sz (A : Al) (s : ByteArray) (f a : Nat) (t' : Tr) (b' : Nat) (ha : a ≤ (starts s).length) (hb : bareR A s (rdF A s f) a = .ok (t', b')) : b' ≤ (starts s).length ∧ a + 1 ≤ b' ∧ a + t'.sz ≤ b' := by
  have leaf : ∀ (k : Nat) (r : Int) (p m : Nat), nxR s a ≠ -1 → Except.ok (ε := Nat) (Tr.nd k r p m .nil, a + 1) = .ok (t', b') → b' ≤ (starts s).length ∧ a + 1 ≤ b' ∧ a + t'.sz ≤ b' := fun k r p m hn e => by
    have hl := nxR_lt hn
    injection e with e
    injection e with e1 e2
    subst e1; subst e2
    exact ⟨hl, Nat.le_refl _, by simp [Tr.sz, Ts.sz]⟩
  unfold bareR at hb
  by_cases c1 : nxR s a = 40
  · have hl := nxR_lt (s := s) (k := a) (by rw [c1]; decide)
    rw [if_pos c1] at hb
    obtain ⟨x, y, z⟩ := rdF_sz A s f (.seq []) (a + 1) t' b' hl hb
    simp only [mdSz, ofL, Ts.sz] at z
    exact ⟨x, by omega, by omega⟩
  rw [if_neg c1] at hb
  by_cases c2 : nxR s a = 123
  · have hl := nxR_lt (s := s) (k := a) (by rw [c2]; decide)
    rw [if_pos c2] at hb
    by_cases c3 : nxR s (a + 1) = 125
    · have hl2 := nxR_lt (s := s) (k := a + 1) (by rw [c3]; decide)
      rw [if_pos c3] at hb
      injection hb with e
      injection e with e1 e2
      subst e1; subst e2
      exact ⟨hl2, by omega, by simp [Tr.sz, Ts.sz]⟩
    · rw [if_neg c3] at hb
      obtain ⟨x, y, z⟩ := rdF_sz A s f (.or []) (a + 1) t' b' hl hb
      simp only [mdSz, ofL, Ts.sz] at z
      exact ⟨x, by omega, by omega⟩
  rw [if_neg c2] at hb
  by_cases c4 : nxR s a = 91
  · rw [if_pos c4] at hb
    unfold clsRd at hb
    split at hb
    · rename_i hto
      split at hb
      · have h9 := toR_ge s (a + 1)
        injection hb with e
        injection e with e1 e2
        subst e1; subst e2
        exact ⟨hto, by omega, by simp [Tr.sz, Ts.sz]; omega⟩
      · cases hb
    · cases hb
  rw [if_neg c4] at hb
  by_cases c5 : nxR s a = 126
  · rw [if_pos c5] at hb
    exact leaf _ _ _ _ (by rw [c5]; decide) hb
  rw [if_neg c5] at hb
  by_cases c6 : nxR s a = 46
  · rw [if_pos c6] at hb
    exact leaf _ _ _ _ (by rw [c6]; decide) hb
  rw [if_neg c6] at hb
  by_cases c7 : nxR s a = 35
  · rw [if_pos c7] at hb
    exact leaf _ _ _ _ (by rw [c7]; decide) hb
  rw [if_neg c7] at hb
  by_cases c8 : nxR s a ∈ clsR A 0 0
  · have := clsR_pos c8
    rw [if_pos c8] at hb
    exact leaf _ _ _ _ (by omega) hb
  rw [if_neg c8] at hb
  cases hb
/-- What a class read from a text has: bits below 2^24. -/
theorem parF_lt (fs : List ByteArray) (s : ByteArray) (h24 : fs.length ≤ 24) : ∀ (n t p m : Nat), p < 16777216 → m < 16777216 → (parF fs s n t p m).1 < 16777216 ∧ (parF fs s n t p m).2.1 < 16777216
  | 0, t, p, m, hp, hm => ⟨hp, hm⟩
  | n + 1, t, p, m, hp, hm => by
    unfold parF
    split
    · split
      · have hb := bitF_lt fs (s.extract (t + 1) (endOf s (t + 1))) 0 (by omega)
        split
        · exact parF_lt fs s h24 n _ _ _ hp (Nat.or_lt_two_pow (n := 24) hm hb)
        · exact parF_lt fs s h24 n _ _ _ (Nat.or_lt_two_pow (n := 24) hp hb) hm
      · exact ⟨(by show (0 : Nat) < 16777216; omega), (by show (0 : Nat) < 16777216; omega)⟩
    · exact ⟨hp, hm⟩
theorem parR_lt (A : Al) (s : ByteArray) : (parR A s).1 < 4294967296 ∧ (parR A s).2.1 < 4294967296 := by
  unfold parR
  split
  · rename_i hok
    split
    · exact ⟨by decide, by decide⟩
    · have := parF_lt A.fs s (Al.ok24 hok) (s.size + 1) 0 0 0 (by decide) (by decide)
      exact ⟨by omega, by omega⟩
  · exact ⟨by decide, by decide⟩
end Go.Proofs.YtmechinlaladiaaDoor
namespace Go.Proofs.YtmechinlaladiaaDoor
open Go.RowKit Go.Lib
set_option linter.unusedVariables false
theorem blk_of_cell {w : World} {b o : Nat} {v : Value} (h : w.cell? ⟨b, o, none⟩ = some v) : b < w.heap.size := World.block_lt_of_cell? w ⟨b, o, none⟩ h
theorem ownN_below {w w' : World} {B e size n : Nat} {v : Value} {xs : List Value} (h : w.ownsRow B e size v n xs) (hb : RowKit.Below w.heap.size w w') : w'.ownsRow B e size v n xs := by
  refine ⟨h.1, ?_⟩
  rcases h.2 with hn | ⟨g, cap, cur, rfl, hbg, hgg, rest⟩
  · exact .inl hn
  · exact .inr ⟨g, cap, cur, rfl, hbg, (hb.block g (Array.getElem?_eq_some_iff.1 hgg).1).trans hgg, rest⟩
theorem ownN_shape {w : World} {B e size n : Nat} {v : Value} {xs : List Value} (h : w.ownsRow B e size v n xs) : ∃ o c, v = .slice o n c := by
  rcases h.2 with ⟨rfl, rfl⟩ | ⟨g, cap, cur, rfl, _⟩
  · exact ⟨_, _, rfl⟩
  · exact ⟨_, _, rfl⟩
end Go.Proofs.YtmechinlaladiaaDoor
namespace Go.Proofs.YtmechinlaladiaaDoor
open Go.RowKit Go.Lib
set_option linter.unusedVariables false

def ndB (k : Nat) (r : Int) (p m n : Nat) : Bool :=
  (r == 0 || k == 2) && ((p == 0 && m == 0) || k == 3) &&
  (if k = 6 ∨ k = 7 then true else if k = 8 ∨ k = 9 then n == 1 else if 1 ≤ k ∧ k ≤ 5 then n == 0 else false)
theorem nodeB_eq (n : Nd) : nodeB n = ndB n.k n.r n.p n.m n.ks.length := rfl
def ndV (k : Nat) (r : Int) (p m : Nat) (pk : Option Addr) (n c : Nat) : Value := .agg #[.int .u8 k, .int .i32 r, .int .u32 p, .int .u32 m, .slice pk n c]
def ndC (k : Nat) (r : Int) (p m : Nat) (pk : Option Addr) (n c : Nat) : Array Value := #[.int .u8 k, .int .i32 r, .int .u32 p, .int .u32 m, .slice pk n c]
theorem nb0 (n : Nat) : ((n : Int) == 0) = (n == 0) := by
  rw [Bool.eq_iff_iff, beq_iff_eq, beq_iff_eq]; omega
theorem nb1 (n : Nat) : ((n : Int) == 1) = (n == 1) := by
  rw [Bool.eq_iff_iff, beq_iff_eq, beq_iff_eq]; omega
set_option maxHeartbeats 2000000 in
set_option maxRecDepth 100000 in
theorem isNode_any (k : Nat) (r : Int) (p m : Nat) (pk : Option Addr) (n c : Nat) (w : World) (hp : p < 4294967296) (hm : m < 4294967296) :
    Calls Tryd.prog 40 #[.agg #[.int .u8 k, .int .i32 r, .int .u32 p, .int .u32 m, .slice pk n c]] w fun e w' => e = .returned (.bool (ndB k r p m n)) ∧ Below w.heap.size w w' := by
  have hor := u32_or_nat p m hp hm
  obtain ⟨o, ho⟩ : ∃ o, o = p ||| m := ⟨_, rfl⟩
  rw [← ho] at hor
  obtain ⟨B, hB⟩ : ∃ B, B = ndB k r p m n := ⟨_, rfl⟩
  rw [← hB]
  have hB1 : ¬ r = 0 → ¬ k = 2 → B = false := fun h1 h2 => by rw [hB]; simp [ndB, h1, h2]
  have hB2 : ¬ o = 0 → ¬ k = 3 → B = false := fun h1 h2 => by
    rw [hB]
    have e : ((p == 0 && m == 0) || k == 3) = false := by
      have : ¬ (p = 0 ∧ m = 0) := fun h => h1 (by rw [ho, h.1, h.2]; rfl)
      simp [h2]
      intro h3 h4
      exact this ⟨h3, h4⟩
    unfold ndB
    rw [e]
    simp
  have hB3 : (r = 0 ∨ k = 2) → (o = 0 ∨ k = 3) → B = (if k = 6 ∨ k = 7 then true else if k = 8 ∨ k = 9 then n == 1 else if 1 ≤ k ∧ k ≤ 5 then n == 0 else false) := fun h1 h2 => by
    rw [hB]
    have e1 : (r == 0 || k == 2) = true := by simpa using h1
    have e2 : ((p == 0 && m == 0) || k == 3) = true := by
      rcases h2 with h2 | h2
      · rw [ho, Nat.or_eq_zero_iff] at h2
        simp [h2.1, h2.2]
      · simp [h2]
    unfold ndB
    rw [e1, e2]
    rfl
  have HBB := Lib.hid (show Below w.heap.size w (w.alloc (.cells #[.int .u8 k, .int .i32 r, .int .u32 p, .int .u32 m, .slice pk n c] 36)) from (Below.refl _ _).alloc (Nat.le_refl _) _)
  clear hB ho
  have fin : ∀ (b : Bool), b = B → Ending.returned (.bool b) = Ending.returned (.bool B) := fun b h => by rw [h]
  have FIN := Lib.hid fin
  clear fin
  by_cases h1 : ¬ r = 0 ∧ ¬ k = 2
  · rw [hB1 h1.1 h1.2]
    obtain ⟨a1, a2⟩ := h1
    clear hB1 hB2 hB3 FIN
    go_enter Tryd.func40, Tryd.ntmps40
    go_wp2_with fail
    go_ret
    exact ⟨rfl, HBB.out⟩
  have h1' : r = 0 ∨ k = 2 := by omega
  by_cases h2 : ¬ o = 0 ∧ ¬ k = 3
  · rw [hB2 h2.1 h2.2]
    obtain ⟨a1, a2⟩ := h2
    have a3 : ¬ (o : Int) = 0 := by omega
    have a4 : ((o : Int) != 0) = true := by simpa using a1
    have a5 : ¬ (k : Int) = 3 := by omega
    have a6 : ((k : Int) != 3) = true := by simpa using a5
    clear hB1 hB2 hB3 FIN h1
    by_cases h3 : r = 0
    · subst h3
      clear h1'
      go_enter Tryd.func40, Tryd.ntmps40
      go_wp2_with fail
      go_ret
      exact ⟨rfl, HBB.out⟩
    · obtain rfl : k = 2 := h1'.resolve_left h3
      clear h1'
      go_enter Tryd.func40, Tryd.ntmps40
      go_wp2_with fail
      go_ret
      exact ⟨rfl, HBB.out⟩
  have h2' : o = 0 ∨ k = 3 := by omega
  have hBv := hB3 h1' h2'
  clear hB1 hB2 hB3 h1 h2
  by_cases hk : k = 1 ∨ k = 2 ∨ k = 3 ∨ k = 4 ∨ k = 5 ∨ k = 6 ∨ k = 7 ∨ k = 8 ∨ k = 9
  · by_cases hr : r = 0
    all_goals by_cases ho : o = 0
    all_goals rcases hk with rfl | rfl | rfl | rfl | rfl | rfl | rfl | rfl | rfl
    all_goals first | (exfalso; omega) | skip
    all_goals (simp at hBv; rw [hBv])
    all_goals clear h1' h2' hBv FIN
    all_goals (try subst hr)
    all_goals (try subst ho)
    all_goals
      go_enter Tryd.func40, Tryd.ntmps40
      go_wp2_with fail
      go_ret
      first
        | exact ⟨rfl, HBB.out⟩
        | exact ⟨by rw [nb0 n]; rfl, HBB.out⟩
        | exact ⟨by rw [nb1 n]; rfl, HBB.out⟩
  · obtain rfl : r = 0 := by omega
    obtain rfl : o = 0 := by omega
    have hb : B = false := by
      rw [hBv, if_neg (by omega), if_neg (by omega), if_neg (by omega)]
    rw [hb]
    obtain ⟨a1, a2, a3, a4, a5, a6, a7, a8, a9⟩ : ¬ k = 1 ∧ ¬ k = 2 ∧ ¬ k = 3 ∧ ¬ k = 4 ∧ ¬ k = 5 ∧ ¬ k = 6 ∧ ¬ k = 7 ∧ ¬ k = 8 ∧ ¬ k = 9 := by omega
    clear hBv hb FIN h1' h2' hk
    go_enter Tryd.func40, Tryd.ntmps40
    go_wp2_with fail
    go_ret
    exact ⟨rfl, HBB.out⟩
end Go.Proofs.YtmechinlaladiaaDoor
namespace Go.Proofs.YtmechinlaladiaaDoor
open Go.RowKit Go.Lib
set_option linter.unusedVariables false

/-- A row of ints in the world. -/
structure KsIn (pk : Option Addr) (bk k0 c : Nat) (ks : List Int) (w : World) : Prop where
  at_ : 0 < ks.length → pk = some ⟨bk, k0, none⟩
  cells : ∀ j, j < ks.length → w.cell? ⟨bk, k0 + j, none⟩ = some (.int .i64 (ks.getD j 0))
  room : ks.length ≤ c
  big : ks.length ≤ 140737488355328
  bits : ∀ k ∈ ks, -9223372036854775808 ≤ k ∧ k ≤ 9223372036854775807
theorem KsIn.next {pk : Option Addr} {bk k0 c : Nat} {ks : List Int} {w w' : World} (h : KsIn pk bk k0 c ks w) (hb : Below w.heap.size w w') : KsIn pk bk k0 c ks w' :=
  ⟨h.at_, fun j hj => by have h1 := h.cells j hj; rw [hb.cell (p := ⟨bk, k0 + j, none⟩) (blk_of_cell h1)]; exact h1, h.room, h.big, h.bits⟩
/-- A node, and where its kids lie. -/
structure NdM where
  nd : Nd
  pk : Option Addr
  bk : Nat
  k0 : Nat
  c : Nat
instance : Inhabited NdM := ⟨⟨default, none, 0, 0, 0⟩⟩
def NdM.v (m : NdM) : Value := .agg #[.int .u8 m.nd.k, .int .i32 m.nd.r, .int .u32 m.nd.p, .int .u32 m.nd.m, .slice m.pk m.nd.ks.length m.c]
/-- A node's five cells. -/
structure N5 (b o : Nat) (m : NdM) (w : World) : Prop where
  c0 : w.cell? ⟨b, o, none⟩ = some (.int .u8 m.nd.k)
  c1 : w.cell? ⟨b, o + 1, none⟩ = some (.int .i32 m.nd.r)
  c2 : w.cell? ⟨b, o + 2, none⟩ = some (.int .u32 m.nd.p)
  c3 : w.cell? ⟨b, o + 3, none⟩ = some (.int .u32 m.nd.m)
  c4 : w.cell? ⟨b, o + 4, none⟩ = some (.slice m.pk m.nd.ks.length m.c)
theorem N5.next {b o : Nat} {m : NdM} {w w' : World} (h : N5 b o m w) (hb : Below w.heap.size w w') : N5 b o m w' := by
  have hl := blk_of_cell h.c0
  exact ⟨(hb.cell (p := ⟨b, o, none⟩) hl).trans h.c0, (hb.cell (p := ⟨b, o + 1, none⟩) hl).trans h.c1, (hb.cell (p := ⟨b, o + 2, none⟩) hl).trans h.c2, (hb.cell (p := ⟨b, o + 3, none⟩) hl).trans h.c3, (hb.cell (p := ⟨b, o + 4, none⟩) hl).trans h.c4⟩
/-- A node is of its types. -/
structure NdM.Ok (m : NdM) : Prop where
  k : m.nd.k < 256
  r : -2147483648 ≤ m.nd.r ∧ m.nd.r ≤ 2147483647
  p : m.nd.p < 4294967296
  m_ : m.nd.m < 4294967296
/-- A row of nodes in the world. -/
structure NsIn (pn : Option Addr) (bn n0 : Nat) (ms : List NdM) (w : World) : Prop where
  at_ : 0 < ms.length → pn = some ⟨bn, n0, none⟩
  node : ∀ j, j < ms.length → N5 bn (n0 + j * 5) (ms.getD j default) w
  kids : ∀ j, j < ms.length → KsIn (ms.getD j default).pk (ms.getD j default).bk (ms.getD j default).k0 (ms.getD j default).c (ms.getD j default).nd.ks w
  ok : ∀ j, j < ms.length → (ms.getD j default).Ok
  big : ms.length ≤ 140737488355328
theorem NsIn.next {pn : Option Addr} {bn n0 : Nat} {ms : List NdM} {w w' : World} (h : NsIn pn bn n0 ms w) (hb : Below w.heap.size w w') : NsIn pn bn n0 ms w' :=
  ⟨h.at_, fun j hj => (h.node j hj).next hb, fun j hj => (h.kids j hj).next hb, h.ok, h.big⟩
/-- The nodes alone. -/
def nds (ms : List NdM) : List Nd := ms.map NdM.nd
theorem nds_length (ms : List NdM) : (nds ms).length = ms.length := by simp [nds]
theorem nds_at (ms : List NdM) (j : Nat) (hj : j < ms.length) : (nds ms)[j]'(by rw [nds_length]; exact hj) = (ms.getD j default).nd := by
  simp [nds, List.getD_eq_getElem?_getD, List.getElem?_eq_getElem hj]
theorem isNode_m (m : NdM) (w : World) (h : m.Ok) : Calls Tryd.prog 40 #[m.v] w fun e w' => e = .returned (.bool (nodeB m.nd)) ∧ Below w.heap.size w w' := by
  rw [nodeB_eq]
  exact isNode_any _ _ _ _ _ _ _ w h.p h.m_
end Go.Proofs.YtmechinlaladiaaDoor
