/-
  WALKS OF THE PROGRAM's runes.Pieces, Len, Broken and their closures.
-/
import Derived.Test.YtmbekgfbnapelaaDoorWalkF
import Derived.OneCell
namespace Go.Proofs.YtmbekgfbnapelaaDoor
open Go.RowKit Go.Lib
set_option linter.unusedVariables false

theorem own_iterAt {w : World} {B e size n k q : Nat} {v : Value} {xs : List Value} {s : ByteArray} (h : w.ownsRow B e size v n xs) (hk : w.heap[k]? = some (.stringIter s q)) (r : Nat) : (w.iterAt k s r).ownsRow B e size v n xs := by
  obtain ⟨h1, h2⟩ := h
  refine ⟨h1, ?_⟩
  rcases h2 with h2 | ⟨g, cap, cur, hv, hg, hh, rr⟩
  · exact Or.inl h2
  · have hne : g ≠ k := by intro e; subst e; rw [hk] at hh; cases hh
    exact Or.inr ⟨g, cap, cur, hv, hg, by rw [Lib.iterAt_other _ _ _ _ _ hne]; exact hh, rr⟩
theorem one_iterAt {w : World} {b k q : Nat} {v : Value} {t : TypeId} {s : ByteArray} (h : w.heap[b]? = some (.cells #[v] t (0, 0))) (hk : w.heap[k]? = some (.stringIter s q)) (r : Nat) : (w.iterAt k s r).heap[b]? = some (.cells #[v] t (0, 0)) := by
  have hne : b ≠ k := by intro e; subst e; rw [hk] at h; cases h
  rw [Lib.iterAt_other _ _ _ _ _ hne]; exact h
/-- A block that holds cells is none of a grown row's, if it isn't that row. -/
theorem iter_grown {w w' : World} {v : Value} {B e size n : Nat} {xs : List Value} (h : w.ownsRow B e size v n xs) (hg : w.grownBy w' v.ownBlock) : IterKept w w' := by
  intro j s q hj
  have hlt := lt_of_block hj
  rw [hg.block j hlt ?_]
  · exact hj
  · intro e
    rcases h.2 with ⟨rfl, _⟩ | ⟨g, cap, cur, rfl, _, hh, _⟩
    · simp [Value.ownBlock] at e
    · simp [Value.ownBlock] at e
      subst e
      rw [hh] at hj; cases hj
theorem iter_below {w w' : World} (h : Below w.heap.size w w') : IterKept w w' := fun j s q hj => (h.block j (lt_of_block hj)).trans hj
theorem IterKept.trans {a b c : World} (h : IterKept a b) (k : IterKept b c) : IterKept a c := fun j s q hj => k j s q (h j s q hj)
theorem iter_setCell {w : World} {b : Nat} {c : Array Value} {t : TypeId} {fz : Nat × Nat} (h : w.heap[b]? = some (.cells c t fz)) (u : Value) (o : Nat) : IterKept w (w.setCell ⟨b, o, none⟩ u) := by
  intro j s q hj
  have hne : j ≠ b := by intro e; subst e; rw [h] at hj; cases hj
  rw [Below.heap_setCell _ _ _ _ hne]; exact hj

theorem alloc_new (w : World) (o : Obj) : (w.alloc o).heap[w.heap.size]? = some o := (MapKept.heap_alloc w o).1
/-- WHAT THE GATHERING CLOSURE KEEPS: its variable (block L) holds a slice of its own, the pieces up to now. -/
def Gath (s : ByteArray) (B L : Nat) (l : List Nat) (w : World) : Prop :=
  B ≤ L ∧ ∃ v, w.heap[L]? = some (.cells #[v] 66 (0, 0)) ∧ w.ownsRow B 85 4 v l.length (pieceCs s l) ∧ v.ownBlock ≠ some L

theorem Gath.new {s : ByteArray} {B L : Nat} (l : List Nat) (w w' : World) (h : Gath s B L l w) (hb : Below w.heap.size w w') : Gath s B L l w' := by
  obtain ⟨h0, v, h1, h2, h3⟩ := h
  exact ⟨h0, v, (hb.block L (lt_of_block h1)).trans h1, own_below h2 hb, h3⟩
theorem Gath.iter {s : ByteArray} {B L : Nat} (l : List Nat) (w : World) (k q r : Nat) (h : Gath s B L l w) (hk : w.heap[k]? = some (.stringIter s q)) : Gath s B L l (w.iterAt k s r) := by
  obtain ⟨h0, v, h1, h2, h3⟩ := h
  exact ⟨h0, v, one_iterAt h1 hk r, own_iterAt h2 hk r, h3⟩

set_option maxHeartbeats 1000000 in
theorem gather_step (s : ByteArray) (B L : Nat) (hs : s.size ≤ 1073741824) (l : List Nat) (p : Nat) (w : World) (h : Gath s B L l w) (hp : p < s.size) (hl : l.length < s.size) :
    Calls Tryd.prog 53 #[pieceV s p, .pointer (some ⟨L, 0, none⟩)] w (StepPost s B (Gath s B L) l p w) := by
  obtain ⟨i0, hi, hz0, hz1, hz2⟩ := info_parts piece_info
  obtain ⟨hBL, v, h1, h2, h3⟩ := h
  have hLw := lt_of_block h1
  have hc1 := cell_of_one h1
  have hc2 : (w.alloc (.cells #[.int .i32 (dR s p), .int .i64 p, .int .i64 (dW s p), .bool (brk s p)] 85)).cell? ⟨L, 0, none⟩ = some v := by
    rw [(((Below.refl w.heap.size w).alloc (Nat.le_refl _) _).cell (p := ⟨L, 0, none⟩) hLw)]; exact hc1
  have H1 := Lib.hid h1; have H2 := Lib.hid h2; have H3 := Lib.hid h3
  obtain ⟨o, c, rfl⟩ := own_shape h2
  clear h1 h2 h3 hc1
  unfold pieceV
  go_enter Tryd.func53, Tryd.ntmps53
  have hs13 : (l.length + 1) * 32 ≤ 140737488355328 := by omega
  go_wp2_with (at_builtin; refine wpList_append_own _ rfl (.tmp 3) (.tmp 5) 66 rfl B 85 i0 (.agg #[.int .i32 0, .int .i64 0, .int .i64 0, .bool false]) 4 32 Tryd.underlying66 hi hz0 hz1 hz2 rfl (by decide) _ _ _ rfl ((H2.out.alloc _).alloc _) ⟨w.heap.size + 1, 0, none⟩ 1 1 (pieceC s p) rfl rfl ?c1 (cells_one s p) ?c3 hs13 ?c5 ?_)
  case c1 => exact cells_new (w.alloc _) s p _ _ (by simp)
  case c3 => unfold maxLen; omega
  case c5 => simp; omega
  intro v3 w3 hown3 hgrow3 hnil3
  have hobl := H3.out
  have hL3 : w3.heap[L]? = some (.cells #[.slice o l.length c] 66 (0, 0)) := by
    rw [hgrow3.block L (by simp; omega) (fun e => hobl e.symm)]
    rw [Below.heap_alloc _ _ _ (by simp; omega), Below.heap_alloc _ _ _ hLw]
    exact H1.out
  have hf3 := free_of_one hL3
  have hk3 := cell_of_one hL3
  have hob3 : v3.ownBlock ≠ some L := by
    intro e
    rcases hown3.2 with ⟨rfl, _⟩ | ⟨g, cap, cur, rfl, _, hh, _⟩
    · simp [Value.ownBlock] at e
    · simp [Value.ownBlock] at e
      subst e
      rw [hL3] at hh; cases hh
  have hkp : IterKept w w3 := (iter_below (((Below.refl _ w).alloc (Nat.le_refl _) _).alloc (by simp) _)).trans (iter_grown ((H2.out.alloc _).alloc _) hgrow3)
  have hbw : Below B w w3 := (((Below.refl B w).alloc (by omega) _).alloc (by simp; omega) _).grown hgrow3 (by simp; omega) (fun k hk => (H2.out.lt k hk).1)
  have hown4 : w3.ownsRow B 85 4 v3 (l ++ [p]).length (pieceCs s (l ++ [p])) := by
    rw [← pieceCs_snoc]; simpa using hown3
  obtain ⟨o3, c3, rfl⟩ := own_shape hown3
  have fin : StepPost s B (Gath s B L) l p w (.returned (.tuple #[])) (w3.setCell ⟨L, 0, none⟩ (.slice o3 (l.length + 1) c3)) :=
    ⟨rfl, ⟨hBL, _, one_setCell hL3, ownsRow_setCell_other hown4 (a := ⟨L, 0, none⟩) hob3 _, hob3⟩, hbw.setCell hBL _, hkp.trans (iter_setCell hL3 _ _)⟩
  have HFin := Lib.hid fin
  clear fin hown4 hbw hkp hob3 hL3 hobl hown3 hgrow3 hnil3 hc2
  go_wp2_with fail
  go_end0
  exact HFin.out

def PiecesPost (s : ByteArray) (w : World) (e : Ending) (w' : World) : Prop := ∃ v, e = .returned (.tuple #[v, .int .i64 0]) ∧ PiecesAt s w.heap.size w' v ∧ Below w.heap.size w w'

set_option maxHeartbeats 1000000 in
theorem pieces_any (s : ByteArray) (w : World) (hs : s.size ≤ 65536) (hT : Tabs w) :
    Calls Tryd.prog 30 #[.string s] w (PiecesPost s w) := by
  have hc : ¬ (65536 : Int) < (s.size : Int) := by omega
  have HT := Lib.hid hT
  clear hT
  go_enter Tryd.func30, Tryd.ntmps30
  go_wp2_with fail
  refine (Tryd.utf8_RuneCountInString s _ (by omega)).mono ?_
  rintro e w1 ⟨rfl, pos, rfl⟩
  have hct : runeCount s ≤ s.size := runeCount_le s
  obtain ⟨i0, hi, hz0, hz1, hz2⟩ := info_parts piece_info
  obtain ⟨w1, hw1⟩ : ∃ w1, w1 = w.iter s pos := ⟨_, rfl⟩
  have hb1 : Below w.heap.size w w1 := by rw [hw1]; exact (Below.refl _ _).alloc (Nat.le_refl _) _
  rw [← hw1]
  have HB1 := Lib.hid hb1
  clear hw1 hb1
  go_wp2_with (at_make; refine wpList_make_own _ rfl _ _ 66 rfl w.heap.size 85 i0 _ 4 Tryd.underlying66 hi hz0 hz1 .i64 .i64 (runeCount s) (runeCount s) rfl rfl rfl ?c1 ?c2 ?c3 ?_)
  case c1 => rw [hz2]; omega
  case c2 => unfold maxLen; omega
  case c3 => exact HB1.out.size
  intro w2 hown2 hgrow2
  have hs1 := HB1.out.size
  have hb2 : Below w.heap.size w w2 := HB1.out.grown hgrow2 hs1 (fun k hk => by cases hk)
  have hs2 := hb2.size
  have hlt : w1.heap.size < w2.heap.size := (hown2.lt w1.heap.size rfl).2
  have hg : Gath s w.heap.size w2.heap.size [] (w2.alloc (.cells #[.slice (some ⟨w1.heap.size, 0, none⟩) 0 (runeCount s)] 66)) :=
    ⟨hs2, _, alloc_new _ _, hown2.alloc _, by simp [Value.ownBlock]; omega⟩
  have hbv : Below w.heap.size w (w2.alloc (.cells #[.slice (some ⟨w1.heap.size, 0, none⟩) 0 (runeCount s)] 66)) := hb2.alloc hs2 _
  have HG := Lib.hid hg; have HBV := Lib.hid hbv
  clear hg hbv hb2 hown2 hgrow2
  go_wp2_with fail
  refine (walk_pieces s _ w.heap.size (Gath s w.heap.size w2.heap.size) _ (HT.out.next HBV.out) HT.out.2 (by simp; omega) (by omega) Gath.new Gath.iter (gather_step s w.heap.size w2.heap.size (by omega)) HG.out).mono ?_
  rintro e w3 ⟨rfl, hg3, hb3⟩
  obtain ⟨_, v, h1, h2, h3⟩ := hg3
  have hk := cell_of_one h1
  have hfin : PiecesPost s w (.returned (.tuple #[v, .int .i64 0])) w3 := ⟨v, rfl, h2, HBV.out.trans hb3⟩
  have HF := Lib.hid hfin
  obtain ⟨o, c, rfl⟩ := own_shape h2
  clear h1 h2 h3 hb3 hfin
  go_wp2_with fail
  go_ret2
  exact HF.out

set_option maxHeartbeats 400000 in
theorem pieces_long (s : ByteArray) (w : World) (hs : ¬ s.size ≤ 65536) :
    Calls Tryd.prog 30 #[.string s] w fun e w' => e = .returned (.tuple #[.slice none 0 0, .int .i64 3]) ∧ w = w' := by
  have hc : (65536 : Int) < (s.size : Int) := by omega
  go_enter Tryd.func30, Tryd.ntmps30
  go_wp2_with fail
  go_ret2
  exact ⟨rfl, rfl⟩
end Go.Proofs.YtmbekgfbnapelaaDoor
