/-
  WALKS: runes.quoted$1, quoted, Quote.
-/
import Derived.Test.YtmbekgfbnapelaaDoorShow
import Derived.Test.YtmbekgfbnapelaaDoorTexts2
import Derived.Test.YtmbekgfbnapelaaDoorPieces
import Derived.StillTailTactics
namespace Go.Proofs.YtmbekgfbnapelaaDoor
open Go.RowKit Go.Lib
set_option linter.unusedVariables false

theorem put_any (B n : Nat) (v : Value) (xs : List Value) (s : ByteArray) (p : Nat) (w : World) (hown : w.ownsRow B 5 1 v n xs) (hn : n ≤ 536870912) (hB : B ≤ w.heap.size) (hT : Tabs2 w) (hG : GB B) :
    Calls Tryd.prog 43 #[v, pieceV s p, .int .u8 (s.get! p).toNat] w (App B n xs (shownL s p) w .returned) := by
  cases hb : brk s p with
  | true => exact put_brk B n v xs s p w hown hn hB hb
  | false =>
    by_cases h2 : dR s p = 34 ∨ dR s p = 92
    · exact put_esc B n v xs s p w hown hn hB hb h2
    · by_cases h3 : 32 ≤ dR s p ∧ dR s p ≤ 126
      · exact put_self B n v xs s p w hown hn hB hb h2 h3
      · exact put_u B n v xs s p w hown hn hB hT hG hb h2 h3

/-! ### plain -/
def outL (s : ByteArray) (l : List Nat) : List UInt8 := 34 :: l.flatMap (shownL s)
def quoteL (s : ByteArray) : List UInt8 := outL s (starts s) ++ [34]
theorem outL_snoc (s : ByteArray) (l : List Nat) (p : Nat) : outL s (l ++ [p]) = outL s l ++ shownL s p := by simp [outL]
theorem outL_length (s : ByteArray) (l : List Nat) : (outL s l).length ≤ 1 + 11 * l.length := by
  induction l with
  | nil => simp [outL]
  | cons p l ih =>
    have := (shownL_length s p).2
    simp only [outL, List.flatMap_cons, List.length_append, List.length_cons] at ih ⊢
    omega

theorem cell_iter {w : World} {k q : Nat} {s : ByteArray} {p : Addr} {x : Value} (hk : w.heap[k]? = some (.stringIter s q)) (h : w.cell? p = some x) (r : Nat) : (w.iterAt k s r).cell? p = some x := by
  have hne : p.block ≠ k := by
    intro e
    unfold World.cell? at h
    rw [e, hk] at h
    cases h
  unfold World.cell? at h ⊢
  rw [Lib.iterAt_other _ _ _ _ _ hne]
  exact h
theorem Tabs2.iter {w : World} {k q : Nat} {s : ByteArray} (h : Tabs2 w) (hk : w.heap[k]? = some (.stringIter s q)) (r : Nat) : Tabs2 (w.iterAt k s r) :=
  ⟨⟨⟨fun c hc => cell_iter hk (h.1.1.1 c hc) r, fun i hi => ⟨cell_iter hk (h.1.1.2 i hi).1 r, cell_iter hk (h.1.1.2 i hi).2 r⟩⟩, by rw [Lib.iterAt_size]; exact h.1.2.1, by rw [Lib.iterAt_size]; exact h.1.2.2⟩, cell_iter hk h.2 r⟩

/-- WHAT THE SHOWING CLOSURE KEEPS. -/
def Shows (s : ByteArray) (B Lo Ls : Nat) (l : List Nat) (w : World) : Prop :=
  (B ≤ Lo ∧ GB B ∧ Ls ≠ Lo) ∧ Tabs2 w ∧ w.heap[Ls]? = some (.cells #[.string s] 9 (0, 0)) ∧ ∃ v, w.heap[Lo]? = some (.cells #[v] 60 (0, 0)) ∧ w.ownsRow B 5 1 v (outL s l).length (byteCells (outL s l)) ∧ v.ownBlock ≠ some Lo
theorem Shows.new {s : ByteArray} {B Lo Ls : Nat} (l : List Nat) (w w' : World) (h : Shows s B Lo Ls l w) (hb : Below w.heap.size w w') : Shows s B Lo Ls l w' := by
  obtain ⟨h0, ht, hs, v, h1, h2, h3⟩ := h
  exact ⟨h0, ht.next hb, (hb.block Ls (lt_of_block hs)).trans hs, v, (hb.block Lo (lt_of_block h1)).trans h1, own_below h2 hb, h3⟩
theorem Shows.iter {s : ByteArray} {B Lo Ls : Nat} (l : List Nat) (w : World) (k q r : Nat) (h : Shows s B Lo Ls l w) (hk : w.heap[k]? = some (.stringIter s q)) : Shows s B Lo Ls l (w.iterAt k s r) := by
  obtain ⟨h0, ht, hs, v, h1, h2, h3⟩ := h
  exact ⟨h0, ht.iter hk r, one_iterAt hs hk r, v, one_iterAt h1 hk r, own_iterAt h2 hk r, h3⟩

theorem get_run (s : ByteArray) (p : Nat) (hp : p < s.size) (wx : World) : (Instr.index 9 (.string s) (.int .i64 (p : Int))).run Tryd.prog wx = .ok (.int .u8 ((s.get! p).toNat : Nat)) wx := by
  have h2 : (0 : Int) ≤ (p : Int) ∧ (p : Int) < (s.size : Int) := ⟨by omega, by omega⟩
  rw [run_index_string (P := Tryd.prog) wx 9 _ .i64 (p : Int) Tryd.underlying9]
  rw [dif_pos h2]
  have e : s.get! p = s[p] := by
    cases s with
    | mk d => show d[p]! = d[p]'hp; exact getElem!_pos d p hp
  rw [e]
  rfl

theorem iter_others {w w' : World} (h : OthersKept 5 none w w') : IterKept w w' := fun j s q hj => h j _ hj (by simp) (fun _ _ e => by cases e)
theorem string_others {w w' : World} {b : Nat} {v : Value} (h : OthersKept 5 none w w') (h1 : w.heap[b]? = some (.cells #[v] 9 (0, 0))) : w'.heap[b]? = some (.cells #[v] 9 (0, 0)) := h b _ h1 (by simp) (fun _ _ e => by cases e)
theorem slice_others {w w' : World} {b : Nat} {v : Value} (h : OthersKept 5 none w w') (h1 : w.heap[b]? = some (.cells #[v] 60 (0, 0))) : w'.heap[b]? = some (.cells #[v] 60 (0, 0)) := h b _ h1 (by simp) (fun _ _ e => by cases e)

/-- The store behind the call. -/
theorem show_stored {s : ByteArray} {B Lo Ls : Nat} {l : List Nat} {p : Nat} {w w0 w1 : World} {v v1 : Value} (h : Shows s B Lo Ls l w) (hb0 : Below w.heap.size w w0) (hk0 : IterKept w w0) (h1 : w.heap[Lo]? = some (.cells #[v] 60 (0, 0)))
    (hown1 : w1.ownsRow B 5 1 v1 ((outL s l).length + (shownL s p).length) (byteCells (outL s l) ++ byteCells (shownL s p))) (hb1 : Below B w0 w1) (hk1 : OthersKept 5 none w0 w1) :
    w1.cell? ⟨Lo, 0, none⟩ = some v ∧ w1.frozen? ⟨Lo, 0, none⟩ = false ∧ StepPost s B (Shows s B Lo Ls) l p w (.returned (.tuple #[])) (w1.setCell ⟨Lo, 0, none⟩ v1) := by
  obtain ⟨⟨hBL, hG, hne⟩, hT, hs, v', h1', h2, h3⟩ := h
  have e1 := slice_others hk1 ((hb0.block Lo (lt_of_block h1)).trans h1)
  have e2 := string_others hk1 ((hb0.block Ls (lt_of_block hs)).trans hs)
  have hsz := lt_of_block h1
  have hob : v1.ownBlock ≠ some Lo := by
    intro e
    rcases hown1.2 with ⟨rfl, _⟩ | ⟨g, cap, cur, rfl, _, hh, _⟩
    · simp [Value.ownBlock] at e
    · simp [Value.ownBlock] at e
      subst e
      rw [e1] at hh; cases hh
  have hB1 : Below B w w1 := (hb0.mono (B' := B) (by omega)).trans hb1
  have hB2 : Below B w (w1.setCell ⟨Lo, 0, none⟩ v1) := hB1.setCell hBL _
  have hT2 : Tabs2 (w1.setCell ⟨Lo, 0, none⟩ v1) := hT.below hG hB2
  have hI2 : IterKept w (w1.setCell ⟨Lo, 0, none⟩ v1) := (hk0.trans (iter_others hk1)).trans (iter_setCell e1 _ _)
  refine ⟨cell_of_one e1, free_of_one e1, rfl, ⟨⟨hBL, hG, hne⟩, hT2, ?_, v1, one_setCell e1, ?_, hob⟩, hB2, hI2⟩
  · rw [Below.heap_setCell _ _ _ _ hne]; exact e2
  · rw [outL_snoc, byteCells_append, List.length_append]
    exact ownsRow_setCell_other hown1 (a := ⟨Lo, 0, none⟩) hob _

/-- The contract at that call. -/
theorem put_here {B n : Nat} {v : Value} {xs : List Value} {s : ByteArray} {p : Nat} {w w0 : World} {Q : Ending → World → Prop} (hown : w.ownsRow B 5 1 v n xs) (hb0 : Below w.heap.size w w0) (hn : n ≤ 536870912) (hB : B ≤ w.heap.size) (hT : Tabs2 w) (hG : GB B)
    (hQ : ∀ v1 w1, w1.ownsRow B 5 1 v1 (n + (shownL s p).length) (xs ++ byteCells (shownL s p)) → Below B w0 w1 → OthersKept 5 none w0 w1 → Q (.returned v1) w1) :
    Calls Tryd.prog 43 #[v, .agg #[.int .i32 (dR s p), .int .i64 p, .int .i64 (dW s p), .bool (brk s p)], .int .u8 (s.get! p).toNat] w0 Q := by
  refine (put_any B n v xs s p w0 (own_below hown hb0) hn (by have := hb0.size; omega) (hT.next hb0) hG).mono ?_
  rintro e w1 ⟨v1, rfl, h1, h2, h3⟩
  exact hQ v1 w1 h1 h2 h3

theorem show_call {s : ByteArray} {B Lo Ls : Nat} {l : List Nat} {p : Nat} {w w0 : World} {v : Value} {Q : Ending → World → Prop} (h : Hid (Shows s B Lo Ls l w)) (hb0 : Below w.heap.size w w0) (h1 : Hid (w.heap[Lo]? = some (.cells #[v] 60 (0, 0)))) (h2 : Hid (w.ownsRow B 5 1 v (outL s l).length (byteCells (outL s l)))) (hn : (outL s l).length ≤ 536870912)
    (hQ : ∀ o1 N c1 w1, w1.cell? ⟨Lo, 0, none⟩ = some v → w1.frozen? ⟨Lo, 0, none⟩ = false → Hid (StepPost s B (Shows s B Lo Ls) l p w (.returned (.tuple #[])) (w1.setCell ⟨Lo, 0, none⟩ (.slice o1 N c1))) → Q (.returned (.slice o1 N c1)) w1) :
    Calls Tryd.prog 43 #[v, .agg #[.int .i32 (dR s p), .int .i64 p, .int .i64 (dW s p), .bool (brk s p)], .int .u8 (s.get! p).toNat] w0 Q := by
  have hSh := h.out
  have hlt := lt_of_block h1.out
  refine put_here (B := B) (w := w) h2.out hb0 hn (by have := hSh.1.1; omega) hSh.2.1 hSh.1.2.1 ?_
  intro v1 w1 hown1 hb1 hk1
  obtain ⟨hcc, hff, hfin⟩ := show_stored hSh hb0 (iter_below hb0) h1.out hown1 hb1 hk1
  obtain ⟨o1, c1, rfl⟩ := own_shape hown1
  exact hQ o1 _ c1 w1 hcc hff (Lib.hid hfin)

set_option maxRecDepth 100000 in
set_option maxHeartbeats 400000 in
theorem show_step (s : ByteArray) (B Lo Ls : Nat) (hs : s.size ≤ 65536) (l : List Nat) (p : Nat) (w : World) (h : Shows s B Lo Ls l w) (hp : p < s.size) (hl : l.length < s.size) :
    Calls Tryd.prog 42 #[pieceV s p, .pointer (some ⟨Lo, 0, none⟩), .pointer (some ⟨Ls, 0, none⟩)] w (StepPost s B (Shows s B Lo Ls) l p w) := by
  have HSh := Lib.hid h
  obtain ⟨⟨hBL, hG, hne⟩, hT, h0, v, h1, h2, h3⟩ := h
  have hL1 := lt_of_block h1
  have hL0 := lt_of_block h0
  have hc1 := cell_of_one h1
  have hc0 := cell_of_one h0
  have hlen := outL_length s l
  obtain ⟨O, hO⟩ : ∃ O, O = Obj.cells #[.int .i32 (dR s p), .int .i64 p, .int .i64 (dW s p), .bool (brk s p)] 85 := ⟨_, rfl⟩
  have hd1 : (w.alloc O).cell? ⟨Lo, 0, none⟩ = some v := by
    rw [(((Below.refl w.heap.size w).alloc (Nat.le_refl _) _).cell (p := ⟨Lo, 0, none⟩) hL1)]; exact hc1
  have hd0 : (w.alloc O).cell? ⟨Ls, 0, none⟩ = some (.string s) := by
    rw [(((Below.refl w.heap.size w).alloc (Nat.le_refl _) _).cell (p := ⟨Ls, 0, none⟩) hL0)]; exact hc0
  have hgr := get_run s p hp
  rw [hO] at hd0 hd1
  have H0 := Lib.hid h0; have H1 := Lib.hid h1; have H3 := Lib.hid h3; have HT := Lib.hid hT; have HG := Lib.hid hG
  have H2 := Lib.hid h2
  obtain ⟨o, c, rfl⟩ := own_shape h2
  clear h0 h1 h2 h3 hc1 hc0 hT hG hO
  have hpv : Hid (pieceV s p = .agg #[.int .i32 (dR s p), .int .i64 p, .int .i64 (dW s p), .bool (brk s p)]) := rfl
  unfold pieceV
  go_enter Tryd.func42, Tryd.ntmps42
  go_wp2_with fail
  obtain ⟨W1, hW1⟩ : ∃ W1, W1 = w.alloc (.cells #[.int .i32 (dR s p), .int .i64 p, .int .i64 (dW s p), .bool (brk s p)] 85) := ⟨_, rfl⟩
  rw [← hW1] at hd0 hd1 ⊢
  have hW : Below w.heap.size w W1 := by rw [hW1]; exact (Below.refl _ _).alloc (Nat.le_refl _) _
  have k0 : W1.cell? ⟨w.heap.size, 0, none⟩ = some (.int .i32 (dR s p)) := by rw [hW1]; simp
  have k1 : W1.cell? ⟨w.heap.size, 1, none⟩ = some (.int .i64 p) := by rw [hW1]; simp
  have k2 : W1.cell? ⟨w.heap.size, 2, none⟩ = some (.int .i64 (dW s p)) := by rw [hW1]; simp
  have k3 : W1.cell? ⟨w.heap.size, 3, none⟩ = some (.bool (brk s p)) := by rw [hW1]; simp
  have HW := Lib.hid hW.drew
  clear hW1 hW
  go_still_tail 6, (by kernel_rfl)
  change wpList _ _ _ _ _ W1.drew
  go_wp2_with (go_at_call 43; refine show_call HSh HW.out H1 H2 (by omega) ?_; intro o1 N c1 w1 hcc hff HFin)
  go_end0
  exact HFin.out

set_option maxHeartbeats 1000000 in
theorem quoted_any (s : ByteArray) (w : World) (hs : s.size ≤ 65536) (hT : Tabs2 w) : Calls Tryd.prog 24 #[.string s] w fun e w' => e = .returned (.string (strOf (quoteL s))) ∧ Below w.heap.size w w' := by
  obtain ⟨i0, hi, hz0, hz1, hz2⟩ := info_parts byte_info
  have HT := Lib.hid hT
  have q1 : IntKind.i64.wrap ((s.size : Int) + 2) = (s.size : Int) + 2 := by rw [IntKind.wrap_i64]; omega
  clear hT
  go_enter Tryd.func24, Tryd.ntmps24
  go_wp2_with (at_make; refine wpList_make_own _ rfl _ _ 60 rfl w.heap.size 5 i0 _ 1 Tryd.underlying60 hi hz0 hz1 .i64 .i64 _ (s.size + 2) rfl rfl (by simp) ?c1 ?c2 ?c3 ?_)
  case c1 => rw [hz2]; omega
  case c2 => unfold maxLen; omega
  case c3 => simp
  intro w2 hown2 hgrow2
  have hW1 : Below w.heap.size w (w.alloc (.cells #[.string s] 9)) := (Below.refl _ _).alloc (Nat.le_refl _) _
  have hb2 : Below w.heap.size w w2 := hW1.grown hgrow2 (by simp) (fun k hk => by cases hk)
  have hsz2 := hb2.size
  have hlt2 : w.heap.size + 1 < w2.heap.size := by
    have := (hown2.lt (w.heap.size + 1) (by simp [Value.ownBlock])).2
    exact this
  have hLs2 : w2.heap[w.heap.size]? = some (.cells #[.string s] 9 (0, 0)) := by
    rw [hgrow2.block w.heap.size (by simp) (by simp)]
    exact alloc_new _ _
  have H2 := Lib.hid hown2; have HB2 := Lib.hid hb2; have HL2 := Lib.hid hLs2
  clear hown2 hgrow2 hb2 hLs2 hW1
  go_wp2_with (at_builtin; refine wpList_append_own _ rfl (.tmp 9) (.tmp 10) 60 rfl w.heap.size 5 i0 (.int .u8 0) 1 1 Tryd.underlying60 hi hz0 hz1 hz2 rfl (by decide) _ 0 [] rfl ((H2.out.alloc _).alloc _) ⟨w2.heap.size + 1, 0, none⟩ _ _ (byteCells [34]) rfl ?_ ?_ (byteCells_one _) ?_ ?_ ?_ ?_)
  · rfl
  · exact cells_lit1 w2 _ (byteCells [34]) _
  · unfold maxLen; omega
  · omega
  · simp; omega
  intro v3 w3 hown3 hgrow3 hnil3
  have hf : w3.cell? ⟨w2.heap.size, 0, none⟩ = some (.slice (some ⟨w.heap.size + 1, 0, none⟩) 0 (s.size + 2)) ∧ w3.frozen? ⟨w2.heap.size, 0, none⟩ = false ∧ Shows s w.heap.size w2.heap.size w.heap.size [] (w3.setCell ⟨w2.heap.size, 0, none⟩ v3) ∧ Below w.heap.size w (w3.setCell ⟨w2.heap.size, 0, none⟩ v3) := by
    have hbb : Below w2.heap.size w2 ((w2.alloc (.cells #[.slice (some ⟨w.heap.size + 1, 0, none⟩) 0 (s.size + 2)] 60)).alloc (.cells (byteCells [34]).toArray 5)) := ((Below.refl _ _).alloc (Nat.le_refl _) _).alloc (by simp) _
    have e1 : w3.heap[w2.heap.size]? = some (.cells #[.slice (some ⟨w.heap.size + 1, 0, none⟩) 0 (s.size + 2)] 60 (0, 0)) := by
      rw [hgrow3.block w2.heap.size (by simp; omega) (by simp [Value.ownBlock]; omega)]
      rw [Below.heap_alloc _ _ _ (by simp)]
      exact alloc_new _ _
    have e2 : w3.heap[w.heap.size]? = some (.cells #[.string s] 9 (0, 0)) := by
      rw [hgrow3.block w.heap.size (by simp; omega) (by simp [Value.ownBlock])]
      rw [Below.heap_alloc _ _ _ (by simp; omega), Below.heap_alloc _ _ _ (by omega)]
      exact HL2.out
    have hb3 : Below w.heap.size w w3 := ((HB2.out.alloc (by omega) _).alloc (by simp; omega) _).grown hgrow3 (by simp; omega) (fun k hk => by simp [Value.ownBlock] at hk; omega)
    have hob : v3.ownBlock ≠ some w2.heap.size := by
      intro e
      rcases hown3.2 with ⟨rfl, _⟩ | ⟨g, cap, cur, rfl, _, hh, _⟩
      · simp [Value.ownBlock] at e
      · simp [Value.ownBlock] at e
        subst e
        rw [e1] at hh; cases hh
    have hb4 : Below w.heap.size w (w3.setCell ⟨w2.heap.size, 0, none⟩ v3) := hb3.setCell (by show w.heap.size ≤ w2.heap.size; omega) _
    refine ⟨cell_of_one e1, free_of_one e1, ⟨⟨by omega, HT.out.gb, by omega⟩, HT.out.next hb4, ?_, v3, one_setCell e1, ?_, hob⟩, hb4⟩
    · rw [Below.heap_setCell _ _ _ _ (by show w.heap.size ≠ w2.heap.size; omega)]; exact e2
    · exact ownsRow_setCell_other hown3 (a := ⟨w2.heap.size, 0, none⟩) hob _
  obtain ⟨hc3, hf3, hsh3, hb3⟩ := hf
  have hs3 : (w3.setCell ⟨w2.heap.size, 0, none⟩ v3).cell? ⟨w.heap.size, 0, none⟩ = some (.string s) := cell_of_one hsh3.2.2.1
  obtain ⟨o3, c3, rfl⟩ := own_shape hown3
  have HSh3 := Lib.hid hsh3; have HB3 := Lib.hid hb3
  clear hown3 hgrow3 hnil3 hsh3 hb3
  go_wp2_with fail
  refine (walk_quoted s _ _ w.heap.size (Shows s w.heap.size w2.heap.size w.heap.size) _ (HT.out.next HB3.out).1 HT.out.1.2 HB3.out.size (by omega) Shows.new Shows.iter (show_step s w.heap.size w2.heap.size w.heap.size hs) HSh3.out).mono ?_
  rintro e w5 ⟨rfl, hg5, hb5⟩
  obtain ⟨_, hT5, _, v5, h1, h2, h3⟩ := hg5
  have hk := cell_of_one h1
  have hlen := outL_length s (starts s)
  have hst : (starts s).length ≤ s.size := by simpa [starts] using startsF_le s s.size 0
  have hb6 : Below w.heap.size w w5 := HB3.out.trans hb5
  have hz5 := hb6.size
  obtain ⟨o5, c5, rfl⟩ := own_shape h2
  have H5 := Lib.hid h2; have HB5 := Lib.hid hb6
  clear h1 h2 h3 hb5 hT5 hb6
  go_wp2_with (at_builtin; refine wpList_append_own _ rfl (.tmp 16) (.tmp 17) 60 rfl w.heap.size 5 i0 (.int .u8 0) 1 1 Tryd.underlying60 hi hz0 hz1 hz2 rfl (by decide) _ _ _ rfl (H5.out.alloc _) ⟨w5.heap.size, 0, none⟩ _ _ (byteCells [34]) rfl ?_ ?_ (byteCells_one _) ?_ ?_ ?_ ?_)
  · rfl
  · exact cells_lit w5 (byteCells [34]) _
  · unfold maxLen; omega
  · omega
  · simp; omega
  intro v6 w6 hown6 hgrow6 hnil6
  rw [← byteCells_append] at hown6
  have hcv := conv_own hown6 (by rw [List.length_append]; rfl)
  have hfin : Below w.heap.size w w6 := (HB5.out.alloc (by omega) _).grown hgrow6 (by simp; omega) (fun k hk => (H5.out.lt k hk).1)
  have HF := Lib.hid hfin
  obtain ⟨o6, c6, rfl⟩ := own_shape hown6
  clear hown6 hgrow6 hnil6 hfin
  go_wp2_with fail
  go_ret
  exact ⟨rfl, HF.out⟩

def QuotePost (s : ByteArray) (w : World) (e : Ending) (w' : World) : Prop := e = .returned (.tuple #[.string (strOf (quoteL s)), .int .i64 0]) ∧ Below w.heap.size w w'
set_option maxHeartbeats 400000 in
theorem quote_any (s : ByteArray) (w : World) (hs : s.size ≤ 65536) (hT : Tabs2 w) : Calls Tryd.prog 7 #[.string s] w (QuotePost s w) := by
  have hc : ¬ (65536 : Int) < (s.size : Int) := by omega
  have HT := Lib.hid hT
  clear hT
  go_enter Tryd.func7, Tryd.ntmps7
  go_wp2_with fail
  refine (quoted_any s _ hs HT.out).mono ?_
  rintro e w1 ⟨rfl, hb⟩
  have HB := Lib.hid hb
  clear hb
  go_wp2_with fail
  go_ret2
  exact ⟨rfl, HB.out⟩
set_option maxHeartbeats 400000 in
theorem quote_long (s : ByteArray) (w : World) (hs : ¬ s.size ≤ 65536) : Calls Tryd.prog 7 #[.string s] w fun e w' => e = .returned (.tuple #[.string ByteArray.empty, .int .i64 3]) ∧ w = w' := by
  have hc : (65536 : Int) < (s.size : Int) := by omega
  go_enter Tryd.func7, Tryd.ntmps7
  go_wp2_with fail
  go_ret2
  exact ⟨rfl, rfl⟩
end Go.Proofs.YtmbekgfbnapelaaDoor
