/-
  WALKS OF THE PROGRAM's runes.Pieces, Len, Broken and their closures.
  PLAIN: how many pieces a text has.
  PLAIN LEAN: a rune's bytes, a list of runes as a text, a text mended. And the WALK of the document's answer cognateref01.one.
  WALK: runes.Text.
  PLAIN: a slice of bytes of the call's own.
  WALK: runes.walk with Broken's closure.
  WALK: cognateref01.weight.
  WALKS OF THE DOCUMENT's ANSWER: cognateref01.Less: two texts' pieces held against each other.
  WALKS: runes.Len, runes.Broken with its closure; cognateref01.Pieces, Len, Broken.
  WALK: runes.Back.
  WALKS OF THE DOCUMENT's ANSWER: cognateref01.Back, Text: runes put back, rune by rune.
  WALKS: runes.placeOf, strings.Clone, runes.Part.
  A CALL of pattern's reader under way: boxes of its own between w and hi; what is read since.
-/
import Derived.OneCell
import Derived.Lib.UnsafeStr
import Derived.Laws.Cover4
import Derived.Laws.IdiomStrings
import Derived.Laws.BytesArg
import Derived.Deep.RegionHeld3
import Derived.Test.YtmechinlaladiaaDoorZAP
import Derived.Test.YtmechinlaladiaaDoorZAO
import Derived.Test.YtmechinlaladiaaDoorZAN
namespace Go.Proofs.YtmechinlaladiaaDoor
open Go.RowKit Go.Lib
set_option linter.unusedVariables false

theorem own_iterAt {w : World} {B e size n k q : Nat} {v : Value} {xs : List Value} {s : ByteArray} (h : w.ownsRow B e size v n xs) (hk : w.heap[k]? = some (.stringIter s q)) (r : Nat) : (w.iterAt k s r).ownsRow B e size v n xs := by
  obtain ⟨h1, h2⟩ := h
  refine ⟨h1, ?_⟩
  rcases h2 with h2 | ⟨g, cap, cur, hv, hg, hh, rr⟩
  · exact Or.inl h2
  · have hne : g ≠ k := by intro e; subst e; rw [hk] at hh; cases hh
    exact Or.inr ⟨g, cap, cur, hv, hg, by rw [Lib.iterAt_other _ _ _ _ _ hne]; exact hh, rr⟩
theorem one_iterAt {w : World} {b k q : Nat} {v : Value} {t : TypeId} {s : ByteArray} (h : w.heap[b]? = some (.cells #[v] t (0, 0))) (hk : w.heap[k]? = some (.stringIter s q)) (r : Nat) : (w.iterAt k s r).heap[b]? = some (.cells #[v] t (0, 0)) := by
  have hne : b ≠ k := by intro e; subst e; rw [hk] at h; cases h
  rw [Lib.iterAt_other _ _ _ _ _ hne]; exact h
/-- A block that holds cells is none of a grown row's, if it isn't that row. -/
theorem iter_grown {w w' : World} {v : Value} {B e size n : Nat} {xs : List Value} (h : w.ownsRow B e size v n xs) (hg : w.grownBy w' v.ownBlock) : IterKept w w' := by
  intro j s q hj
  have hlt := lt_of_block hj
  rw [hg.block j hlt ?_]
  · exact hj
  · intro e
    rcases h.2 with ⟨rfl, _⟩ | ⟨g, cap, cur, rfl, _, hh, _⟩
    · simp [Value.ownBlock] at e
    · simp [Value.ownBlock] at e
      subst e
      rw [hh] at hj; cases hj
theorem iter_below {w w' : World} (h : Below w.heap.size w w') : IterKept w w' := fun j s q hj => (h.block j (lt_of_block hj)).trans hj
theorem IterKept.trans {a b c : World} (h : IterKept a b) (k : IterKept b c) : IterKept a c := fun j s q hj => k j s q (h j s q hj)
theorem iter_setCell {w : World} {b : Nat} {c : Array Value} {t : TypeId} {fz : Nat × Nat} (h : w.heap[b]? = some (.cells c t fz)) (u : Value) (o : Nat) : IterKept w (w.setCell ⟨b, o, none⟩ u) := by
  intro j s q hj
  have hne : j ≠ b := by intro e; subst e; rw [h] at hj; cases hj
  rw [Below.heap_setCell _ _ _ _ hne]; exact hj

theorem alloc_new (w : World) (o : Obj) : (w.alloc o).heap[w.heap.size]? = some o := (MapKept.heap_alloc w o).1
/-- WHAT THE GATHERING CLOSURE KEEPS: its variable (block L) holds a slice of its own, the pieces up to now. -/
def Gath (s : ByteArray) (B L : Nat) (l : List Nat) (w : World) : Prop :=
  B ≤ L ∧ ∃ v, w.heap[L]? = some (.cells #[v] 49 (0, 0)) ∧ w.ownsRow B 72 4 v l.length (pieceCs s l) ∧ v.ownBlock ≠ some L

theorem Gath.new {s : ByteArray} {B L : Nat} (l : List Nat) (w w' : World) (h : Gath s B L l w) (hb : Below w.heap.size w w') : Gath s B L l w' := by
  obtain ⟨h0, v, h1, h2, h3⟩ := h
  exact ⟨h0, v, (hb.block L (lt_of_block h1)).trans h1, own_below h2 hb, h3⟩
theorem Gath.iter {s : ByteArray} {B L : Nat} (l : List Nat) (w : World) (k q r : Nat) (h : Gath s B L l w) (hk : w.heap[k]? = some (.stringIter s q)) : Gath s B L l (w.iterAt k s r) := by
  obtain ⟨h0, v, h1, h2, h3⟩ := h
  exact ⟨h0, v, one_iterAt h1 hk r, own_iterAt h2 hk r, h3⟩

set_option maxHeartbeats 1000000 in
theorem gather_step (s : ByteArray) (B L : Nat) (hs : s.size ≤ 1073741824) (l : List Nat) (p : Nat) (w : World) (h : Gath s B L l w) (hp : p < s.size) (hl : l.length < s.size) :
    Calls Tryd.prog 29 #[pieceV s p, .pointer (some ⟨L, 0, none⟩)] w (StepPost s B (Gath s B L) l p w) := by
  obtain ⟨i0, hi, hz0, hz1, hz2⟩ := info_parts piece_info
  obtain ⟨hBL, v, h1, h2, h3⟩ := h
  have hLw := lt_of_block h1
  have hc1 := cell_of_one h1
  have hc2 : (w.alloc (.cells #[.int .i32 (dR s p), .int .i64 p, .int .i64 (dW s p), .bool (brk s p)] 72)).cell? ⟨L, 0, none⟩ = some v := by
    rw [(((Below.refl w.heap.size w).alloc (Nat.le_refl _) _).cell (p := ⟨L, 0, none⟩) hLw)]; exact hc1
  have H1 := Lib.hid h1; have H2 := Lib.hid h2; have H3 := Lib.hid h3
  obtain ⟨o, c, rfl⟩ := own_shape h2
  clear h1 h2 h3 hc1
  unfold pieceV
  go_enter Tryd.func29, Tryd.ntmps29
  have hs13 : (l.length + 1) * 32 ≤ 140737488355328 := by omega
  go_wp2_with (at_builtin; refine wpList_append_own _ rfl (.tmp 3) (.tmp 5) 49 rfl B 72 i0 (.agg #[.int .i32 0, .int .i64 0, .int .i64 0, .bool false]) 4 32 Tryd.underlying49 hi hz0 hz1 hz2 rfl (by decide) _ _ _ rfl ((H2.out.alloc _).alloc _) ⟨w.heap.size + 1, 0, none⟩ 1 1 (pieceC s p) rfl rfl ?c1 (cells_one s p) ?c3 hs13 ?c5 ?_)
  case c1 => exact cells_new (w.alloc _) s p _ _ (by simp)
  case c3 => unfold maxLen; omega
  case c5 => simp; omega
  intro v3 w3 hown3 hgrow3 hnil3
  have hobl := H3.out
  have hL3 : w3.heap[L]? = some (.cells #[.slice o l.length c] 49 (0, 0)) := by
    rw [hgrow3.block L (by simp; omega) (fun e => hobl e.symm)]
    rw [Below.heap_alloc _ _ _ (by simp; omega), Below.heap_alloc _ _ _ hLw]
    exact H1.out
  have hf3 := free_of_one hL3
  have hk3 := cell_of_one hL3
  have hob3 : v3.ownBlock ≠ some L := by
    intro e
    rcases hown3.2 with ⟨rfl, _⟩ | ⟨g, cap, cur, rfl, _, hh, _⟩
    · simp [Value.ownBlock] at e
    · simp [Value.ownBlock] at e
      subst e
      rw [hL3] at hh; cases hh
  have hkp : IterKept w w3 := (iter_below (((Below.refl _ w).alloc (Nat.le_refl _) _).alloc (by simp) _)).trans (iter_grown ((H2.out.alloc _).alloc _) hgrow3)
  have hbw : Below B w w3 := (((Below.refl B w).alloc (by omega) _).alloc (by simp; omega) _).grown hgrow3 (by simp; omega) (fun k hk => (H2.out.lt k hk).1)
  have hown4 : w3.ownsRow B 72 4 v3 (l ++ [p]).length (pieceCs s (l ++ [p])) := by
    rw [← pieceCs_snoc]; simpa using hown3
  obtain ⟨o3, c3, rfl⟩ := own_shape hown3
  have fin : StepPost s B (Gath s B L) l p w (.returned (.tuple #[])) (w3.setCell ⟨L, 0, none⟩ (.slice o3 (l.length + 1) c3)) :=
    ⟨rfl, ⟨hBL, _, one_setCell hL3, ownsRow_setCell_other hown4 (a := ⟨L, 0, none⟩) hob3 _, hob3⟩, hbw.setCell hBL _, hkp.trans (iter_setCell hL3 _ _)⟩
  have HFin := Lib.hid fin
  clear fin hown4 hbw hkp hob3 hL3 hobl hown3 hgrow3 hnil3 hc2
  go_wp2_with fail
  go_end0
  exact HFin.out

def PiecesPost (s : ByteArray) (w : World) (e : Ending) (w' : World) : Prop := ∃ v, e = .returned (.tuple #[v, .int .i64 0]) ∧ PiecesAt s w.heap.size w' v ∧ Below w.heap.size w w'

set_option maxHeartbeats 1000000 in
theorem pieces_any (s : ByteArray) (w : World) (hs : s.size ≤ 65536) (hT : Tabs w) :
    Calls Tryd.prog 14 #[.string s] w (PiecesPost s w) := by
  have hc : ¬ (65536 : Int) < (s.size : Int) := by omega
  have HT := Lib.hid hT
  clear hT
  go_enter Tryd.func14, Tryd.ntmps14
  go_wp2_with fail
  refine (Tryd.utf8_RuneCountInString s _ (by omega)).mono ?_
  rintro e w1 ⟨rfl, pos, rfl⟩
  have hct : runeCount s ≤ s.size := runeCount_le s
  obtain ⟨i0, hi, hz0, hz1, hz2⟩ := info_parts piece_info
  obtain ⟨w1, hw1⟩ : ∃ w1, w1 = w.iter s pos := ⟨_, rfl⟩
  have hb1 : Below w.heap.size w w1 := by rw [hw1]; exact (Below.refl _ _).alloc (Nat.le_refl _) _
  rw [← hw1]
  have HB1 := Lib.hid hb1
  clear hw1 hb1
  go_wp2_with (at_make; refine wpList_make_own _ rfl _ _ 49 rfl w.heap.size 72 i0 _ 4 Tryd.underlying49 hi hz0 hz1 .i64 .i64 (runeCount s) (runeCount s) rfl rfl rfl ?c1 ?c2 ?c3 ?_)
  case c1 => rw [hz2]; omega
  case c2 => unfold maxLen; omega
  case c3 => exact HB1.out.size
  intro w2 hown2 hgrow2
  have hs1 := HB1.out.size
  have hb2 : Below w.heap.size w w2 := HB1.out.grown hgrow2 hs1 (fun k hk => by cases hk)
  have hs2 := hb2.size
  have hlt : w1.heap.size < w2.heap.size := (hown2.lt w1.heap.size rfl).2
  have hg : Gath s w.heap.size w2.heap.size [] (w2.alloc (.cells #[.slice (some ⟨w1.heap.size, 0, none⟩) 0 (runeCount s)] 49)) :=
    ⟨hs2, _, alloc_new _ _, hown2.alloc _, by simp [Value.ownBlock]; omega⟩
  have hbv : Below w.heap.size w (w2.alloc (.cells #[.slice (some ⟨w1.heap.size, 0, none⟩) 0 (runeCount s)] 49)) := hb2.alloc hs2 _
  have HG := Lib.hid hg; have HBV := Lib.hid hbv
  clear hg hbv hb2 hown2 hgrow2
  go_wp2_with fail
  refine (walk_pieces s _ w.heap.size (Gath s w.heap.size w2.heap.size) _ (HT.out.next HBV.out) HT.out.2 (by simp; omega) (by omega) Gath.new Gath.iter (gather_step s w.heap.size w2.heap.size (by omega)) HG.out).mono ?_
  rintro e w3 ⟨rfl, hg3, hb3⟩
  obtain ⟨_, v, h1, h2, h3⟩ := hg3
  have hk := cell_of_one h1
  have hfin : PiecesPost s w (.returned (.tuple #[v, .int .i64 0])) w3 := ⟨v, rfl, h2, HBV.out.trans hb3⟩
  have HF := Lib.hid hfin
  obtain ⟨o, c, rfl⟩ := own_shape h2
  clear h1 h2 h3 hb3 hfin
  go_wp2_with fail
  go_ret2
  exact HF.out

set_option maxHeartbeats 400000 in
theorem pieces_long (s : ByteArray) (w : World) (hs : ¬ s.size ≤ 65536) :
    Calls Tryd.prog 14 #[.string s] w fun e w' => e = .returned (.tuple #[.slice none 0 0, .int .i64 3]) ∧ w = w' := by
  have hc : (65536 : Int) < (s.size : Int) := by omega
  go_enter Tryd.func14, Tryd.ntmps14
  go_wp2_with fail
  go_ret2
  exact ⟨rfl, rfl⟩
end Go.Proofs.YtmechinlaladiaaDoor
namespace Go.Proofs.YtmechinlaladiaaDoor
open Go.RowKit Go.Lib
set_option linter.unusedVariables false

/-! ### plain -/
theorem count_starts (s : ByteArray) : ∀ f p, runeCountFrom s f p = (startsF s f p).length
  | 0, _ => rfl
  | f + 1, p => by
    have ih := count_starts s f (p + dW s p)
    unfold runeCountFrom startsF
    split
    · rw [List.length_cons, ← ih]
      show 1 + runeCountFrom s f (p + (Utf8.decode s p).2) = _
      unfold dW
      omega
    · rfl
theorem runeCount_starts (s : ByteArray) : runeCount s = (starts s).length := count_starts s s.size 0

end Go.Proofs.YtmechinlaladiaaDoor
namespace Go.Proofs.YtmechinlaladiaaDoor
open Go.RowKit Go.Lib
set_option linter.unusedVariables false

def encL (r : Int) : List UInt8 := (Utf8.encode r).data.toList
def textL (ns : List Int) : List UInt8 := ns.flatMap encL
def strOf (l : List UInt8) : ByteArray := ⟨l.toArray⟩

theorem valid_of {r : Nat} (h0 : 0 ≤ r) (h1 : r ≤ 1114111) (h : r < 55296 ∨ 57344 ≤ r) : Utf8.valid (r : Int) = true := by
  rw [validRune_eq]
  exact decide_eq_true (by omega)
theorem encode_form (r : Int) (hv : Utf8.valid r = true) : Utf8.encode r = (if r.toNat < 128 then ⟨#[UInt8.ofNat r.toNat]⟩
    else if r.toNat < 2048 then ⟨#[UInt8.ofNat (192 + r.toNat / 64), UInt8.ofNat (128 + r.toNat % 64)]⟩
    else if r.toNat < 65536 then ⟨#[UInt8.ofNat (224 + r.toNat / 4096), UInt8.ofNat (128 + r.toNat / 64 % 64), UInt8.ofNat (128 + r.toNat % 64)]⟩
    else ⟨#[UInt8.ofNat (240 + r.toNat / 262144), UInt8.ofNat (128 + r.toNat / 4096 % 64), UInt8.ofNat (128 + r.toNat / 64 % 64), UInt8.ofNat (128 + r.toNat % 64)]⟩) := by
  unfold Utf8.encode
  simp only [hv, if_true]
theorem encL_of (r : Int) (b : ByteArray) (l : List UInt8) (h : Utf8.encode r = b) (hb : b.data.toList = l) : encL r = l := by
  have e : encL r = (Utf8.encode r).data.toList := rfl
  rw [e, h, hb]
theorem encode_1 (r : Nat) (h : r < 128) : encL r = [UInt8.ofNat r] := by
  have hv : Utf8.valid (r : Int) = true := valid_of (by omega) (by omega) (by omega)
  have e := encode_form r hv
  rw [Int.toNat_natCast, if_pos h] at e
  exact encL_of _ _ _ e rfl
theorem encode_2 (r : Nat) (h1 : 128 ≤ r) (h2 : r < 2048) : encL r = [UInt8.ofNat (192 + r / 64), UInt8.ofNat (128 + r % 64)] := by
  have hv : Utf8.valid (r : Int) = true := valid_of (by omega) (by omega) (by omega)
  have e := encode_form r hv
  rw [Int.toNat_natCast, if_neg (by omega), if_pos h2] at e
  exact encL_of _ _ _ e rfl
theorem encode_3 (r : Nat) (h1 : 2048 ≤ r) (h2 : r < 65536) (h3 : r < 55296 ∨ 57344 ≤ r) : encL r = [UInt8.ofNat (224 + r / 4096), UInt8.ofNat (128 + r / 64 % 64), UInt8.ofNat (128 + r % 64)] := by
  have hv : Utf8.valid (r : Int) = true := valid_of (by omega) (by omega) (by omega)
  have e := encode_form r hv
  rw [Int.toNat_natCast, if_neg (by omega), if_neg (by omega), if_pos h2] at e
  exact encL_of _ _ _ e rfl
theorem encode_4 (r : Nat) (h1 : 65536 ≤ r) (h2 : r ≤ 1114111) : encL r = [UInt8.ofNat (240 + r / 262144), UInt8.ofNat (128 + r / 4096 % 64), UInt8.ofNat (128 + r / 64 % 64), UInt8.ofNat (128 + r % 64)] := by
  have hv : Utf8.valid (r : Int) = true := valid_of (by omega) (by omega) (by omega)
  have e := encode_form r hv
  rw [Int.toNat_natCast, if_neg (by omega), if_neg (by omega), if_neg (by omega)] at e
  exact encL_of _ _ _ e rfl
theorem encode_bad (r : Int) (h : runeB r = false) : encL r = [239, 191, 189] := by
  have hv : Utf8.valid r = false := by
    have h' := of_decide_eq_false h
    rw [validRune_eq]
    exact decide_eq_false (by omega)
  have e : Utf8.encode r = Utf8.encode (65533 : Int) := by
    unfold Utf8.encode
    have h2 : Utf8.valid (65533 : Int) = true := by rw [validRune_eq]; exact decide_eq_true (by omega)
    rw [hv, h2]
    rfl
  have h3 := encode_3 65533 (by omega) (by omega) (by omega)
  exact encL_of _ _ _ e h3
theorem encL_length (r : Int) : 1 ≤ (encL r).length ∧ (encL r).length ≤ 4 := by
  unfold encL Utf8.encode
  simp only
  repeat' split
  all_goals simp
theorem u8_cell (n : Nat) (h : n < 256) : Value.int .u8 ((UInt8.ofNat n).toNat : Nat) = .int .u8 n := by
  rw [UInt8.toNat_ofNat_of_lt' h]

/-- A slice of bytes of the call's own, just these. -/
def BytesAt (l : List UInt8) (w' : World) (v : Value) (g : Nat) : Prop := v = .slice (some ⟨g, 0, none⟩) l.length l.length ∧ ∀ j u, (byteCells l)[j]? = some u → w'.cell? ((⟨g, 0, none⟩ : Addr).add j) = some u
def OnePost (l : List UInt8) (w : World) (e : Ending) (w' : World) : Prop := ∃ v g, e = .returned v ∧ BytesAt l w' v g ∧ w.heap.size ≤ g ∧ Below w.heap.size w w'

theorem cells_lit (w : World) (l : List Value) (t : TypeId) : ∀ j u, l[j]? = some u → (w.alloc (.cells l.toArray t)).cell? ((⟨w.heap.size, 0, none⟩ : Addr).add j) = some u := by
  intro j u hj
  rw [Addr.add_lit, Nat.zero_add, World.cell?_alloc_mark]
  simpa using hj

end Go.Proofs.YtmechinlaladiaaDoor
namespace Go.Proofs.YtmechinlaladiaaDoor
open Go.RowKit Go.Lib
set_option linter.unusedVariables false

/-! ### plain -/
def runesL (s : ByteArray) : List Int := (starts s).map fun p => (dR s p : Int)
def backL (s : ByteArray) : List UInt8 := textL (runesL s)
theorem runesFrom_starts (s : ByteArray) : ∀ f p (acc : Array Value), Conv.runesFrom s f p acc = acc ++ ((startsF s f p).map fun p => Value.int .i32 (dR s p)).toArray
  | 0, _, acc => by simp [Conv.runesFrom, startsF]
  | f + 1, p, acc => by
    unfold Conv.runesFrom startsF
    split
    · have ih := runesFrom_starts s f (p + dW s p) (acc.push (.int .i32 (dR s p)))
      show Conv.runesFrom s f (p + (Utf8.decode s p).2) (acc.push (.int .i32 (Int.ofNat (Utf8.decode s p).1))) = _
      refine Eq.trans ih ?_
      apply Array.ext'
      simp
    · simp
theorem runesFrom_all (s : ByteArray) : Conv.runesFrom s s.size 0 #[] = ((runesL s).map (Value.int .i32)).toArray := by
  rw [runesFrom_starts]
  unfold runesL starts
  simp
theorem runesL_length (s : ByteArray) : (runesL s).length = (starts s).length := by simp [runesL]
theorem foldl_runes : ∀ (ns : List Int) (b : ByteArray), ns.foldl (fun r n => r ++ Utf8.encode n) b = ⟨b.data ++ (textL ns).toArray⟩
  | [], b => by simp [textL]
  | n :: ns, b => by
    rw [List.foldl_cons, foldl_runes ns]
    congr 1
    apply Array.ext'
    simp [textL, encL]
theorem runesBytes_text (ns : List Int) : runesBytes ns = strOf (textL ns) := by
  unfold runesBytes strOf
  rw [foldl_runes]
  congr 1
  apply Array.ext'
  simp [ByteArray.empty, ByteArray.emptyWithCapacity]
  rfl
theorem textL_length (ns : List Int) : (textL ns).length ≤ 4 * ns.length := by
  induction ns with
  | nil => simp [textL]
  | cons n ns ih =>
    have := (encL_length n).2
    simp only [textL, List.flatMap_cons, List.length_append, List.length_cons] at ih ⊢
    omega
theorem textL_snoc (ns : List Int) (n : Int) : textL ns ++ encL n = textL (ns ++ [n]) := by simp [textL]
theorem byteCells_at (l : List UInt8) (j : Nat) (hj : j < l.length) : (byteCells l)[j]? = some (.int .u8 (l[j].toNat : Int)) := by simp [byteCells, hj]

section
variable {w : World}
/-- 'string(b)' of a slice of bytes that the call owns. -/
theorem conv_own {B n : Nat} {v : Value} {l : List UInt8} (h : w.ownsRow B 5 1 v n (byteCells l)) (hn : n = l.length) : (convert 99 9 v).run Tryd.prog w = .ok (.string (strOf l)) w := by
  subst hn
  rcases h.2 with ⟨rfl, h0⟩ | ⟨g, cap, cur, rfl, hb, hg, hnc, hm, hsz, htk⟩
  · have : l = [] := List.eq_nil_of_length_eq_zero h0
    subst this
    exact run_convert_bytes_nil w 99 5 Tryd.underlying99 Tryd.underlying5 0 0 9 Tryd.underlying9
  · refine run_convert_bytes_back w 99 9 5 ⟨g, 0, none⟩ cap l Tryd.underlying99 Tryd.underlying5 Tryd.underlying9 ?_
    intro j hj
    rw [Addr.add_lit, Nat.zero_add, h.cellAt j (by omega), byteCells_at l j hj]
end

/-! ### the program's Text, Back -/
theorem conv_runes (w : World) (a : Addr) (n c : Nat) (ns : List Int) (hn : ns.length = n) (hc : ∀ j v, (ns.map (Value.int .i32))[j]? = some v → w.cell? (a.add j) = some v) :
    (convert 46 9 (.slice (some a) n c)).run Tryd.prog w = .ok (.string (strOf (textL ns))) w := by
  rw [run_convert_runes_string w 46 9 21 (some a) n c Tryd.underlying46 Tryd.underlying21 Tryd.underlying9, ← runesBytes_text]
  have hl := run_loadCells_list (P := Tryd.prog) w a (ns.map (Value.int .i32)) hc
  rw [List.length_map, hn] at hl
  exact run_runesToString w a n c ns hl
theorem conv_runes_nil (w : World) (n c : Nat) : (convert 46 9 (.slice none n c)).run Tryd.prog w = .ok (.string (strOf (textL []))) w := by
  rw [run_convert_runes_string w 46 9 21 none n c Tryd.underlying46 Tryd.underlying21 Tryd.underlying9]
  simp [Conv.runesToString, Sem.run_pure]
  rfl

end Go.Proofs.YtmechinlaladiaaDoor
namespace Go.Proofs.YtmechinlaladiaaDoor
open Go.RowKit Go.Lib
set_option linter.unusedVariables false

theorem byte_info : (Tryd.prog.info? 5).map (fun i => (i.zero, i.size, i.bytes)) = some (some (.int .u8 0), 1, 1) := by kernel_rfl
theorem byteCells_one (l : List UInt8) : ∀ u ∈ byteCells l, u.oneCell' = true := by
  intro u hu
  simp only [byteCells, List.mem_map] at hu
  obtain ⟨b, _, rfl⟩ := hu
  rfl

/-- A slice of bytes of the call's own. -/
def OutAt (B : Nat) (l : List UInt8) (w : World) (v : Value) : Prop := w.ownsRow B 5 1 v l.length (byteCells l)
theorem OutAt.conv {B : Nat} {l : List UInt8} {w : World} {v : Value} (h : OutAt B l w v) : (convert 99 9 v).run Tryd.prog w = .ok (.string (strOf l)) w := conv_own h rfl
theorem take_snoc_text (ns : List Int) (i : Nat) (n : Int) (h : ns[i]? = some n) : textL (ns.take i) ++ encL n = textL (ns.take (i + 1)) := by
  obtain ⟨h1, rfl⟩ := List.getElem?_eq_some_iff.1 h
  rw [textL_snoc, List.take_succ_eq_append_getElem h1]
theorem textL_take_le (ns : List Int) (i : Nat) : (textL (ns.take i)).length ≤ 4 * i := by
  have := textL_length (ns.take i)
  have h2 : (ns.take i).length ≤ i := List.length_take_le _ _
  omega

theorem ret_s {a b : ByteArray} {v : Value} (h : a = b) : Ending.returned (.tuple #[.string a, v]) = .returned (.tuple #[.string b, v]) := by rw [h]
def BackPost (s : ByteArray) (w : World) (e : Ending) (w' : World) : Prop := e = .returned (.tuple #[.string (strOf (backL s)), .int .i64 0]) ∧ Below w.heap.size w w'

theorem runesL_at (s : ByteArray) (i p : Nat) (h : (starts s)[i]? = some p) : (runesL s)[i]? = some (dR s p : Int) := by simp [runesL, h]

/-- Rows of two kinds of elements are two blocks. -/
theorem own_apart {w : World} {B B' e e' size size' n n' : Nat} {v v' : Value} {xs xs' : List Value} (h : w.ownsRow B e size v n xs) (h' : w.ownsRow B' e' size' v' n' xs') (hne : e ≠ e') : v'.ownBlock = none ∨ v'.ownBlock ≠ v.ownBlock := by
  rcases h'.2 with ⟨rfl, _⟩ | ⟨g', c', cur', rfl, _, hg', _⟩
  · exact .inl rfl
  · rcases h.2 with ⟨rfl, _⟩ | ⟨g, c, cur, rfl, _, hg, _⟩
    · exact .inr (by simp [Value.ownBlock])
    · refine .inr ?_
      simp only [Value.ownBlock, ne_eq, Option.some.injEq]
      intro e
      subst e
      rw [hg] at hg'
      simp only [Option.some.injEq, Obj.cells.injEq] at hg'
      exact hne hg'.2.1

end Go.Proofs.YtmechinlaladiaaDoor
namespace Go.Proofs.YtmechinlaladiaaDoor
open Go.RowKit Go.Lib
set_option linter.unusedVariables false

end Go.Proofs.YtmechinlaladiaaDoor
namespace Go.Proofs.YtmechinlaladiaaDoor
open Go.RowKit

end Go.Proofs.YtmechinlaladiaaDoor
namespace Go.Proofs.YtmechinlaladiaaDoor
open Go.RowKit Go.Lib
set_option linter.unusedVariables false


theorem lessL_end1 (s t : ByteArray) (l m : List Nat) (i : Nat) (h1 : i ≤ l.length) (h2 : i ≤ m.length) (h : ¬ (i < l.length ∧ i < m.length)) : lessL s t (l.drop i) (m.drop i) = decide (l.length < m.length) := by
  rcases Nat.lt_or_ge i l.length with hl | hl
  · have hm : m.length ≤ i := by omega
    rw [List.drop_eq_nil_of_le hm, List.drop_eq_getElem_cons hl]
    simp [lessL]; omega
  · rcases Nat.lt_or_ge i m.length with hm | hm
    · rw [List.drop_eq_nil_of_le hl, List.drop_eq_getElem_cons hm]
      simp [lessL]; omega
    · rw [List.drop_eq_nil_of_le hl, List.drop_eq_nil_of_le hm]
      simp [lessL]; omega
theorem lessL_same (s t : ByteArray) (l m : List Nat) (i p q : Nat) (hl : l[i]? = some p) (hm : m[i]? = some q) (h : wt s p = wt t q) : lessL s t (l.drop i) (m.drop i) = lessL s t (l.drop (i + 1)) (m.drop (i + 1)) := by
  obtain ⟨h1, rfl⟩ := List.getElem?_eq_some_iff.1 hl
  obtain ⟨h2, rfl⟩ := List.getElem?_eq_some_iff.1 hm
  rw [List.drop_eq_getElem_cons h1, List.drop_eq_getElem_cons h2]
  simp [lessL, h]
theorem lessL_ne (s t : ByteArray) (l m : List Nat) (i p q : Nat) (hl : l[i]? = some p) (hm : m[i]? = some q) (h : ¬ wt s p = wt t q) : lessL s t (l.drop i) (m.drop i) = decide (wt s p < wt t q) := by
  obtain ⟨h1, rfl⟩ := List.getElem?_eq_some_iff.1 hl
  obtain ⟨h2, rfl⟩ := List.getElem?_eq_some_iff.1 hm
  rw [List.drop_eq_getElem_cons h1, List.drop_eq_getElem_cons h2]
  simp [lessL, h]

def LessInv (a b : ByteArray) (B : Nat) (w wr : World) (x y : Value) (i : Nat) : Prop :=
  PiecesAt a B wr x ∧ PiecesAt b B wr y ∧ Below B w wr ∧ i ≤ (starts a).length ∧ i ≤ (starts b).length ∧ less a b = lessL a b ((starts a).drop i) ((starts b).drop i)

end Go.Proofs.YtmechinlaladiaaDoor
namespace Go.Proofs.YtmechinlaladiaaDoor
open Go.RowKit Go.Lib
set_option linter.unusedVariables false

def firstB (s : ByteArray) : List Nat → Int
  | [] => -1
  | p :: l => if brk s p then p else firstB s l
theorem firstB_ge (s : ByteArray) : ∀ l, -1 ≤ firstB s l
  | [] => by simp [firstB]
  | p :: l => by
    have := firstB_ge s l
    unfold firstB
    split <;> omega
theorem firstB_snoc_yes (s : ByteArray) (p : Nat) : ∀ l, firstB s l < 0 → brk s p = true → firstB s (l ++ [p]) = p
  | [], _, h => by simp [firstB, h]
  | q :: l, h, hp => by
    unfold firstB at h
    cases hq : brk s q with
    | true => rw [hq] at h; simp at h; omega
    | false =>
      rw [hq] at h
      have ih := firstB_snoc_yes s p l (by simpa using h) hp
      simp [firstB, hq, ih]
theorem firstB_snoc_no (s : ByteArray) (p : Nat) : ∀ l, (0 ≤ firstB s l ∨ brk s p = false) → firstB s (l ++ [p]) = firstB s l
  | [], h => by
    rcases h with h | h
    · simp [firstB] at h
    · simp [firstB, h]
  | q :: l, h => by
    cases hq : brk s q with
    | true => simp [firstB, hq]
    | false =>
      have ih := firstB_snoc_no s p l (by unfold firstB at h; rw [hq] at h; simpa using h)
      simp [firstB, hq, ih]
theorem firstB_drop_yes (s : ByteArray) (l : List Nat) (i p : Nat) (h : l[i]? = some p) (hp : brk s p = true) : firstB s (l.drop i) = p := by
  obtain ⟨h1, rfl⟩ := List.getElem?_eq_some_iff.1 h
  rw [List.drop_eq_getElem_cons h1]
  simp [firstB, hp]
theorem firstB_drop_no (s : ByteArray) (l : List Nat) (i p : Nat) (h : l[i]? = some p) (hp : brk s p = false) : firstB s (l.drop i) = firstB s (l.drop (i + 1)) := by
  obtain ⟨h1, rfl⟩ := List.getElem?_eq_some_iff.1 h
  rw [List.drop_eq_getElem_cons h1]
  simp [firstB, hp]
theorem firstB_le (s : ByteArray) : ∀ l : List Nat, (∀ p ∈ l, p < s.size) → firstB s l ≤ s.size
  | [], _ => by simp [firstB]
  | p :: l, h => by
    have := firstB_le s l (fun q hq => h q (by simp [hq]))
    have := h p (by simp)
    unfold firstB
    split <;> omega

theorem ret_t {k : IntKind} {a b : Int} {v : Value} (h : a = b) : Ending.returned (.tuple #[.int k a, v]) = .returned (.tuple #[.int k b, v]) := by rw [h]

/-! ### Len -/
/-! ### Broken -/
def BrkInv (s : ByteArray) (B L : Nat) (l : List Nat) (w : World) : Prop := B ≤ L ∧ w.heap[L]? = some (.cells #[.int .i64 (firstB s l)] 3 (0, 0))
theorem BrkInv.new {s : ByteArray} {B L : Nat} (l : List Nat) (w w' : World) (h : BrkInv s B L l w) (hb : Below w.heap.size w w') : BrkInv s B L l w' :=
  ⟨h.1, (hb.block L (lt_of_block h.2)).trans h.2⟩
theorem BrkInv.iter {s : ByteArray} {B L : Nat} (l : List Nat) (w : World) (k q r : Nat) (h : BrkInv s B L l w) (hk : w.heap[k]? = some (.stringIter s q)) : BrkInv s B L l (w.iterAt k s r) :=
  ⟨h.1, one_iterAt h.2 hk r⟩

/-! ### the document's answer -/
end Go.Proofs.YtmechinlaladiaaDoor
namespace Go.Proofs.YtmechinlaladiaaDoor
open Go.RowKit Go.Lib
set_option linter.unusedVariables false

end Go.Proofs.YtmechinlaladiaaDoor
namespace Go.Proofs.YtmechinlaladiaaDoor
open Go.RowKit Go.Lib
set_option linter.unusedVariables false

end Go.Proofs.YtmechinlaladiaaDoor
namespace Go.Proofs.YtmechinlaladiaaDoor
open Go.RowKit Go.Lib
set_option linter.unusedVariables false

/-! ### plain: where the piece with a number begins -/
def place (s : ByteArray) (n : Nat) : Nat := ((starts s)[n]?).getD s.size
theorem startsF_next (s : ByteArray) : ∀ f p i x, s.size ≤ p + f → (startsF s f p)[i]? = some x → ((startsF s f p)[i + 1]?).getD s.size = x + dW s x
  | 0, p, i, x, _, h => by simp [startsF] at h
  | f + 1, p, i, x, hf, h => by
    by_cases hp : p < s.size
    · have hw := dW_pos s p
      have hfit := dW_fits s p hp
      rw [startsF_cons s (f + 1) p hp hf] at h ⊢
      cases i with
      | zero =>
        simp at h
        subst h
        simp only [Nat.add_sub_cancel, Nat.zero_add, List.getElem?_cons_succ]
        by_cases hq : p + dW s p < s.size
        · rw [startsF_cons s f _ hq (by omega)]
          simp
        · rw [startsF_end s f _ hq]
          simp
          omega
      | succ i =>
        simp only [Nat.add_sub_cancel, List.getElem?_cons_succ] at h ⊢
        exact startsF_next s f (p + dW s p) i x (by omega) h
    · rw [startsF_end s _ p hp] at h
      simp at h
theorem place_at (s : ByteArray) (i : Nat) (h : i < (starts s).length) : (starts s)[i]? = some (place s i) := by
  simp [place, h]
theorem place_lt (s : ByteArray) (i : Nat) (h : i < (starts s).length) : place s i < s.size := startsF_mem s _ _ _ (List.mem_of_getElem? (place_at s i h))
theorem place_succ (s : ByteArray) (i : Nat) (h : i < (starts s).length) : place s (i + 1) = place s i + dW s (place s i) :=
  startsF_next s s.size 0 i (place s i) (by omega) (place_at s i h)
theorem place_out (s : ByteArray) (i : Nat) (h : (starts s).length ≤ i) : place s i = s.size := by simp [place, h]
theorem place_le (s : ByteArray) (i : Nat) : place s i ≤ s.size := by
  rcases Nat.lt_or_ge i (starts s).length with h | h
  · have := place_lt s i h; omega
  · have := place_out s i h; omega
theorem place_mono (s : ByteArray) (i : Nat) : ∀ d, place s i ≤ place s (i + d)
  | 0 => Nat.le_refl _
  | d + 1 => by
    have ih := place_mono s i d
    rcases Nat.lt_or_ge (i + d) (starts s).length with h | h
    · have := place_succ s (i + d) h
      rw [show i + (d + 1) = i + d + 1 by omega]
      omega
    · have := place_out s (i + (d + 1)) (by omega)
      have := place_le s i
      omega
theorem place_zero (s : ByteArray) : place s 0 = 0 := by
  by_cases h : 0 < s.size
  · have : starts s = 0 :: startsF s (s.size - 1) (0 + dW s 0) := startsF_cons s s.size 0 h (show s.size ≤ 0 + s.size by omega)
    simp [place, this]
  · have : starts s = [] := startsF_end s _ _ h
    rw [place_out s 0 (by rw [this]; simp)]; omega
theorem place_split {s : ByteArray} {l : List Nat} {f pos : Nat} (h : starts s = l ++ startsF s f pos) (hp : pos < s.size) (hf : s.size ≤ pos + f) : place s l.length = pos := by
  rw [startsF_cons s f pos hp hf] at h
  simp [place, h]

/-! ### placeOf -/
def PlRel (s : ByteArray) (w wr : World) (pos f : Nat) (l : List Nat) : Prop :=
  wr.heap[w.heap.size]? = some (.stringIter s pos) ∧ Below w.heap.size w wr ∧ s.size ≤ pos + f ∧ starts s = l ++ startsF s f pos
/-! ### Part -/
theorem size_cut (s : ByteArray) (a b : Nat) : (s.extract a b).size ≤ s.size := by simp; omega
end Go.Proofs.YtmechinlaladiaaDoor
namespace Go.Proofs.YtmechinlaladiaaDoor
open Go.RowKit Go.Lib
set_option linter.unusedVariables false

structure RdS (C : RdC) (b : Nat) (v : Value) (ms : List NdM) (w : World) (hi : Nat) (v' : Value) (ms' : List NdM) (W : World) : Prop where
  at_ : RdAt C b v' W
  n : RdN C v' (ms ++ ms') W
  frk : ∀ m ∈ ms', FrK hi m W
  but : But (fun k => k = C.RB ∨ v.ownBlock = some k) w W
  vat : v'.ownBlock = v.ownBlock ∨ ∃ b, v'.ownBlock = some b ∧ hi ≤ b
  lo1 : C.N ≤ w.heap.size
  loF : ∀ k, C.F k → k < w.heap.size
  lov : ∀ k, v.ownBlock = some k → k < w.heap.size
  lok : ∀ m ∈ ms, 0 < m.nd.ks.length → m.bk < w.heap.size
  hi0 : w.heap.size ≤ hi
  hiW : hi ≤ W.heap.size
theorem RdS.start {C : RdC} (ok : C.Ok) {a : Nat} {v : Value} {ms : List NdM} {w W : World} (h : RdAt C a v w) (hn : RdN C v ms w) (hb : Below w.heap.size w W) {hi : Nat} (h1 : w.heap.size ≤ hi) (h2 : hi ≤ W.heap.size) : RdS C a v ms w hi v [] W := by
  refine ⟨h.next ok hb, by rw [List.append_nil]; exact hn.next hb, fun m hm => absurd hm (by simp), But.of_below hb, Or.inl rfl, ?_, ?_, fun k hk => (hn.out.own.lt k hk).2, fun m hm h0 => (hn.out.kids m hm).lt h0, h1, h2⟩
  · have := h.below.size; rw [ok.hN] at this; exact this
  · have h3 := blk_of_cell h.cN; have h4 := blk_of_cell h.cP; have h5 := h.rlt
    intro k f
    rcases f with f | f | f <;> omega
theorem RdS.next {C : RdC} (ok : C.Ok) {b : Nat} {v : Value} {ms : List NdM} {w : World} {hi : Nat} {v' : Value} {ms' : List NdM} {W W' : World} (h : RdS C b v ms w hi v' ms' W) (hb : Below W.heap.size W W') : RdS C b v ms w hi v' ms' W' :=
  ⟨h.at_.next ok hb, h.n.next hb, fun m hm => (h.frk m hm).keep (But.of_below (X := fun _ => False) hb) (fun _ e => e), h.but.trans (But.of_below (X := fun _ => False) hb) (fun _ _ e => e.elim), h.vat, h.lo1, h.loF, h.lov, h.lok, h.hi0, Nat.le_trans h.hiW hb.size⟩
/-- A box of the call's own is written. -/
theorem RdS.loc {C : RdC} (ok : C.Ok) {b : Nat} {v : Value} {ms : List NdM} {w : World} {hi : Nat} {v' : Value} {ms' : List NdM} {W W' : World} {X : Nat → Prop} (h : RdS C b v ms w hi v' ms' W) (hb : But X W W') (hx : ∀ k, X k → w.heap.size ≤ k ∧ k < hi) : RdS C b v ms w hi v' ms' W' := by
  have hv : ∀ k, v'.ownBlock = some k → ¬ X k := fun k hk e => by
    have := hx k e
    rcases h.vat with e2 | ⟨b', e2, hb'⟩
    · have := h.lov k (e2 ▸ hk); omega
    · rw [e2] at hk; cases hk; omega
  have hk : ∀ m ∈ ms ++ ms', 0 < m.nd.ks.length → ¬ X m.bk := fun m hm h0 e => by
    have := hx _ e
    rcases List.mem_append.1 hm with hm | hm
    · have := h.lok m hm h0; omega
    · have := (h.frk m hm h0).1; omega
  refine ⟨h.at_.keep ok hb (fun k e => ?_), h.n.keep hb hv hk, fun m hm => (h.frk m hm).keep hb (fun h0 => hk m (List.mem_append_right _ hm) h0), h.but.trans hb (fun i hi e => by have := hx i e; omega), h.vat, h.lo1, h.loF, h.lov, h.lok, h.hi0, Nat.le_trans h.hiW hb.size⟩
  have := hx k e
  have := h.lo1
  exact ⟨by omega, fun f => by have := h.loF k f; omega⟩
/-- The reader goes on. -/
theorem RdS.setAt {C : RdC} (ok : C.Ok) {b : Nat} {v : Value} {ms : List NdM} {w : World} {hi : Nat} {v' : Value} {ms' : List NdM} {W : World} (h : RdS C b v ms w hi v' ms' W) (b' : Nat) (z : Int) (hz : z = (b' : Int)) : RdS C b' v ms w hi v' ms' (W.setCell ⟨C.RB, 5, none⟩ (.int .i64 z)) := by
  subst hz
  have hb : But (fun q => q = C.RB) W (W.setCell ⟨C.RB, 5, none⟩ (.int .i64 b')) := (But.refl (fun q => q = C.RB) W).setCell (p := ⟨C.RB, 5, none⟩) (fun _ => rfl) _
  exact ⟨h.at_.setAt ok b', h.n.setR 5 _, fun m hm => (h.frk m hm).keep hb (fun h0 e => (h.n.out.apart m (List.mem_append_right _ hm) h0).2 (Or.inl e)), h.but.trans hb (fun i _ e => Or.inl e), h.vat, h.lo1, h.loF, h.lov, h.lok, h.hi0, by simpa [World.setCell] using h.hiW⟩
/-- Only the reader's box was written. -/
theorem RdS.boxR {C : RdC} {b b' : Nat} {v : Value} {ms : List NdM} {w : World} {hi : Nat} {v' : Value} {ms' : List NdM} {W W' : World} (h : RdS C b v ms w hi v' ms' W) (ha : RdAt C b' v' W') (hb : But (fun q => q = C.RB) W W') : RdS C b' v ms w hi v' ms' W' :=
  ⟨ha, h.n.keep hb (fun k hk e => h.n.va k hk (Or.inl e)) (fun m hm h0 e => (h.n.out.apart m hm h0).2 (Or.inl e)), fun m hm => (h.frk m hm).keep hb (fun h0 e => (h.n.out.apart m (List.mem_append_right _ hm) h0).2 (Or.inl e)), h.but.trans hb (fun i _ e => Or.inl e), h.vat, h.lo1, h.loF, h.lov, h.lok, h.hi0, Nat.le_trans h.hiW hb.size⟩
/-- More nodes were read. -/
theorem RdS.grow {C : RdC} {b b' : Nat} {v : Value} {ms : List NdM} {w : World} {hi : Nat} {v' v2 : Value} {ms' m2 : List NdM} {W W' : World} (h : RdS C b v ms w hi v' ms' W) (ha : RdAt C b' v2 W') (g : Grow C v' (ms ++ ms') W v2 m2 W') : RdS C b' v ms w hi v2 (ms' ++ m2) W' := by
  have hs := g.but.size
  have hiW := h.hiW
  have hi0 := h.hi0
  have hX : ∀ i, i < w.heap.size → (i = C.RB ∨ v'.ownBlock = some i) → (i = C.RB ∨ v.ownBlock = some i) := fun i hi e => by
    rcases e with e | e
    · exact Or.inl e
    · rcases h.vat with e2 | ⟨b, e2, hb⟩
      · exact Or.inr (e2 ▸ e)
      · rw [e2] at e; cases e; omega
  refine ⟨ha, by rw [← List.append_assoc]; exact g.n, fun m hm => ?_, h.but.trans g.but hX, ?_, h.lo1, h.loF, h.lov, h.lok, h.hi0, Nat.le_trans h.hiW hs⟩
  · rcases List.mem_append.1 hm with hm | hm
    · have hf := h.frk m hm
      refine hf.keep g.but (fun h0 e => ?_)
      have h1 := h.n.out.apart m (List.mem_append_right _ hm) h0
      rcases e with e | e
      · exact h1.2 (Or.inl e)
      · exact h1.1 e
    · exact (g.frk m hm).mono h.hiW
  · rcases g.vat with e | ⟨b, e, hb⟩
    · rcases h.vat with e2 | ⟨b, e2, hb⟩
      · exact Or.inl (e.trans e2)
      · exact Or.inr ⟨b, e.trans e2, hb⟩
    · exact Or.inr ⟨b, e, by omega⟩
theorem RdS.fin {C : RdC} {b : Nat} {v : Value} {ms : List NdM} {w : World} {hi : Nat} {v' : Value} {ms' : List NdM} {W : World} (h : RdS C b v ms w hi v' ms' W) : Grow C v ms w v' ms' W :=
  ⟨h.n, fun m hm => (h.frk m hm).mono h.hi0, h.but, by
    rcases h.vat with e | ⟨b, e, hb⟩
    · exact Or.inl e
    · exact Or.inr ⟨b, e, Nat.le_trans h.hi0 hb⟩⟩
/-- A box for a node, all noughts. -/
structure ZNode (b : Nat) (W : World) : Prop where
  c0 : W.cell? ⟨b, 0, none⟩ = some (.int .u8 0)
  c1 : W.cell? ⟨b, 1, none⟩ = some (.int .i32 0)
  c2 : W.cell? ⟨b, 2, none⟩ = some (.int .u32 0)
  c3 : W.cell? ⟨b, 3, none⟩ = some (.int .u32 0)
  c4 : W.cell? ⟨b, 4, none⟩ = some (.slice none 0 0)
  f0 : W.frozen? ⟨b, 0, none⟩ = false
  f1 : W.frozen? ⟨b, 1, none⟩ = false
  f2 : W.frozen? ⟨b, 2, none⟩ = false
  f3 : W.frozen? ⟨b, 3, none⟩ = false
  f4 : W.frozen? ⟨b, 4, none⟩ = false
theorem ZNode.new (w : World) (t : TypeId) : ZNode w.heap.size (w.alloc (.cells #[.int .u8 0, .int .i32 0, .int .u32 0, .int .u32 0, .slice none 0 0] t)) := by
  constructor <;> simp
theorem ZNode.keep {b : Nat} {W W' : World} {X : Nat → Prop} (h : ZNode b W) (hb : But X W W') (hx : ¬ X b) : ZNode b W' := by
  have hl := blk_of_cell h.c0
  exact ⟨hb.cell (p := ⟨b, 0, none⟩) h.c0 hx, hb.cell (p := ⟨b, 1, none⟩) h.c1 hx, hb.cell (p := ⟨b, 2, none⟩) h.c2 hx, hb.cell (p := ⟨b, 3, none⟩) h.c3 hx, hb.cell (p := ⟨b, 4, none⟩) h.c4 hx,
    (hb.frozen (p := ⟨b, 0, none⟩) hl hx).trans h.f0, (hb.frozen (p := ⟨b, 1, none⟩) hl hx).trans h.f1, (hb.frozen (p := ⟨b, 2, none⟩) hl hx).trans h.f2, (hb.frozen (p := ⟨b, 3, none⟩) hl hx).trans h.f3, (hb.frozen (p := ⟨b, 4, none⟩) hl hx).trans h.f4⟩
theorem ZNode.next {b : Nat} {W W' : World} (h : ZNode b W) (hb : Below W.heap.size W W') : ZNode b W' := h.keep (But.of_below (X := fun _ => False) hb) (fun e => e)
theorem but5 (b : Nat) (W : World) (u0 u1 u2 u3 u4 : Value) : But (fun q => q = b) W (((((W.setCell ⟨b, 0, none⟩ u0).setCell ⟨b, 1, none⟩ u1).setCell ⟨b, 2, none⟩ u2).setCell ⟨b, 3, none⟩ u3).setCell ⟨b, 4, none⟩ u4) :=
  (((((But.refl (fun q => q = b) W).setCell (p := ⟨b, 0, none⟩) (fun _ => rfl) u0).setCell (p := ⟨b, 1, none⟩) (fun _ => rfl) u1).setCell (p := ⟨b, 2, none⟩) (fun _ => rfl) u2).setCell (p := ⟨b, 3, none⟩) (fun _ => rfl) u3).setCell (p := ⟨b, 4, none⟩) (fun _ => rfl) u4
theorem plR_place (s : ByteArray) (k : Nat) : plR s k = place s k := by unfold plR place; rw [List.getD_eq_getElem?_getD]
theorem plR_at {s : ByteArray} {k : Nat} (h : k < (starts s).length) : (starts s)[k]? = some (plR s k) := by rw [plR_place]; exact place_at s k h
theorem plR_mono (s : ByteArray) {i j : Nat} (h : i ≤ j) : plR s i ≤ plR s j := by
  rw [plR_place, plR_place]
  have := place_mono s i (j - i)
  rwa [show i + (j - i) = j by omega] at this
end Go.Proofs.YtmechinlaladiaaDoor
