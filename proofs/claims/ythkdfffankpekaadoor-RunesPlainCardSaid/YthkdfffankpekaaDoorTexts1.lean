/-
  WALKS: runes.Len, runes.Broken with its closure; cognateref01.Pieces, Len, Broken.
-/
import Derived.Test.YthkdfffankpekaaDoorPieces
import Derived.Test.YthkdfffankpekaaDoorRefLess
namespace Go.Proofs.YthkdfffankpekaaDoor
open Go.RowKit Go.Lib
set_option linter.unusedVariables false

/-! ### plain -/
theorem count_starts (s : ByteArray) : ∀ f p, runeCountFrom s f p = (startsF s f p).length
  | 0, _ => rfl
  | f + 1, p => by
    have ih := count_starts s f (p + dW s p)
    unfold runeCountFrom startsF
    split
    · rw [List.length_cons, ← ih]
      show 1 + runeCountFrom s f (p + (Utf8.decode s p).2) = _
      unfold dW
      omega
    · rfl
theorem runeCount_starts (s : ByteArray) : runeCount s = (starts s).length := count_starts s s.size 0

def firstB (s : ByteArray) : List Nat → Int
  | [] => -1
  | p :: l => if brk s p then p else firstB s l
theorem firstB_ge (s : ByteArray) : ∀ l, -1 ≤ firstB s l
  | [] => by simp [firstB]
  | p :: l => by
    have := firstB_ge s l
    unfold firstB
    split <;> omega
theorem firstB_snoc_yes (s : ByteArray) (p : Nat) : ∀ l, firstB s l < 0 → brk s p = true → firstB s (l ++ [p]) = p
  | [], _, h => by simp [firstB, h]
  | q :: l, h, hp => by
    unfold firstB at h
    cases hq : brk s q with
    | true => rw [hq] at h; simp at h; omega
    | false =>
      rw [hq] at h
      have ih := firstB_snoc_yes s p l (by simpa using h) hp
      simp [firstB, hq, ih]
theorem firstB_snoc_no (s : ByteArray) (p : Nat) : ∀ l, (0 ≤ firstB s l ∨ brk s p = false) → firstB s (l ++ [p]) = firstB s l
  | [], h => by
    rcases h with h | h
    · simp [firstB] at h
    · simp [firstB, h]
  | q :: l, h => by
    cases hq : brk s q with
    | true => simp [firstB, hq]
    | false =>
      have ih := firstB_snoc_no s p l (by unfold firstB at h; rw [hq] at h; simpa using h)
      simp [firstB, hq, ih]
theorem firstB_drop_yes (s : ByteArray) (l : List Nat) (i p : Nat) (h : l[i]? = some p) (hp : brk s p = true) : firstB s (l.drop i) = p := by
  obtain ⟨h1, rfl⟩ := List.getElem?_eq_some_iff.1 h
  rw [List.drop_eq_getElem_cons h1]
  simp [firstB, hp]
theorem firstB_drop_no (s : ByteArray) (l : List Nat) (i p : Nat) (h : l[i]? = some p) (hp : brk s p = false) : firstB s (l.drop i) = firstB s (l.drop (i + 1)) := by
  obtain ⟨h1, rfl⟩ := List.getElem?_eq_some_iff.1 h
  rw [List.drop_eq_getElem_cons h1]
  simp [firstB, hp]
theorem firstB_le (s : ByteArray) : ∀ l : List Nat, (∀ p ∈ l, p < s.size) → firstB s l ≤ s.size
  | [], _ => by simp [firstB]
  | p :: l, h => by
    have := firstB_le s l (fun q hq => h q (by simp [hq]))
    have := h p (by simp)
    unfold firstB
    split <;> omega

theorem ret_t {k : IntKind} {a b : Int} {v : Value} (h : a = b) : Ending.returned (.tuple #[.int k a, v]) = .returned (.tuple #[.int k b, v]) := by rw [h]

/-! ### Len -/
set_option maxHeartbeats 400000 in
theorem len_any (s : ByteArray) (w : World) (hs : s.size ≤ 65536) :
    Calls Tryd.prog 11 #[.string s] w fun e w' => e = .returned (.tuple #[.int .i64 (starts s).length, .int .i64 0]) ∧ Below w.heap.size w w' := by
  have hc : ¬ (65536 : Int) < (s.size : Int) := by omega
  have hr := runeCount_starts s
  have HR := Lib.hid hr
  clear hr
  go_enter Tryd.func11, Tryd.ntmps11
  go_wp2_with fail
  refine (Tryd.utf8_RuneCountInString s _ (by omega)).mono ?_
  rintro e w1 ⟨rfl, pos, rfl⟩
  rw [HR.out]
  go_wp2_with fail
  go_ret2
  exact ⟨rfl, (Below.refl _ _).alloc (Nat.le_refl _) _⟩
set_option maxHeartbeats 400000 in
theorem len_long (s : ByteArray) (w : World) (hs : ¬ s.size ≤ 65536) :
    Calls Tryd.prog 11 #[.string s] w fun e w' => e = .returned (.tuple #[.int .i64 0, .int .i64 3]) ∧ w = w' := by
  have hc : (65536 : Int) < (s.size : Int) := by omega
  go_enter Tryd.func11, Tryd.ntmps11
  go_wp2_with fail
  go_ret2
  exact ⟨rfl, rfl⟩

/-! ### Broken -/
def BrkInv (s : ByteArray) (B L : Nat) (l : List Nat) (w : World) : Prop := B ≤ L ∧ w.heap[L]? = some (.cells #[.int .i64 (firstB s l)] 3 (0, 0))
theorem BrkInv.new {s : ByteArray} {B L : Nat} (l : List Nat) (w w' : World) (h : BrkInv s B L l w) (hb : Below w.heap.size w w') : BrkInv s B L l w' :=
  ⟨h.1, (hb.block L (lt_of_block h.2)).trans h.2⟩
theorem BrkInv.iter {s : ByteArray} {B L : Nat} (l : List Nat) (w : World) (k q r : Nat) (h : BrkInv s B L l w) (hk : w.heap[k]? = some (.stringIter s q)) : BrkInv s B L l (w.iterAt k s r) :=
  ⟨h.1, one_iterAt h.2 hk r⟩

set_option maxHeartbeats 1000000 in
theorem broken_step (s : ByteArray) (B L : Nat) (l : List Nat) (p : Nat) (w : World) (h : BrkInv s B L l w) (hp : p < s.size) (hl : l.length < s.size) :
    Calls Tryd.prog 36 #[pieceV s p, .pointer (some ⟨L, 0, none⟩)] w (StepPost s B (BrkInv s B L) l p w) := by
  obtain ⟨hBL, h1⟩ := h
  have hLw := lt_of_block h1
  have bx := (Below.refl w.heap.size w).alloc (Nat.le_refl _) (.cells #[.int .i32 (dR s p), .int .i64 p, .int .i64 (dW s p), .bool (brk s p)] 29)
  have h2 : (w.alloc (.cells #[.int .i32 (dR s p), .int .i64 p, .int .i64 (dW s p), .bool (brk s p)] 29)).heap[L]? = some (.cells #[.int .i64 (firstB s l)] 3 (0, 0)) := (bx.block L hLw).trans h1
  have hc2 := cell_of_one h2
  have hf2 := free_of_one h2
  have hbw : Below B w (w.alloc (.cells #[.int .i32 (dR s p), .int .i64 p, .int .i64 (dW s p), .bool (brk s p)] 29)) := (Below.refl B w).alloc (by omega) _
  have keep : (0 ≤ firstB s l ∨ brk s p = false) → StepPost s B (BrkInv s B L) l p w (.returned (.tuple #[])) (w.alloc (.cells #[.int .i32 (dR s p), .int .i64 p, .int .i64 (dW s p), .bool (brk s p)] 29)) := fun hh =>
    ⟨rfl, ⟨hBL, by rw [firstB_snoc_no s p l hh]; exact h2⟩, hbw, iter_below bx⟩
  have put : firstB s l < 0 → brk s p = true → StepPost s B (BrkInv s B L) l p w (.returned (.tuple #[])) ((w.setCell ⟨L, 0, none⟩ (.int .i64 p)).alloc (.cells #[.int .i32 (dR s p), .int .i64 p, .int .i64 (dW s p), .bool (brk s p)] 29)) := fun h3 h4 =>
    have hz : (w.setCell ⟨L, 0, none⟩ (.int .i64 p)).heap.size = w.heap.size := by simp
    ⟨rfl, ⟨hBL, by rw [firstB_snoc_yes s p l h3 h4, Below.heap_alloc _ _ _ (by rw [hz]; exact hLw)]; exact one_setCell h1⟩, ((Below.refl B w).setCell hBL _).alloc (by rw [hz]; omega) _, (iter_setCell h1 _ _).trans (iter_below ((Below.refl _ _).alloc (Nat.le_refl _) _))⟩
  have HK := Lib.hid keep; have HPt := Lib.hid put
  clear keep put hbw bx h1 h2
  unfold pieceV
  obtain ⟨F, hF⟩ : ∃ F, F = firstB s l := ⟨_, rfl⟩
  rw [← hF] at HK HPt hc2
  clear hF
  cases hb : brk s p with
  | false =>
    rw [hb] at hc2 hf2 HK
    have HK2 := Lib.hid (HK.out (.inr rfl))
    clear HK HPt hb
    go_enter Tryd.func36, Tryd.ntmps36
    go_wp2_with fail
    go_end0
    exact HK2.out
  | true =>
    rw [hb] at hc2 hf2 HK HPt
    clear hb
    by_cases hF0 : F < 0
    · have HP2 := Lib.hid (HPt.out hF0 rfl)
      clear HK HPt
      go_enter Tryd.func36, Tryd.ntmps36
      go_wp2_with fail
      go_end0
      exact HP2.out
    · have HK2 := Lib.hid (HK.out (.inl (by omega)))
      clear HK HPt
      go_enter Tryd.func36, Tryd.ntmps36
      go_wp2_with fail
      go_end0
      exact HK2.out

set_option maxHeartbeats 400000 in
theorem broken_any (s : ByteArray) (w : World) (hs : s.size ≤ 65536) (hT : Tabs w) :
    Calls Tryd.prog 12 #[.string s] w fun e w' => e = .returned (.tuple #[.int .i64 (firstB s (starts s)), .int .i64 0]) ∧ Below w.heap.size w w' := by
  have hc : ¬ (65536 : Int) < (s.size : Int) := by omega
  have HT := Lib.hid hT
  have hg : BrkInv s w.heap.size w.heap.size [] (w.alloc (.cells #[.int .i64 (-1)] 3)) := ⟨Nat.le_refl _, alloc_new _ _⟩
  have HG := Lib.hid hg
  clear hT hg
  go_enter Tryd.func12, Tryd.ntmps12
  go_wp2_with fail
  have hbv : Below w.heap.size w (w.alloc (.cells #[.int .i64 (-1)] 3)) := (Below.refl _ _).alloc (Nat.le_refl _) _
  refine (walk_broken s _ w.heap.size (BrkInv s w.heap.size w.heap.size) _ (HT.out.next hbv) HT.out.2 (by simp) (by omega) BrkInv.new BrkInv.iter (broken_step s w.heap.size w.heap.size) HG.out).mono ?_
  rintro e w3 ⟨rfl, hg3, hb3⟩
  have hk := cell_of_one hg3.2
  have HF := Lib.hid (hbv.trans hb3)
  clear hg3 hb3 hbv
  go_wp2_with fail
  go_ret2
  exact ⟨rfl, HF.out⟩
set_option maxHeartbeats 400000 in
theorem broken_long (s : ByteArray) (w : World) (hs : ¬ s.size ≤ 65536) :
    Calls Tryd.prog 12 #[.string s] w fun e w' => e = .returned (.tuple #[.int .i64 0, .int .i64 3]) ∧ w = w' := by
  have hc : (65536 : Int) < (s.size : Int) := by omega
  go_enter Tryd.func12, Tryd.ntmps12
  go_wp2_with fail
  go_ret2
  exact ⟨rfl, rfl⟩

/-! ### the document's answer -/
set_option maxHeartbeats 400000 in
theorem ref_pieces_any (s : ByteArray) (w : World) (hs : s.size ≤ 65536) :
    Calls Tryd.prog 20 #[.string s] w (PiecesPost s w) := by
  have hc : ¬ (65536 : Int) < (s.size : Int) := by omega
  go_enter Tryd.func20, Tryd.ntmps20
  go_wp2_with fail
  refine (all_any s _ (by omega)).mono ?_
  rintro e w1 ⟨x, rfl, hx, hb1⟩
  have HF : Hid (PiecesPost s w (.returned (.tuple #[x, .int .i64 0])) w1) := ⟨x, rfl, hx, hb1⟩
  obtain ⟨o, c, rfl⟩ := own_shape hx
  clear hx hb1
  go_wp2_with fail
  go_ret2
  exact HF.out
set_option maxHeartbeats 400000 in
theorem ref_pieces_long (s : ByteArray) (w : World) (hs : ¬ s.size ≤ 65536) :
    Calls Tryd.prog 20 #[.string s] w fun e w' => e = .returned (.tuple #[.slice none 0 0, .int .i64 3]) ∧ w = w' := by
  have hc : (65536 : Int) < (s.size : Int) := by omega
  go_enter Tryd.func20, Tryd.ntmps20
  go_wp2_with fail
  go_ret2
  exact ⟨rfl, rfl⟩
set_option maxHeartbeats 400000 in
theorem ref_len_any (s : ByteArray) (w : World) (hs : s.size ≤ 65536) :
    Calls Tryd.prog 21 #[.string s] w fun e w' => e = .returned (.tuple #[.int .i64 (starts s).length, .int .i64 0]) ∧ Below w.heap.size w w' := by
  go_enter Tryd.func21, Tryd.ntmps21
  go_wp2_with fail
  refine (ref_pieces_any s _ hs).mono ?_
  rintro e w1 ⟨x, rfl, hx, hb1⟩
  obtain ⟨o, c, rfl⟩ := own_shape hx
  have HB := Lib.hid hb1
  clear hx hb1
  go_wp2_with fail
  go_ret2
  exact ⟨rfl, HB.out⟩
set_option maxHeartbeats 400000 in
theorem ref_len_long (s : ByteArray) (w : World) (hs : ¬ s.size ≤ 65536) :
    Calls Tryd.prog 21 #[.string s] w fun e w' => e = .returned (.tuple #[.int .i64 0, .int .i64 3]) ∧ w = w' := by
  go_enter Tryd.func21, Tryd.ntmps21
  go_wp2_with fail
  refine (ref_pieces_long s _ hs).mono ?_
  rintro e w1 ⟨rfl, rfl⟩
  go_wp2_with fail
  go_ret2
  exact ⟨rfl, rfl⟩

set_option maxHeartbeats 1000000 in
theorem ref_broken_any (s : ByteArray) (w : World) (hs : s.size ≤ 65536) :
    Calls Tryd.prog 22 #[.string s] w fun e w' => e = .returned (.tuple #[.int .i64 (firstB s (starts s)), .int .i64 0]) ∧ Below w.heap.size w w' := by
  have hla : (starts s).length ≤ s.size := by simpa [starts] using startsF_le s s.size 0
  go_enter Tryd.func22, Tryd.ntmps22
  go_wp2_with fail
  refine (ref_pieces_any s _ hs).mono ?_
  rintro e w1 ⟨x, rfl, hx, hb1⟩
  have HX := Lib.hid hx
  have HB := Lib.hid hb1
  obtain ⟨o, c, rfl⟩ := own_shape hx
  clear hx hb1
  go_wp2_with fail
  go_loop [6] (fun iv => ∃ i, iv = .int .i64 (i : Nat) ∧ i ≤ (starts s).length ∧ firstB s (starts s) = firstB s ((starts s).drop i)) (fun iv => (starts s).length - (RowKit.intOf iv).toNat)
  case atStart => exact ⟨0, rfl, by omega, rfl⟩
  case round =>
    obtain ⟨i, rfl, hi, hfb⟩ := hrel
    have HFB := Lib.hid hfb
    clear hfb
    by_cases h1 : i < (starts s).length
    · obtain ⟨p, hp⟩ : ∃ p, (starts s)[i]? = some p := ⟨_, List.getElem?_eq_getElem h1⟩
      have hpa : p < s.size := startsF_mem s _ _ _ (List.mem_of_getElem? hp)
      obtain ⟨g, c', hg, hgb, hgl, hlie, hcap⟩ := pieces_lie HX.out (by omega)
      simp only [Value.slice.injEq] at hg
      obtain ⟨rfl, _, rfl⟩ := hg
      obtain ⟨a0, a1, a2, a3⟩ := hlie.cell i p hp
      have HP := Lib.hid hp
      clear hp hlie a0 a2
      cases hb : brk s p with
      | true =>
        have hv := HFB.out.trans (firstB_drop_yes s _ i p HP.out hb)
        have HV := Lib.hid hv
        rw [hb] at a3
        clear hv hb
        go_wp2_with fail
        go_ret2
        exact ⟨ret_t HV.out.symm, HB.out⟩
      | false =>
        have hv := HFB.out.trans (firstB_drop_no s _ i p HP.out hb)
        have HV := Lib.hid hv
        rw [hb] at a3
        clear hv hb
        go_wp2_with fail
        go_round
        case rel => exact ⟨i + 1, by go_num, by omega, HV.out⟩
        case measure => simp [RowKit.intOf]; omega
    · have hv : firstB s (starts s) = -1 := by rw [HFB.out, List.drop_eq_nil_of_le (by omega)]; rfl
      have HV := Lib.hid hv
      clear hv
      go_wp2_with fail
      go_ret2
      exact ⟨ret_t HV.out.symm, HB.out⟩
set_option maxHeartbeats 400000 in
theorem ref_broken_long (s : ByteArray) (w : World) (hs : ¬ s.size ≤ 65536) :
    Calls Tryd.prog 22 #[.string s] w fun e w' => e = .returned (.tuple #[.int .i64 0, .int .i64 3]) ∧ w = w' := by
  go_enter Tryd.func22, Tryd.ntmps22
  go_wp2_with fail
  refine (ref_pieces_long s _ hs).mono ?_
  rintro e w1 ⟨rfl, rfl⟩
  go_wp2_with fail
  go_ret2
  exact ⟨rfl, rfl⟩
end Go.Proofs.YthkdfffankpekaaDoor
