/-
  WALKS: runes.placeOf, strings.Clone, runes.Part.
-/
import Derived.Test.YthkdfffankpekaaDoorTexts3
namespace Go.Proofs.YthkdfffankpekaaDoor
open Go.RowKit Go.Lib
set_option linter.unusedVariables false

/-! ### plain: where the piece with a number begins -/
def place (s : ByteArray) (n : Nat) : Nat := ((starts s)[n]?).getD s.size
theorem startsF_next (s : ByteArray) : ∀ f p i x, s.size ≤ p + f → (startsF s f p)[i]? = some x → ((startsF s f p)[i + 1]?).getD s.size = x + dW s x
  | 0, p, i, x, _, h => by simp [startsF] at h
  | f + 1, p, i, x, hf, h => by
    by_cases hp : p < s.size
    · have hw := dW_pos s p
      have hfit := dW_fits s p hp
      rw [startsF_cons s (f + 1) p hp hf] at h ⊢
      cases i with
      | zero =>
        simp at h
        subst h
        simp only [Nat.add_sub_cancel, Nat.zero_add, List.getElem?_cons_succ]
        by_cases hq : p + dW s p < s.size
        · rw [startsF_cons s f _ hq (by omega)]
          simp
        · rw [startsF_end s f _ hq]
          simp
          omega
      | succ i =>
        simp only [Nat.add_sub_cancel, List.getElem?_cons_succ] at h ⊢
        exact startsF_next s f (p + dW s p) i x (by omega) h
    · rw [startsF_end s _ p hp] at h
      simp at h
theorem place_at (s : ByteArray) (i : Nat) (h : i < (starts s).length) : (starts s)[i]? = some (place s i) := by
  simp [place, h]
theorem place_lt (s : ByteArray) (i : Nat) (h : i < (starts s).length) : place s i < s.size := startsF_mem s _ _ _ (List.mem_of_getElem? (place_at s i h))
theorem place_succ (s : ByteArray) (i : Nat) (h : i < (starts s).length) : place s (i + 1) = place s i + dW s (place s i) :=
  startsF_next s s.size 0 i (place s i) (by omega) (place_at s i h)
theorem place_out (s : ByteArray) (i : Nat) (h : (starts s).length ≤ i) : place s i = s.size := by simp [place, h]
theorem place_le (s : ByteArray) (i : Nat) : place s i ≤ s.size := by
  rcases Nat.lt_or_ge i (starts s).length with h | h
  · have := place_lt s i h; omega
  · have := place_out s i h; omega
theorem place_mono (s : ByteArray) (i : Nat) : ∀ d, place s i ≤ place s (i + d)
  | 0 => Nat.le_refl _
  | d + 1 => by
    have ih := place_mono s i d
    rcases Nat.lt_or_ge (i + d) (starts s).length with h | h
    · have := place_succ s (i + d) h
      rw [show i + (d + 1) = i + d + 1 by omega]
      omega
    · have := place_out s (i + (d + 1)) (by omega)
      have := place_le s i
      omega
theorem place_zero (s : ByteArray) : place s 0 = 0 := by
  by_cases h : 0 < s.size
  · have : starts s = 0 :: startsF s (s.size - 1) (0 + dW s 0) := startsF_cons s s.size 0 h (show s.size ≤ 0 + s.size by omega)
    simp [place, this]
  · have : starts s = [] := startsF_end s _ _ h
    rw [place_out s 0 (by rw [this]; simp)]; omega
theorem place_split {s : ByteArray} {l : List Nat} {f pos : Nat} (h : starts s = l ++ startsF s f pos) (hp : pos < s.size) (hf : s.size ≤ pos + f) : place s l.length = pos := by
  rw [startsF_cons s f pos hp hf] at h
  simp [place, h]

/-! ### placeOf -/
def PlRel (s : ByteArray) (w wr : World) (pos f : Nat) (l : List Nat) : Prop :=
  wr.heap[w.heap.size]? = some (.stringIter s pos) ∧ Below w.heap.size w wr ∧ s.size ≤ pos + f ∧ starts s = l ++ startsF s f pos
set_option maxHeartbeats 1000000 in
theorem placeOf_any (s : ByteArray) (n : Nat) (w : World) (hn : n ≤ 9223372036854775807) :
    Calls Tryd.prog 38 #[.string s, .int .i64 n] w fun e w' => e = .returned (.int .i64 (place s n)) ∧ Below w.heap.size w w' := by
  go_enter Tryd.func38, Tryd.ntmps38
  go_wp2
  go_loopw [1, 5] (fun x _ wr => ∃ pos f l, x = .int .i64 (n - l.length : Nat) ∧ l.length ≤ n ∧ PlRel s w wr pos f l) (fun _ _ wr => s.size - wr.iterPos w.heap.size)
  case atStart => exact ⟨0, s.size, [], rfl, by simp, World.iter_heap _ _ _, (Below.refl _ _).alloc (Nat.le_refl _) _, by omega, rfl⟩
  case round =>
    obtain ⟨pos, f, l, rfl, hln, hrel⟩ := hrel
    have HR := Lib.hid hrel
    have hit := hrel.1
    have hip : wr.iterPos w.heap.size = pos := by simp [World.iterPos, hit]
    have HP := Lib.hid hip
    have hf := hrel.2.2.1
    clear hrel hip
    by_cases hp : pos < s.size
    · have hnx := fun ty => Lib.run_next_any_at (P := Tryd.prog) wr w.heap.size s pos ty hit hp
      have hii := Lib.iterAt_heap wr w.heap.size s pos (pos + dW s pos) hit
      have hbi := HR.out.2.1.trans (below_iter_any (w := wr) (s := s) (pos + dW s pos) (Nat.le_refl w.heap.size))
      have hw := dW_pos s pos
      have hfit := dW_fits s pos hp
      have HII := Lib.hid hii; have HBI := Lib.hid hbi
      clear hit hii hbi
      by_cases hz : l.length = n
      · have hv := place_split HR.out.2.2.2 hp hf
        rw [hz] at hv
        have HV := Lib.hid hv
        have hzz : n - l.length = 0 := by omega
        rw [hzz]
        clear hv hz hzz
        go_wp2_with fail
        go_ret
        exact ⟨ret_n (by rw [HV.out]), HBI.out⟩
      · have hb : (((n - l.length : Nat) : Int) == 0) = false := by rw [beq_eq_false_iff_ne]; omega
        have hpos : (1 : Int) ≤ ((n - l.length : Nat) : Int) := by omega
        have hst : starts s = (l ++ [pos]) ++ startsF s (f - 1) (pos + dW s pos) := by
          rw [HR.out.2.2.2, startsF_cons s f pos hp hf]; simp
        have HS := Lib.hid hst
        obtain ⟨m, hm⟩ : ∃ m, m = n - l.length := ⟨_, rfl⟩
        have hm1 : 1 ≤ m := by omega
        have hmn : m ≤ n := by omega
        rw [← hm] at hb hpos ⊢
        have HM : Hid (m - 1 = n - (l ++ [pos]).length) := by show m - 1 = n - (l ++ [pos]).length; simp; omega
        have HL : Hid ((l ++ [pos]).length ≤ n) := by show (l ++ [pos]).length ≤ n; simp; omega
        clear hst hm hz hln
        go_wp2_with fail
        go_roundw
        case rel => exact ⟨pos + dW s pos, f - 1, l ++ [pos], by rw [← HM.out]; go_num, HL.out, HII.out, HBI.out, by omega, HS.out⟩
        case measure =>
          have e1 : (wr.iterAt w.heap.size s (pos + dW s pos)).iterPos w.heap.size = pos + dW s pos := by simp [World.iterPos, HII.out]
          show s.size - (wr.iterAt w.heap.size s (pos + dW s pos)).iterPos w.heap.size < _
          rw [e1, HP.out]
          omega
    · have hnx := fun ty => Lib.run_next_end_at (P := Tryd.prog) wr w.heap.size s pos ty hit hp
      have hst := HR.out.2.2.2
      rw [startsF_end s f pos hp, List.append_nil] at hst
      have hv : place s n = s.size := place_out s n (by rw [hst]; exact hln)
      have HV := Lib.hid hv
      clear hst hit hv
      go_wp2_with fail
      go_ret
      exact ⟨ret_n (by rw [HV.out]), HR.out.2.1⟩

/-! ### Part -/
theorem size_cut (s : ByteArray) (a b : Nat) : (s.extract a b).size ≤ s.size := by simp; omega
set_option maxHeartbeats 400000 in
theorem clone_any (s : ByteArray) (w : World) (hlim : s.size ≤ 281474976710656) :
    Calls Tryd.prog 37 #[.string s] w fun e w' => e = .returned (.string s) ∧ Below w.heap.size w w' := by
  go_enter Tryd.func37, Tryd.ntmps37
  go_wp2_with fail
  refine (Tryd.stringslite_Clone s _ hlim).mono ?_
  rintro e w1 ⟨rfl, hb⟩
  go_wp2_with fail
  go_ret
  exact ⟨rfl, hb⟩

set_option maxHeartbeats 1000000 in
theorem part_any (s : ByteArray) (a b : Nat) (w : World) (hs : s.size ≤ 65536) (hab : a ≤ b) (hbl : b ≤ (starts s).length) :
    Calls Tryd.prog 13 #[.string s, .int .i64 a, .int .i64 b] w fun e w' => e = .returned (.tuple #[.string (s.extract (place s a) (place s b)), .int .i64 0]) ∧ Below w.heap.size w w' := by
  have hc : ¬ (65536 : Int) < (s.size : Int) := by omega
  have hla : (starts s).length ≤ s.size := by simpa [starts] using startsF_le s s.size 0
  have hr := runeCount_starts s
  have HR := Lib.hid hr
  have hm : place s a ≤ place s b := by
    have := place_mono s a (b - a)
    rwa [show a + (b - a) = b by omega] at this
  have hpb := place_le s b
  have g1 : ¬ ((a : Int) < 0) := by omega
  have g2 : ¬ ((b : Int) < (a : Int)) := by omega
  have g3 : ¬ (((starts s).length : Int) < (b : Int)) := by omega
  obtain ⟨x, hx⟩ : ∃ x, x = place s a := ⟨_, rfl⟩
  obtain ⟨y, hy⟩ : ∃ y, y = place s b := ⟨_, rfl⟩
  have cA : ∀ w, Calls Tryd.prog 38 #[.string s, .int .i64 a] w fun e w' => e = .returned (.int .i64 x) ∧ Below w.heap.size w w' := fun w => by rw [hx]; exact placeOf_any s a w (by omega)
  have cB : ∀ w, Calls Tryd.prog 38 #[.string s, .int .i64 b] w fun e w' => e = .returned (.int .i64 y) ∧ Below w.heap.size w w' := fun w => by rw [hy]; exact placeOf_any s b w (by omega)
  have hsz := size_cut s x y
  have cC : ∀ w, Calls Tryd.prog 37 #[.string (s.extract x y)] w fun e w' => e = .returned (.string (s.extract x y)) ∧ Below w.heap.size w w' := fun w => clone_any _ w (by omega)
  rw [← hx, ← hy] at hm ⊢
  rw [← hy] at hpb
  have CA := Lib.hid cA; have CB := Lib.hid cB; have CC := Lib.hid cC
  clear cA cB cC hx hy hr hsz
  go_enter Tryd.func13, Tryd.ntmps13
  go_wp2_with fail
  refine (Tryd.utf8_RuneCountInString s _ (by omega)).mono ?_
  rintro e w1 ⟨rfl, pos, rfl⟩
  rw [HR.out]
  obtain ⟨w1, hw1⟩ : ∃ w1, w1 = w.iter s pos := ⟨_, rfl⟩
  have hb1 : Below w.heap.size w w1 := by rw [hw1]; exact (Below.refl _ _).alloc (Nat.le_refl _) _
  rw [← hw1]
  have HB1 := Lib.hid hb1
  clear hw1 hb1
  go_wp2_with fail
  refine (CA.out _).mono ?_
  rintro e w2 ⟨rfl, hb2⟩
  have HB2 := Lib.hid hb2
  clear hb2
  go_wp2_with fail
  refine (CB.out _).mono ?_
  rintro e w3 ⟨rfl, hb3⟩
  have HB3 := Lib.hid hb3
  clear hb3
  go_wp2_with fail
  refine (CC.out _).mono ?_
  rintro e w4 ⟨rfl, hb4⟩
  have HB4 := Lib.hid hb4
  clear hb4
  go_wp2_with fail
  go_ret2
  have z1 := HB1.out.size; have z2 := HB2.out.size; have z3 := HB3.out.size
  exact ⟨rfl, ((HB1.out.trans (HB2.out.mono (B' := w.heap.size) z1)).trans (HB3.out.mono (B' := w.heap.size) (by omega))).trans (HB4.out.mono (B' := w.heap.size) (by omega))⟩

set_option maxHeartbeats 400000 in
theorem part_long (s : ByteArray) (a b : Int) (w : World) (hs : ¬ s.size ≤ 65536) :
    Calls Tryd.prog 13 #[.string s, .int .i64 a, .int .i64 b] w fun e w' => e = .returned (.tuple #[.string ByteArray.empty, .int .i64 3]) ∧ Below w.heap.size w w' := by
  have hc : (65536 : Int) < (s.size : Int) := by omega
  go_enter Tryd.func13, Tryd.ntmps13
  go_wp2_with fail
  go_ret2
  exact ⟨rfl, Below.refl _ _⟩
set_option maxHeartbeats 1000000 in
theorem part_bad (s : ByteArray) (a b : Int) (w : World) (hs : s.size ≤ 65536) (h : a < 0 ∨ b < a ∨ ((starts s).length : Int) < b) :
    Calls Tryd.prog 13 #[.string s, .int .i64 a, .int .i64 b] w fun e w' => e = .returned (.tuple #[.string ByteArray.empty, .int .i64 10]) ∧ Below w.heap.size w w' := by
  have hc : ¬ (65536 : Int) < (s.size : Int) := by omega
  have hla : (starts s).length ≤ s.size := by simpa [starts] using startsF_le s s.size 0
  have hr := runeCount_starts s
  have HR := Lib.hid hr
  clear hr
  by_cases h1 : a < 0
  · clear h
    go_enter Tryd.func13, Tryd.ntmps13
    go_wp2_with fail
    go_ret2
    exact ⟨rfl, Below.refl _ _⟩
  by_cases h2 : b < a
  · clear h
    go_enter Tryd.func13, Tryd.ntmps13
    go_wp2_with fail
    go_ret2
    exact ⟨rfl, Below.refl _ _⟩
  have h3 : ((starts s).length : Int) < b := by omega
  clear h
  go_enter Tryd.func13, Tryd.ntmps13
  go_wp2_with fail
  refine (Tryd.utf8_RuneCountInString s _ (by omega)).mono ?_
  rintro e w1 ⟨rfl, pos, rfl⟩
  rw [HR.out]
  go_wp2_with fail
  go_ret2
  exact ⟨rfl, (Below.refl _ _).alloc (Nat.le_refl _) _⟩
end Go.Proofs.YthkdfffankpekaaDoor
