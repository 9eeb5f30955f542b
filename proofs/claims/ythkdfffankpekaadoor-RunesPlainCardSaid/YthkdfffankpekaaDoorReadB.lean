/-
  PLAIN LEAN: what putShown shows, the readers read back.
-/
import Derived.Test.YthkdfffankpekaaDoorPlain
import Derived.Test.YthkdfffankpekaaDoorMend
namespace Go.Proofs.YthkdfffankpekaaDoor
open Go.RowKit Go.Lib
set_option linter.unusedVariables false

theorem hexv_hexc (n : Nat) (h : n < 16) : hexv (hexc n).toNat = n := by
  match n, h with
  | 0, _ => rfl | 1, _ => rfl | 2, _ => rfl | 3, _ => rfl | 4, _ => rfl | 5, _ => rfl | 6, _ => rfl | 7, _ => rfl
  | 8, _ => rfl | 9, _ => rfl | 10, _ => rfl | 11, _ => rfl | 12, _ => rfl | 13, _ => rfl | 14, _ => rfl | 15, _ => rfl
  | n + 16, h => omega
theorem hexc_ne (n : Nat) (h : n < 16) : (hexc n).toNat ≠ 59 := by
  match n, h with
  | 0, _ => decide | 1, _ => decide | 2, _ => decide | 3, _ => decide | 4, _ => decide | 5, _ => decide | 6, _ => decide | 7, _ => decide
  | 8, _ => decide | 9, _ => decide | 10, _ => decide | 11, _ => decide | 12, _ => decide | 13, _ => decide | 14, _ => decide | 15, _ => decide
  | n + 16, h => omega
theorem hexc_zero (n : Nat) (h : n < 16) (hz : (hexc n).toNat = 48) : n = 0 := by
  have := hexv_hexc n h
  rw [hz] at this
  have h2 : hexv 48 = 0 := by decide
  omega
/-- Digits. -/
def dig (l : List UInt8) : Prop := ∀ b ∈ l, ∃ n, n < 16 ∧ b = hexc n
def foldD (r : Nat) (l : List UInt8) : Nat := l.foldl (fun r b => r * 16 + (hexv b.toNat).toNat) r
theorem hexF_dig : ∀ f n, n < 16 ^ (f + 1) → dig (hexF f n) ∧ foldD 0 (hexF f n) = n ∧ 1 ≤ (hexF f n).length ∧ (16 ≤ n → (hexF f n)[0]? ≠ some (hexc 0)) ∧ (n < 16 → (hexF f n).length = 1)
  | 0, n, h => by
    have h' : n < 16 := by simpa using h
    have e : hexF 0 n = [hexc n] := by unfold hexF; first | rfl | (rw [Nat.mod_eq_of_lt h'])
    rw [e]
    refine ⟨fun b hb => ⟨n, h', by simpa using hb⟩, ?_, by simp, fun h2 => by omega, fun _ => rfl⟩
    show 0 * 16 + (hexv (hexc n).toNat).toNat = n
    rw [hexv_hexc n h']; omega
  | f + 1, n, h => by
    by_cases h1 : n < 16
    · have e : hexF (f + 1) n = [hexc n] := by unfold hexF; rw [if_pos h1]
      rw [e]
      refine ⟨fun b hb => ⟨n, h1, by simpa using hb⟩, ?_, by simp, fun h2 => by omega, fun _ => rfl⟩
      show 0 * 16 + (hexv (hexc n).toNat).toNat = n
      rw [hexv_hexc n h1]; omega
    · have e : hexF (f + 1) n = hexF f (n / 16) ++ [hexc (n % 16)] := by show (if n < 16 then _ else _) = _; rw [if_neg h1]
      have hlt : n / 16 < 16 ^ (f + 1) := by rw [Nat.pow_succ] at h; omega
      obtain ⟨i1, i2, i3, i4, i5⟩ := hexF_dig f (n / 16) hlt
      rw [e]
      refine ⟨fun b hb => ?_, ?_, by simp, fun _ => ?_, fun h2 => by omega⟩
      · rcases List.mem_append.1 hb with hb | hb
        · exact i1 b hb
        · exact ⟨n % 16, by omega, by simpa using hb⟩
      · unfold foldD at i2 ⊢
        rw [List.foldl_append, i2]
        show n / 16 * 16 + (hexv (hexc (n % 16)).toNat).toNat = n
        rw [hexv_hexc _ (by omega)]; omega
      · rw [List.getElem?_append_left (by omega)]
        by_cases h2 : 16 ≤ n / 16
        · exact i4 h2
        · obtain ⟨b, hb⟩ : ∃ b, hexF f (n / 16) = [b] := by
            have := i5 (by omega)
            match hexF f (n / 16), this with
            | [b], _ => exact ⟨b, rfl⟩
          obtain ⟨m, hm, rfl⟩ := i1 b (by rw [hb]; simp)
          rw [hb] at i2 ⊢
          have i2' : 0 * 16 + (hexv (hexc m).toNat).toNat = n / 16 := i2
          rw [hexv_hexc m hm] at i2'
          intro hh
          have h3 : hexc m = hexc 0 := by simpa using hh
          have h4 := hexv_hexc m hm
          rw [h3, hexv_hexc 0 (by omega)] at h4
          omega
theorem hexF_len : ∀ f n k, n < 16 ^ k → 1 ≤ k → (hexF f n).length ≤ k
  | 0, n, k, _, h => by show ([_] : List UInt8).length ≤ k; simpa using h
  | f + 1, n, k, h, hk => by
    by_cases h1 : n < 16
    · have e : hexF (f + 1) n = [hexc n] := by show (if n < 16 then _ else _) = _; rw [if_pos h1]
      rw [e]; simpa using hk
    · have e : hexF (f + 1) n = hexF f (n / 16) ++ [hexc (n % 16)] := by show (if n < 16 then _ else _) = _; rw [if_neg h1]
      obtain ⟨j, rfl⟩ : ∃ j, k = j + 1 := ⟨k - 1, by omega⟩
      have hj : 1 ≤ j := by
        rcases Nat.eq_zero_or_pos j with hz | hz
        · subst hz; simp at h; omega
        · exact hz
      have := hexF_len f (n / 16) j (by rw [Nat.pow_succ] at h; omega) hj
      rw [e, List.length_append]; simp; omega
theorem get_drop (t : ByteArray) (a : Nat) (l m : List UInt8) (b : UInt8) (h : t.data.toList.drop a = b :: l) : t.get! a = b ∧ a < t.size ∧ t.data.toList.drop (a + 1) = l := by
  have hz : t.data.toList.length = t.size := by simp
  have hl := congrArg List.length h
  rw [List.length_drop, hz, List.length_cons] at hl
  have ha : a < t.size := by omega
  refine ⟨?_, ha, ?_⟩
  · rw [get_list t a (by omega)]
    have e : (t.data.toList.drop a)[0]? = some b := by rw [h]; rfl
    rw [List.getElem?_drop, Nat.add_zero, List.getElem?_eq_getElem (by omega)] at e
    exact Option.some.inj e
  · rw [← List.drop_drop, h]; rfl
theorem rr_dig (V : ByteArray) (rest : List UInt8) : ∀ (ds : List UInt8) (i r : Nat), V.data.toList.drop i = ds ++ 59 :: rest → dig ds → i + ds.length ≤ 6 → rrF V (7 - i) i r = rrF V (7 - (i + ds.length)) (i + ds.length) (foldD r ds) ∧ V.data.toList.drop (i + ds.length) = 59 :: rest
  | [], i, r, h, _, _ => ⟨rfl, h⟩
  | d :: ds, i, r, h, hd, hl => by
    obtain ⟨n, hn, rfl⟩ := hd d (by simp)
    obtain ⟨g1, g2, g3⟩ := get_drop V i (ds ++ 59 :: rest) [] (hexc n) h
    simp only [List.length_cons] at hl
    obtain ⟨ih1, ih2⟩ := rr_dig V rest ds (i + 1) (r * 16 + (hexv (hexc n).toNat).toNat) g3 (fun b hb => hd b (by simp [hb])) (by omega)
    have e : i + (hexc n :: ds).length = i + 1 + ds.length := by simp; omega
    rw [e]
    refine ⟨?_, ih2⟩
    rw [rrF_at V i r g2 (by omega), g1, if_neg (hexc_ne n hn), if_neg (by rw [hexv_hexc n hn]; omega), ih1]
    rfl
theorem readR_back (V : ByteArray) (R : Nat) (rest : List UInt8) (hV : V.data.toList = hexL R ++ 59 :: rest) (hR : R ≤ 1114111) (hs : R < 55296 ∨ 57344 ≤ R) (hv : ¬ (32 ≤ R ∧ R ≤ 126)) : readR V = (R, (hexL R).length + 1) := by
  obtain ⟨d1, d2, d3, d4, d5⟩ := hexF_dig 7 R (by have : (16 : Nat) ^ (7 + 1) = 4294967296 := by decide
                                                  omega)
  have d6 := hexF_len 7 R 6 (by have : (16 : Nat) ^ 6 = 16777216 := by decide
                                omega) (by omega)
  obtain ⟨e1, e2⟩ := rr_dig V rest (hexL R) 0 0 (by simpa using hV) d1 (by show 0 + (hexF 7 R).length ≤ 6; omega)
  obtain ⟨g1, g2, _⟩ := get_drop V _ _ [] 59 e2
  have e3 : readR V = rrF V (7 - 0) 0 0 := rfl
  have hk : (hexL R).length = (hexF 7 R).length := rfl
  rw [e3, e1, rrF_at V _ _ g2 (by omega), g1, if_pos (by decide), if_neg]
  · rw [show foldD 0 (hexL R) = R from d2, Nat.zero_add]
  · rw [show foldD 0 (hexL R) = R from d2, Nat.zero_add]
    unfold rrBad
    have hz : ¬ (1 < (hexL R).length ∧ (V.get! 0).toNat = 48) := by
      rintro ⟨z1, z2⟩
      by_cases h16 : 16 ≤ R
      · obtain ⟨b, l, hb⟩ : ∃ b l, hexL R = b :: l := by
          match hexL R, z1 with
          | b :: l, _ => exact ⟨b, l, rfl⟩
        have h0 : V.data.toList.drop 0 = b :: (l ++ 59 :: rest) := by rw [List.drop_zero, hV, hb]; rfl
        have g := (get_drop V 0 _ [] b h0).1
        obtain ⟨m, hm, hbm⟩ := d1 b (by show b ∈ hexL R; rw [hb]; simp)
        rw [g, hbm] at z2
        have := hexc_zero m hm z2
        subst this
        apply d4 h16
        show (hexL R)[0]? = _
        rw [hb, hbm]; rfl
      · have := d5 (by omega)
        omega
    omega
end Go.Proofs.YthkdfffankpekaaDoor
