/-
  PLAIN: a word's letters as a text, read again.
-/
import Derived.Test.YtcibjgkifafohaaGreatDoorWdW
import Derived.Test.YtcibjgkifafohaaGreatDoorMendP
namespace Go.Proofs.YtcibjgkifafohaaGreatDoor
open Go.RowKit Go.Lib
set_option linter.unusedVariables false

theorem drop_get! (s : ByteArray) (p : Nat) (h : p < s.size) : s.data.toList.drop p = s.get! p :: s.data.toList.drop (p + 1) := by
  rw [drop_byte s p h, get_lt s p h]
theorem u8_of {s : ByteArray} {q n : Nat} (h : (s.get! q).toNat = n) : UInt8.ofNat n = s.get! q := by rw [← h]; exact UInt8.ofNat_toNat
theorem enc_piece (s : ByteArray) (p : Nat) (hb : brk s p = false) (hp : p < s.size) : encL (dR s p : Int) = (s.data.toList.drop p).take (dW s p) := by
  rcases shape s p hb with ⟨e, h1, g0⟩ | ⟨e, h0, h1, h2, g0, g1⟩ | ⟨e, h0, h1, h2, h3, g0, g1, g2⟩ | ⟨e, h0, h1, h2, g0, g1, g2, g3⟩
  · rw [encode_1 _ h1, e, drop_get! s p hp, u8_of g0]; rfl
  · rw [encode_2 _ h1 h2, e, drop_get! s p hp, drop_get! s (p + 1) (by omega), u8_of g0, u8_of g1]; rfl
  · rw [encode_3 _ h1 h2 h3, e, drop_get! s p hp, drop_get! s (p + 1) (by omega), drop_get! s (p + 2) (by omega), u8_of g0, u8_of g1, u8_of g2]; rfl
  · rw [encode_4 _ h1 h2, e, drop_get! s p hp, drop_get! s (p + 1) (by omega), drop_get! s (p + 2) (by omega), drop_get! s (p + 3) (by omega), u8_of g0, u8_of g1, u8_of g2, u8_of g3]; rfl
theorem text_same (s : ByteArray) : ∀ f p, s.size ≤ p + f → p ≤ s.size → (∀ q ∈ startsF s f p, brk s q = false) → textL ((startsF s f p).map fun q => (dR s q : Int)) = s.data.toList.drop p
  | 0, p, hf, hp, _ => by
    have hz : s.data.toList.length = s.size := by simp
    rw [List.drop_eq_nil_of_le (by omega)]
    simp [startsF, textL]
  | f + 1, p, hf, hp, h => by
    by_cases hlt : p < s.size
    · have hst := startsF_cons s (f + 1) p hlt hf
      rw [Nat.add_sub_cancel] at hst
      rw [hst] at h ⊢
      have hb := h p (by simp)
      have ih := text_same s f (p + dW s p) (by have := dW_pos s p; omega) (dW_fits s p hlt) (fun q hq => h q (by simp [hq]))
      rw [List.map_cons, textL, List.flatMap_cons, ← textL, ih, enc_piece s p hb hlt, ← List.drop_drop, List.take_append_drop]
    · have hz : s.data.toList.length = s.size := by simp
      rw [startsF_end s (f + 1) p hlt, List.drop_eq_nil_of_le (by omega)]
      simp [textL]
theorem strOf_data (s : ByteArray) : strOf s.data.toList = s := by unfold strOf; simp
theorem text_all (s : ByteArray) (h : ∀ q ∈ starts s, brk s q = false) : strOf (textL (runesL s)) = s := by
  have := text_same s s.size 0 (by omega) (by omega) h
  unfold runesL starts
  rw [this, List.drop_zero, strOf_data]

/-! ### reading -/
theorem rdE_zero {row : List Int} {s : ByteArray} : ∀ (l : List Nat) (k : Nat), k + l.length ≤ 64 → (∀ q ∈ l, brk s q = false ∧ (dR s q : Int) ∈ row) → rdE row s l k = 0
  | [], _, _, _ => rfl
  | p :: l, k, hk, h => by
    obtain ⟨h1, h2⟩ := h p (by simp)
    rw [List.length_cons] at hk
    rw [rdE, if_neg (by rw [h1]; decide), if_pos h2, if_neg (by omega)]
    exact rdE_zero l (k + 1) (by omega) fun q hq => h q (by simp [hq])
theorem zero_rdE {row : List Int} {s : ByteArray} : ∀ (l : List Nat) (k : Nat), k ≤ 64 → rdE row s l k = 0 → k + l.length ≤ 64 ∧ ∀ q ∈ l, brk s q = false ∧ (dR s q : Int) ∈ row
  | [], k, hk, _ => ⟨by simpa using hk, fun q hq => absurd hq (by simp)⟩
  | p :: l, k, hk, h => by
    rw [rdE] at h
    by_cases hb : brk s p = true
    · rw [if_pos hb] at h; exact absurd h (by decide)
    · rw [if_neg hb] at h
      by_cases hm : (dR s p : Int) ∈ row
      · rw [if_pos hm] at h
        by_cases h64 : k = 64
        · rw [if_pos h64] at h; exact absurd h (by decide)
        · rw [if_neg h64] at h
          obtain ⟨h1, h2⟩ := zero_rdE l (k + 1) (by omega) h
          refine ⟨by rw [List.length_cons]; omega, fun q hq => ?_⟩
          rcases List.mem_cons.1 hq with rfl | hq
          · exact ⟨by simpa using hb, hm⟩
          · exact h2 q hq
      · rw [if_neg hm] at h; exact absurd h (by decide)
theorem strOf_size (l : List UInt8) : (strOf l).size = l.length := by
  show (strOf l).data.size = _
  simp [strOf]
theorem cutW_all {s : ByteArray} (h : s.size ≤ 260) : cutW s = s := by
  unfold cutW
  rw [if_pos h]
  simp
theorem cutW_long {s : ByteArray} (h : ¬ s.size ≤ 260) : (cutW s).size = 260 := by
  unfold cutW
  rw [if_neg h]
  simp
  omega
/-- What is a word's letters. -/
structure IsWord (row : List Int) (l : List Int) : Prop where
  len : l.length ≤ 64
  mem : ∀ r ∈ l, r ∈ row
theorem rd_word {row : List Int} {s : ByteArray} (h : rdW row s = 0) : IsWord row (runesL (cutW s)) ∧ strOf (textL (runesL (cutW s))) = s := by
  obtain ⟨h1, h2⟩ := zero_rdE (starts (cutW s)) 0 (by omega) h
  have ht := text_all (cutW s) fun q hq => (h2 q hq).1
  have hl : (runesL (cutW s)).length ≤ 64 := by rw [runesL_length]; omega
  refine ⟨⟨hl, fun r hr => ?_⟩, ?_⟩
  · unfold runesL at hr
    obtain ⟨p, hp, rfl⟩ := List.mem_map.1 hr
    exact (h2 p hp).2
  · have hs : (cutW s).size ≤ 256 := by
      have := textL_length (runesL (cutW s))
      rw [← ht, strOf_size]
      omega
    have : s.size ≤ 260 := by
      by_cases h : s.size ≤ 260
      · exact h
      · have := cutW_long h
        omega
    rw [ht, cutW_all this]
theorem word_rd {row : List Int} (hrow : ∀ r ∈ row, IsRune r) {l : List Int} (h : IsWord row l) : rdW row (strOf (textL l)) = 0 ∧ runesL (cutW (strOf (textL l))) = l := by
  have hs : (strOf (textL l)).size ≤ 260 := by
    have := textL_length l
    have := h.len
    rw [strOf_size]
    omega
  obtain ⟨d1, d2⟩ := dec_all (strOf (textL l)) l (fun r hr => hrow r (h.mem r hr)) (strOf (textL l)).size 0 (by omega) (by rw [strOf_list]; rfl)
  have hr : runesL (strOf (textL l)) = l := d1
  rw [rdW, cutW_all hs]
  refine ⟨rdE_zero _ _ ?_ fun q hq => ⟨d2 q hq, ?_⟩, hr⟩
  · rw [← runesL_length, hr]
    have := h.len
    omega
  · refine h.mem _ ?_
    have : (dR (strOf (textL l)) q : Int) ∈ runesL (strOf (textL l)) := List.mem_map.2 ⟨q, hq, rfl⟩
    rw [hr] at this
    exact this
theorem row_runes {A : Al} (hok : A.ok = true) : ∀ r ∈ rowL A, IsRune r := by
  intro r hr
  unfold rowL at hr
  obtain ⟨l, hl, rfl⟩ := List.mem_map.1 hr
  rw [Al.ok_eq, Bool.and_eq_true] at hok
  have h2 := hok.2
  unfold ltrsB at h2
  simp only [Bool.and_eq_true, List.all_eq_true] at h2
  have h3 := h2.1.2 l hl
  unfold ltrB at h3
  rw [Bool.and_eq_true] at h3
  have h4 := h3.1
  unfold letB at h4
  simp only [Bool.or_eq_true, Bool.and_eq_true, decide_eq_true_eq] at h4
  rcases h4 with (h4 | h4) | ⟨h4, h5⟩
  · exact ⟨l.r.toNat, by omega, by omega, by omega⟩
  · exact ⟨l.r.toNat, by omega, by omega, by omega⟩
  · unfold Lib.validRune at h5
    simp at h5
    exact ⟨l.r.toNat, by omega, by omega, by omega⟩
end Go.Proofs.YtcibjgkifafohaaGreatDoor
