/-
  PLAIN: how a rune's number is read: the document's way (all sixteens, then what may be) and the program's (readR) are one.
-/
import Derived.Test.YtmbekgfbnapelaaDoorPut
import Derived.Test.YtmbekgfbnapelaaDoorRefHex
namespace Go.Proofs.YtmbekgfbnapelaaDoor
open Go.RowKit Go.Lib
set_option linter.unusedVariables false

theorem hexc_hexv (b : UInt8) (h : 0 ≤ hexv b.toNat) : hexc (hexv b.toNat).toNat = b := by
  have hb := b.toNat_lt
  unfold hexv at h ⊢
  unfold hexc
  split
  · rename_i h1
    rw [if_pos (by omega)]
    apply UInt8.toNat_inj.1
    rw [UInt8.toNat_ofNat_of_lt' (by simp [UInt8.size]; omega)]
    omega
  · rename_i h1
    rw [if_neg h1] at h
    split
    · rename_i h2
      rw [if_neg (by omega)]
      apply UInt8.toNat_inj.1
      rw [UInt8.toNat_ofNat_of_lt' (by simp [UInt8.size]; omega)]
      omega
    · rename_i h2
      rw [if_neg h2] at h
      omega
theorem hexv_59 : hexv 59 < 0 := by decide
/-- How far the sixteens of a text go (at most f of them), and what they are worth. -/
def scF (u : ByteArray) : Nat → Nat → Nat → Nat × Nat
  | 0, i, r => (i, r)
  | f + 1, i, r => if i < u.size ∧ 0 ≤ hexv (u.get! i).toNat then scF u f (i + 1) (r * 16 + (hexv (u.get! i).toNat).toNat) else (i, r)
theorem scF_at (u : ByteArray) (f i r : Nat) (h : i < u.size ∧ 0 ≤ hexv (u.get! i).toNat) : scF u (f + 1) i r = scF u f (i + 1) (r * 16 + (hexv (u.get! i).toNat).toNat) := by
  show (if i < u.size ∧ 0 ≤ hexv (u.get! i).toNat then _ else _) = _; rw [if_pos h]
theorem scF_end (u : ByteArray) (f i r : Nat) (h : ¬ (i < u.size ∧ 0 ≤ hexv (u.get! i).toNat)) : scF u f i r = (i, r) := by
  cases f with
  | zero => rfl
  | succ f => show (if i < u.size ∧ 0 ≤ hexv (u.get! i).toNat then _ else _) = _; rw [if_neg h]
theorem rrF_sc (u : ByteArray) : ∀ f i r, rrF u f i r = if (scF u f i r).1 < u.size ∧ (scF u f i r).1 < i + f ∧ (u.get! (scF u f i r).1).toNat = 59 ∧ ¬ rrBad u (scF u f i r).1 (scF u f i r).2 then ((scF u f i r).2, (scF u f i r).1 + 1) else (0, 0)
  | 0, i, r => by show (0, 0) = _; rw [if_neg]; show ¬ (i < _ ∧ i < i + 0 ∧ _); omega
  | f + 1, i, r => by
    show (if i < u.size then _ else _) = _
    by_cases h : i < u.size ∧ 0 ≤ hexv (u.get! i).toNat
    · rw [scF_at u f i r h, if_pos h.1, if_neg (fun e => by rw [e] at h; exact absurd hexv_59 (by omega)), if_neg (by omega), rrF_sc u f (i + 1)]
      rw [show i + 1 + f = i + (f + 1) by omega]
    · rw [scF_end u (f + 1) i r h]
      by_cases h1 : i < u.size
      · rw [if_pos h1]
        by_cases h2 : (u.get! i).toNat = 59
        · rw [if_pos h2]
          by_cases h3 : rrBad u i r
          · rw [if_pos h3, if_neg (fun hh => hh.2.2.2 h3)]
          · rw [if_neg h3, if_pos ⟨h1, by show i < i + (f + 1); omega, h2, h3⟩]
        · rw [if_neg h2, if_pos (by omega), if_neg (fun hh => h2 hh.2.2.1)]
      · rw [if_neg h1, if_neg (fun hh => h1 hh.1)]
def dig (u : ByteArray) : Nat → Nat
  | 0 => 0
  | k + 1 => dig u k * 16 + (hexv (u.get! k).toNat).toNat
theorem dig_lt (u : ByteArray) : ∀ k, dig u k < 16 ^ k
  | 0 => by simp [dig]
  | k + 1 => by
    have ih := dig_lt u k
    have hv := hexv_lt (u.get! k).toNat
    show dig u k * 16 + _ < _
    rw [Nat.pow_succ]
    omega
theorem dig_ge (u : ByteArray) (h : (u.get! 0).toNat ≠ 48) (h0 : 0 ≤ hexv (u.get! 0).toNat) : ∀ k, 16 ^ k ≤ dig u (k + 1)
  | 0 => by
    show 1 ≤ 0 * 16 + _
    unfold hexv at h0 ⊢
    split
    · omega
    · split
      · omega
      · rename_i a b; rw [if_neg a, if_neg b] at h0; omega
  | k + 1 => by
    have ih := dig_ge u h h0 k
    show _ ≤ dig u (k + 1) * 16 + _
    rw [Nat.pow_succ]
    omega
theorem scF_dig (u : ByteArray) : ∀ f i, i ≤ u.size → (∀ j, j < i → 0 ≤ hexv (u.get! j).toNat) → ∃ k, scF u f i (dig u i) = (k, dig u k) ∧ i ≤ k ∧ k ≤ i + f ∧ k ≤ u.size ∧ (∀ j, j < k → 0 ≤ hexv (u.get! j).toNat) ∧ (k < i + f → k < u.size → hexv (u.get! k).toNat < 0)
  | 0, i, hi, hj => ⟨i, rfl, Nat.le_refl _, Nat.le_refl _, hi, hj, fun h => by omega⟩
  | f + 1, i, hi, hj => by
    by_cases h : i < u.size ∧ 0 ≤ hexv (u.get! i).toNat
    · obtain ⟨k, e, a, b, c, d, g⟩ := scF_dig u f (i + 1) h.1 (fun j hji => by
        by_cases he : j = i
        · subst he; exact h.2
        · exact hj j (by omega))
      rw [scF_at u f i _ h]
      exact ⟨k, e, by omega, by omega, c, d, fun h1 h2 => g (by omega) h2⟩
    · rw [scF_end u (f + 1) i _ h]
      exact ⟨i, rfl, Nat.le_refl _, by omega, hi, hj, fun _ h2 => by omega⟩
def tak (u : ByteArray) (k : Nat) : List UInt8 := (List.range k).map fun j => u.get! j
theorem tak_succ (u : ByteArray) (k : Nat) : tak u (k + 1) = tak u k ++ [u.get! k] := by simp [tak, List.range_succ]
theorem tak_length (u : ByteArray) (k : Nat) : (tak u k).length = k := by simp [tak]
theorem dig_hex (u : ByteArray) : ∀ k, (∀ j, j < k + 1 → 0 ≤ hexv (u.get! j).toNat) → (k = 0 ∨ (u.get! 0).toNat ≠ 48) → ∀ f, k ≤ f → hexF f (dig u (k + 1)) = tak u (k + 1)
  | 0, hd, _, f, _ => by
    have h0 := hd 0 (by omega)
    have hv := hexv_lt (u.get! 0).toNat
    have e : dig u (0 + 1) = (hexv (u.get! 0).toNat).toNat := by show 0 * 16 + (hexv (u.get! 0).toNat).toNat = _; rw [Nat.zero_mul, Nat.zero_add]
    rw [e, hexF_small f (hexv (u.get! 0).toNat).toNat (by omega), hexc_hexv _ h0]
    rfl
  | k + 1, hd, hz, f, hf => by
    obtain ⟨f, rfl⟩ : ∃ g, f = g + 1 := ⟨f - 1, by omega⟩
    have hne : (u.get! 0).toNat ≠ 48 := by
      rcases hz with h | h
      · omega
      · exact h
    have h0 := hd (k + 1) (by omega)
    have hv := hexv_lt (u.get! (k + 1)).toNat
    have hge := dig_ge u hne (hd 0 (by omega)) k
    have hp : 1 ≤ 16 ^ k := Nat.one_le_pow _ _ (by omega)
    have ih := dig_hex u k (fun j hj => hd j (by omega)) (.inr hne) f (by omega)
    have e : dig u (k + 1 + 1) = dig u (k + 1) * 16 + (hexv (u.get! (k + 1)).toNat).toNat := rfl
    rw [hexF_big f (dig u (k + 1 + 1)) (by omega), tak_succ, e]
    have q1 : (dig u (k + 1) * 16 + (hexv (u.get! (k + 1)).toNat).toNat) / 16 = dig u (k + 1) := by omega
    have q2 : (dig u (k + 1) * 16 + (hexv (u.get! (k + 1)).toNat).toNat) % 16 = (hexv (u.get! (k + 1)).toNat).toNat := by omega
    rw [q1, q2, ih, hexc_hexv _ h0]
theorem hexc_48 (n : Nat) (h : n < 16) (h1 : 1 ≤ n) : hexc n ≠ 48 := by
  intro e
  have := congrArg UInt8.toNat e
  unfold hexc at this
  split at this
  · rw [UInt8.toNat_ofNat_of_lt' (by simp [UInt8.size]; omega)] at this
    have h48 : (48 : UInt8).toNat = 48 := rfl
    omega
  · rw [UInt8.toNat_ofNat_of_lt' (by simp [UInt8.size]; omega)] at this
    have h48 : (48 : UInt8).toNat = 48 := rfl
    omega
theorem hexF_head : ∀ f n, n < 16 ^ (f + 1) → 1 ≤ n → ∃ c t, hexF f n = c :: t ∧ c ≠ 48
  | 0, n, h, h1 => ⟨hexc n, [], rfl, hexc_48 n (by simpa using h) h1⟩
  | f + 1, n, h, h1 => by
    by_cases hn : n < 16
    · exact ⟨hexc n, [], hexF_small _ _ hn, hexc_48 n hn h1⟩
    · obtain ⟨c, t, e, hc⟩ := hexF_head f (n / 16) (by rw [Nat.pow_succ] at h; omega) (by omega)
      exact ⟨c, t ++ [hexc (n % 16)], by rw [hexF_big f n hn, e]; rfl, hc⟩
/-- The number of sixteens written is the sixteens that were read: there is no nought ahead. -/
theorem num_iff (u : ByteArray) (k : Nat) (hd : ∀ j, j < k → 0 ≤ hexv (u.get! j).toNat) (h0 : 0 < k) (h7 : k ≤ 7) (hr : dig u k ≤ 1114111) : hexF 6 (dig u k) = tak u k ↔ ¬ (1 < k ∧ (u.get! 0).toNat = 48) := by
  obtain ⟨k, rfl⟩ : ∃ m, k = m + 1 := ⟨k - 1, by omega⟩
  constructor
  · rintro e ⟨h1, h48⟩
    by_cases hz : dig u (k + 1) = 0
    · rw [hz, hexF_small 6 0 (by omega)] at e
      have := congrArg List.length e
      rw [tak_length] at this
      simp at this
      omega
    · obtain ⟨c, t, e2, hc⟩ := hexF_head 6 (dig u (k + 1)) (Nat.lt_of_le_of_lt hr (by decide)) (by omega)
      rw [e2] at e
      apply hc
      have e3 : tak u (k + 1) = u.get! 0 :: (tak u (k + 1)).tail := by simp [tak, List.range_succ_eq_map]
      rw [e3] at e
      injection e with e4 _
      rw [e4]
      exact UInt8.toNat_inj.1 h48
  · intro h
    exact dig_hex u k hd (by omega) 6 (by omega)
def numOk (u : ByteArray) (k : Nat) : Prop := 0 < k ∧ k < u.size ∧ (u.get! k).toNat = 59 ∧ dig u k ≤ 1114111 ∧ (dig u k < 55296 ∨ 57344 ≤ dig u k) ∧ hexF 6 (dig u k) = tak u k ∧ ¬ (32 ≤ dig u k ∧ dig u k ≤ 126)
instance (u : ByteArray) (k : Nat) : Decidable (numOk u k) := by unfold numOk; infer_instance
theorem readR_is (u : ByteArray) : ∃ k, scF u 7 0 0 = (k, dig u k) ∧ k ≤ 7 ∧ k ≤ u.size ∧ (∀ j, j < k → 0 ≤ hexv (u.get! j).toNat) ∧ (k < 7 → k < u.size → hexv (u.get! k).toNat < 0) ∧ readR u = if numOk u k then (dig u k, k + 1) else (0, 0) := by
  obtain ⟨k, e, _, h7, hs, hd, hend⟩ := scF_dig u 7 0 (Nat.zero_le _) (fun j h => by omega)
  refine ⟨k, e, by omega, hs, hd, fun h1 h2 => hend (by omega) h2, ?_⟩
  unfold readR
  have e' : scF u 7 0 0 = (k, dig u k) := e
  rw [rrF_sc, e']
  by_cases h : numOk u k
  · rw [if_pos h]
    obtain ⟨a, b, c, d, g, i, j⟩ := h
    have hn := (num_iff u k hd a (by omega) d).1 i
    have hk7 : k ≠ 7 := by
      intro hk
      subst hk
      have h48 : ¬ (u.get! 0).toNat = 48 := fun h => hn ⟨by omega, h⟩
      have : 16 ^ 6 ≤ dig u 7 := dig_ge u h48 (hd 0 (by omega)) 6
      have : (16 : Nat) ^ 6 = 16777216 := by decide
      omega
    rw [if_pos ⟨b, by show k < 0 + 7; omega, c, fun hb => by unfold rrBad at hb; omega⟩]
  · rw [if_neg h, if_neg]
    rintro ⟨b, c, g, hb⟩
    apply h
    have hb' : ¬ (k = 0 ∨ (1 < k ∧ (u.get! 0).toNat = 48) ∨ (32 ≤ dig u k ∧ dig u k ≤ 126) ∨ ¬ (dig u k < 55296 ∨ (57344 ≤ dig u k ∧ dig u k ≤ 1114111))) := hb
    have hr : dig u k ≤ 1114111 := by omega
    refine ⟨by omega, b, g, hr, by omega, (num_iff u k hd (by omega) (by omega) hr).2 (by omega), by omega⟩

theorem ext_get (s : ByteArray) (a b j : Nat) (h : a + j < b) (hb : b ≤ s.size) : (s.extract a b).get! j = s.get! (a + j) := by
  have hs : s.data.size = s.size := rfl
  show (s.extract a b).data[j]! = s.data[a + j]!
  rw [getElem!_pos (s.extract a b).data j (by simp; omega), getElem!_pos s.data (a + j) (by omega)]
  simp
theorem get_el (s : ByteArray) (j : Nat) (h : j < s.size) : s.get! j = s.data[j]'h := by
  show s.data[j]! = _
  rw [getElem!_pos s.data j h]
theorem tak_ext (s : ByteArray) (a k : Nat) (h : a + k ≤ s.size) : s.extract a (a + k) = strOf (tak (s.extract a s.size) k) := by
  have hs : s.data.size = s.size := rfl
  apply ByteArray.ext
  apply Array.ext
  · simp [strOf, tak]; omega
  · intro i h1 h2
    simp only [strOf, tak, List.size_toArray, List.length_map, List.length_range] at h2
    simp only [strOf, tak, List.getElem_toArray, List.getElem_map, List.getElem_range]
    rw [ext_get s a s.size i (by omega) (Nat.le_refl _), get_el s (a + i) (by omega)]
    simp

end Go.Proofs.YtmbekgfbnapelaaDoor
