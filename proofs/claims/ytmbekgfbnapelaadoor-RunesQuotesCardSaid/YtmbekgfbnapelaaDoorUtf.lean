/-
  PLAIN LEAN ABOUT THE MODEL's OWN DECODING OF A STRING, PIECE BY PIECE: no Go function in it. 'dR', 'dW': a piece's rune and width; 'brk': is it broken; 'rk': its place in the row of pieces (broken ones behind all that are not); 'lessF': two texts held against each other piece by piece.
-/
import Derived.Lib.RuneCount
import Derived.Lib.DecodeN
namespace Go.Proofs.YtmbekgfbnapelaaDoor
open Go.Lib

def dR (s : ByteArray) (p : Nat) : Nat := (Utf8.decode s p).1
def dW (s : ByteArray) (p : Nat) : Nat := (Utf8.decode s p).2
def brk (s : ByteArray) (p : Nat) : Bool := decide (dR s p = 65533 ∧ dW s p = 1)

theorem get_lt (s : ByteArray) (i : Nat) (h : i < s.size) : s.get! i = s[i]'h := by
  simp [ByteArray.get!, getElem!_pos, h]
  rfl

/-- What a decode that is not broken says of the bytes. -/
theorem shapeN (n b0 b1 b2 b3 c k : Nat) (h0 : b0 < 256) (h1 : b1 < 256) (h : decodeN n b0 b1 b2 b3 = (c, k)) (hb : ¬ (c = 65533 ∧ k = 1)) :
    (k = 1 ∧ c < 128 ∧ b0 = c) ∨ (k = 2 ∧ 1 < n ∧ 128 ≤ c ∧ c < 2048 ∧ b0 = 192 + c / 64 ∧ b1 = 128 + c % 64) ∨
    (k = 3 ∧ 2 < n ∧ 2048 ≤ c ∧ c < 65536 ∧ (c < 55296 ∨ 57344 ≤ c) ∧ b0 = 224 + c / 4096 ∧ b1 = 128 + c / 64 % 64 ∧ b2 = 128 + c % 64) ∨
    (k = 4 ∧ 3 < n ∧ 65536 ≤ c ∧ c ≤ 1114111 ∧ b0 = 240 + c / 262144 ∧ b1 = 128 + c / 4096 % 64 ∧ b2 = 128 + c / 64 % 64 ∧ b3 = 128 + c % 64) := by
  unfold decodeN at h
  by_cases a0 : b0 < 128
  · rw [if_pos a0] at h
    simp only [Prod.mk.injEq] at h
    exact .inl (by omega)
  rw [if_neg a0] at h
  by_cases a1 : b0 / 32 = 6 ∧ (1 < n ∧ b1 / 64 = 2)
  · rw [if_pos a1] at h
    split at h
    · simp only [Prod.mk.injEq] at h
      exact .inr (.inl (by omega))
    · simp only [Prod.mk.injEq] at h
      exact absurd ⟨h.1.symm, h.2.symm⟩ hb
  rw [if_neg a1] at h
  by_cases a2 : b0 / 16 = 14 ∧ (1 < n ∧ b1 / 64 = 2) ∧ (2 < n ∧ b2 / 64 = 2)
  · rw [if_pos a2] at h
    split at h
    · simp only [Prod.mk.injEq] at h
      exact .inr (.inr (.inl (by omega)))
    · simp only [Prod.mk.injEq] at h
      exact absurd ⟨h.1.symm, h.2.symm⟩ hb
  rw [if_neg a2] at h
  by_cases a3 : b0 / 8 = 30 ∧ (1 < n ∧ b1 / 64 = 2) ∧ (2 < n ∧ b2 / 64 = 2) ∧ (3 < n ∧ b3 / 64 = 2)
  · rw [if_pos a3] at h
    split at h
    · simp only [Prod.mk.injEq] at h
      exact .inr (.inr (.inr (by omega)))
    · simp only [Prod.mk.injEq] at h
      exact absurd ⟨h.1.symm, h.2.symm⟩ hb
  rw [if_neg a3] at h
  simp only [Prod.mk.injEq] at h
  exact absurd ⟨h.1.symm, h.2.symm⟩ hb

/-- .. and the way back: bytes of that form decode to that rune. -/
theorem unshape2 (n b0 b1 b2 b3 c : Nat) (hn : 1 < n) (h1 : 128 ≤ c) (h2 : c < 2048) (e0 : b0 = 192 + c / 64) (e1 : b1 = 128 + c % 64) : decodeN n b0 b1 b2 b3 = (c, 2) := by
  have a0 : ¬ b0 < 128 := by omega
  have a1 : b0 / 32 = 6 ∧ (1 < n ∧ b1 / 64 = 2) := by omega
  have a2 : b0 % 32 * 64 + b1 % 64 ≥ 128 := by omega
  unfold decodeN
  rw [if_neg a0, if_pos a1, if_pos a2]
  simp only [Prod.mk.injEq, and_true]
  omega
theorem unshape3 (n b0 b1 b2 b3 c : Nat) (hn : 2 < n) (h1 : 2048 ≤ c) (h2 : c < 65536) (hs : c < 55296 ∨ 57344 ≤ c) (e0 : b0 = 224 + c / 4096) (e1 : b1 = 128 + c / 64 % 64) (e2 : b2 = 128 + c % 64) : decodeN n b0 b1 b2 b3 = (c, 3) := by
  have a0 : ¬ b0 < 128 := by omega
  have a1 : ¬ (b0 / 32 = 6 ∧ (1 < n ∧ b1 / 64 = 2)) := by omega
  have a2 : b0 / 16 = 14 ∧ (1 < n ∧ b1 / 64 = 2) ∧ (2 < n ∧ b2 / 64 = 2) := by omega
  have hc : b0 % 16 * 4096 + b1 % 64 * 64 + b2 % 64 = c := by omega
  unfold decodeN
  rw [if_neg a0, if_neg a1, if_pos a2, hc, if_pos (by omega)]
theorem unshape4 (n b0 b1 b2 b3 c : Nat) (hn : 3 < n) (h1 : 65536 ≤ c) (h2 : c ≤ 1114111) (e0 : b0 = 240 + c / 262144) (e1 : b1 = 128 + c / 4096 % 64) (e2 : b2 = 128 + c / 64 % 64) (e3 : b3 = 128 + c % 64) : decodeN n b0 b1 b2 b3 = (c, 4) := by
  have a0 : ¬ b0 < 128 := by omega
  have a1 : ¬ (b0 / 32 = 6 ∧ (1 < n ∧ b1 / 64 = 2)) := by omega
  have a2 : ¬ (b0 / 16 = 14 ∧ (1 < n ∧ b1 / 64 = 2) ∧ (2 < n ∧ b2 / 64 = 2)) := by omega
  have a3 : b0 / 8 = 30 ∧ (1 < n ∧ b1 / 64 = 2) ∧ (2 < n ∧ b2 / 64 = 2) ∧ (3 < n ∧ b3 / 64 = 2) := by omega
  have hc : b0 % 8 * 262144 + b1 % 64 * 4096 + b2 % 64 * 64 + b3 % 64 = c := by omega
  unfold decodeN
  rw [if_neg a0, if_neg a1, if_neg a2, if_pos a3, hc, if_pos (by omega)]

theorem get_u8 (s : ByteArray) (i : Nat) : (s.get! i).toNat < 256 := (s.get! i).toNat_lt

theorem shape (s : ByteArray) (p : Nat) (hb : brk s p = false) :
    (dW s p = 1 ∧ dR s p < 128 ∧ (s.get! p).toNat = dR s p) ∨
    (dW s p = 2 ∧ p + 1 < s.size ∧ 128 ≤ dR s p ∧ dR s p < 2048 ∧ (s.get! p).toNat = 192 + dR s p / 64 ∧ (s.get! (p + 1)).toNat = 128 + dR s p % 64) ∨
    (dW s p = 3 ∧ p + 2 < s.size ∧ 2048 ≤ dR s p ∧ dR s p < 65536 ∧ (dR s p < 55296 ∨ 57344 ≤ dR s p) ∧ (s.get! p).toNat = 224 + dR s p / 4096 ∧ (s.get! (p + 1)).toNat = 128 + dR s p / 64 % 64 ∧ (s.get! (p + 2)).toNat = 128 + dR s p % 64) ∨
    (dW s p = 4 ∧ p + 3 < s.size ∧ 65536 ≤ dR s p ∧ dR s p ≤ 1114111 ∧ (s.get! p).toNat = 240 + dR s p / 262144 ∧ (s.get! (p + 1)).toNat = 128 + dR s p / 4096 % 64 ∧ (s.get! (p + 2)).toNat = 128 + dR s p / 64 % 64 ∧ (s.get! (p + 3)).toNat = 128 + dR s p % 64) := by
  have h := decode_at s p
  have hb' : ¬ (dR s p = 65533 ∧ dW s p = 1) := by simpa [brk] using hb
  rcases shapeN _ _ _ _ _ (dR s p) (dW s p) (get_u8 s p) (get_u8 s (p + 1)) h.symm hb' with c | c | c | c
  · exact .inl c
  · exact .inr (.inl ⟨c.1, by omega, c.2.2⟩)
  · exact .inr (.inr (.inl ⟨c.1, by omega, c.2.2⟩))
  · exact .inr (.inr (.inr ⟨c.1, by omega, c.2.2⟩))

theorem brk_eq (s : ByteArray) (p : Nat) (hb : brk s p = true) : dR s p = 65533 ∧ dW s p = 1 := by simpa [brk] using hb

theorem dW_pos (s : ByteArray) (p : Nat) : 1 ≤ dW s p := by
  cases hb : brk s p with
  | true => have := brk_eq s p hb; omega
  | false => have := shape s p hb; omega
theorem dW_le4 (s : ByteArray) (p : Nat) : dW s p ≤ 4 := by
  cases hb : brk s p with
  | true => have := brk_eq s p hb; omega
  | false => have := shape s p hb; omega
theorem dW_fits (s : ByteArray) (p : Nat) (h : p < s.size) : p + dW s p ≤ s.size := by
  cases hb : brk s p with
  | true => have := brk_eq s p hb; omega
  | false => have := shape s p hb; omega
theorem dR_le (s : ByteArray) (p : Nat) : dR s p ≤ 1114111 := by
  cases hb : brk s p with
  | true => have := brk_eq s p hb; omega
  | false => have := shape s p hb; omega
theorem dR_rune (s : ByteArray) (p : Nat) : dR s p < 55296 ∨ 57344 ≤ dR s p := by
  cases hb : brk s p with
  | true => have := brk_eq s p hb; omega
  | false => have := shape s p hb; omega
/-- A broken piece's byte is from 128 on. -/
theorem brk_high (s : ByteArray) (p : Nat) (hb : brk s p = true) : 128 ≤ (s.get! p).toNat := by
  have h := decode_at s p
  have := brk_eq s p hb
  unfold decodeN at h
  by_cases h0 : (s.get! p).toNat < 128
  · rw [if_pos h0] at h
    have e1 : dR s p = (s.get! p).toNat := congrArg Prod.fst h
    omega
  · omega
theorem dec_low (s : ByteArray) (p : Nat) (h : (s.get! p).toNat < 128) : dR s p = (s.get! p).toNat ∧ dW s p = 1 := by
  have e := decode_at s p
  unfold decodeN at e
  rw [if_pos h] at e
  exact ⟨congrArg Prod.fst e, congrArg Prod.snd e⟩

/-! ### the row of pieces, and of texts -/

/-- A piece's place in the row; a: what a broken byte lies behind. -/
def rkA (a : Nat) (s : ByteArray) (p : Nat) : Nat := if brk s p then a + (s.get! p).toNat else dR s p
def rk (s : ByteArray) (p : Nat) : Nat := rkA 1114112 s p
def wt (s : ByteArray) (p : Nat) : Nat := rkA 2097152 s p

theorem rkA_lt (a : Nat) (ha : 1114112 ≤ a) (s t : ByteArray) (p q : Nat) : decide (rkA a s p < rkA a t q) = decide (rkA 1114112 s p < rkA 1114112 t q) := by
  have := dR_le s p; have := dR_le t q; have := get_u8 s p; have := get_u8 t q
  unfold rkA
  rw [decide_eq_decide]
  split <;> split <;> omega
theorem rkA_eq (a : Nat) (ha : 1114112 ≤ a) (s t : ByteArray) (p q : Nat) : (rkA a s p = rkA a t q) ↔ (rkA 1114112 s p = rkA 1114112 t q) := by
  have := dR_le s p; have := dR_le t q; have := get_u8 s p; have := get_u8 t q
  unfold rkA
  split <;> split <;> omega
theorem rk_le (s : ByteArray) (p : Nat) : rk s p < 1114368 := by
  have := dR_le s p; have := get_u8 s p
  unfold rk rkA
  split <;> omega
theorem wt_le (s : ByteArray) (p : Nat) : wt s p < 2097408 := by
  have := dR_le s p; have := get_u8 s p
  unfold wt rkA
  split <;> omega

/-- Pieces of one place in the row are the same bytes. -/
theorem rk_same (s t : ByteArray) (p q : Nat) (h : rk s p = rk t q) : dW s p = dW t q ∧ ∀ i, i < dW s p → s.get! (p + i) = t.get! (q + i) := by
  have := dR_le s p; have := dR_le t q; have := get_u8 s p; have := get_u8 t q
  unfold rk rkA at h
  cases hs : brk s p <;> cases ht : brk t q <;> simp only [hs, ht, if_true, if_false, Bool.false_eq_true] at h
  · have a := shape s p hs
    have b := shape t q ht
    have hw : dW s p = dW t q := by omega
    refine ⟨hw, fun i hi => ?_⟩
    have h4 := dW_le4 s p
    apply UInt8.toNat_inj.1
    match i, hi with
    | 0, _ => rw [Nat.add_zero, Nat.add_zero]; omega
    | 1, _ => omega
    | 2, _ => omega
    | 3, _ => omega
    | i + 4, _ => omega
  · omega
  · omega
  · have a := brk_eq s p hs
    have b := brk_eq t q ht
    refine ⟨by omega, fun i hi => ?_⟩
    obtain rfl : i = 0 := by omega
    apply UInt8.toNat_inj.1
    rw [Nat.add_zero, Nat.add_zero]
    omega

/-- Two texts against each other, from place p on, where they are alike ahead of it. -/
def lessF (a b : ByteArray) : Nat → Nat → Bool
  | 0, _ => decide (a.size < b.size)
  | f + 1, p => if p < a.size then (if p < b.size then (if rk a p = rk b p then lessF a b f (p + dW a p) else decide (rk a p < rk b p)) else false) else decide (a.size < b.size)

/-- Alike ahead of p. -/
def Alike (a b : ByteArray) (p : Nat) : Prop := p ≤ a.size ∧ p ≤ b.size ∧ ∀ i, i < p → a.get! i = b.get! i
theorem Alike.zero (a b : ByteArray) : Alike a b 0 := ⟨Nat.zero_le _, Nat.zero_le _, fun i hi => by omega⟩
theorem Alike.step {a b : ByteArray} {p : Nat} (h : Alike a b p) (ha : p < a.size) (hb : p < b.size) (hr : rk a p = rk b p) : Alike a b (p + dW a p) := by
  obtain ⟨hw, hi⟩ := rk_same a b p p hr
  have := dW_fits a p ha
  have := dW_fits b p hb
  refine ⟨by omega, by omega, fun i h1 => ?_⟩
  by_cases h2 : i < p
  · exact h.2.2 i h2
  · have := hi (i - p) (by omega)
    rwa [show p + (i - p) = i by omega] at this

theorem lessF_end (a b : ByteArray) (f p : Nat) (h : ¬ p < a.size) : lessF a b f p = decide (a.size < b.size) := by
  cases f <;> simp [lessF, h]
theorem lessF_out (a b : ByteArray) (f p : Nat) (hf : a.size ≤ p + f) (h : p < a.size) (hb : ¬ p < b.size) : lessF a b f p = false := by
  cases f with
  | zero => omega
  | succ f => simp [lessF, h, hb]
theorem lessF_step (a b : ByteArray) (f p : Nat) (hf : a.size ≤ p + f) (h : p < a.size) (hb : p < b.size) (hr : rk a p = rk b p) : lessF a b f p = lessF a b (f - 1) (p + dW a p) := by
  cases f with
  | zero => omega
  | succ f => simp [lessF, h, hb, hr]
theorem lessF_ne (a b : ByteArray) (f p : Nat) (hf : a.size ≤ p + f) (h : p < a.size) (hb : p < b.size) (hr : rk a p ≠ rk b p) : lessF a b f p = decide (rk a p < rk b p) := by
  cases f with
  | zero => omega
  | succ f => simp [lessF, h, hb, hr]

/-- THE ROW OF TEXTS. -/
def less (a b : ByteArray) : Bool := lessF a b a.size 0

/-! ### where pieces begin -/
def startsF (s : ByteArray) : Nat → Nat → List Nat
  | 0, _ => []
  | f + 1, p => if p < s.size then p :: startsF s f (p + dW s p) else []
def starts (s : ByteArray) : List Nat := startsF s s.size 0
theorem startsF_end (s : ByteArray) (f p : Nat) (h : ¬ p < s.size) : startsF s f p = [] := by cases f <;> simp [startsF, h]
theorem startsF_le (s : ByteArray) : ∀ f p, (startsF s f p).length ≤ s.size - p
  | 0, _ => by simp [startsF]
  | f + 1, p => by
    have ih := startsF_le s f (p + dW s p)
    have := dW_pos s p
    unfold startsF
    split
    · simp; omega
    · simp
theorem startsF_mem (s : ByteArray) : ∀ f p q, q ∈ startsF s f p → q < s.size
  | 0, _, _, h => by simp [startsF] at h
  | f + 1, p, q, h => by
    unfold startsF at h
    split at h
    · rcases List.mem_cons.1 h with rfl | h
      · assumption
      · exact startsF_mem s f _ q h
    · simp at h
/-- More fuel than there are bytes left changes nothing. -/
theorem startsF_fuel (s : ByteArray) : ∀ f g p, s.size ≤ p + f → s.size ≤ p + g → startsF s f p = startsF s g p
  | 0, g, p, h, _ => by rw [startsF_end s g p (by omega)]; rfl
  | f + 1, 0, p, _, h => by rw [startsF_end s (f + 1) p (by omega)]; rfl
  | f + 1, g + 1, p, h, k => by
    have := dW_pos s p
    unfold startsF
    split
    · rw [startsF_fuel s f g (p + dW s p) (by omega) (by omega)]
    · rfl

/-- The two lists of pieces, walked side by side, say the same as 'lessF'. -/
def lessL (s t : ByteArray) : List Nat → List Nat → Bool
  | [], [] => false
  | [], _ :: _ => true
  | _ :: _, [] => false
  | p :: l, q :: m => if wt s p = wt t q then lessL s t l m else decide (wt s p < wt t q)

theorem lessL_eq (a b : ByteArray) : ∀ f p, a.size ≤ p + f → b.size ≤ p + f → Alike a b p → lessL a b (startsF a f p) (startsF b f p) = lessF a b f p
  | 0, p, ha, hb, hA => by
    have := hA.1; have := hA.2.1
    simp [startsF, lessL, lessF]
    omega
  | f + 1, p, ha, hb, hA => by
    have hp1 := hA.1; have hp2 := hA.2.1
    unfold startsF lessF
    by_cases h1 : p < a.size
    · by_cases h2 : p < b.size
      · rw [if_pos h1, if_pos h2, if_pos h1, if_pos h2]
        unfold lessL
        by_cases hr : rk a p = rk b p
        · have hw : wt a p = wt b p := (rkA_eq 2097152 (by omega) a b p p).2 hr
          have := dW_pos a p
          rw [if_pos hw, if_pos hr, ← (rk_same a b p p hr).1]
          exact lessL_eq a b f _ (by omega) (by omega) (hA.step h1 h2 hr)
        · have hw : ¬ wt a p = wt b p := fun h => hr ((rkA_eq 2097152 (by omega) a b p p).1 h)
          rw [if_neg hw, if_neg hr]
          exact rkA_lt 2097152 (by omega) a b p p
      · rw [if_pos h1, if_neg h2, if_pos h1, if_neg h2]
        rfl
    · by_cases h2 : p < b.size
      · rw [if_neg h1, if_pos h2, if_neg h1]
        simp [lessL]
        omega
      · rw [if_neg h1, if_neg h2, if_neg h1]
        simp [lessL]
        omega
theorem lessL_less (a b : ByteArray) : lessL a b (starts a) (starts b) = less a b := by
  have h := lessL_eq a b (a.size + b.size) 0 (by omega) (by omega) (Alike.zero a b)
  have e1 : startsF a (a.size + b.size) 0 = starts a := startsF_fuel a _ _ 0 (by omega) (by omega)
  have e2 : startsF b (a.size + b.size) 0 = starts b := startsF_fuel b _ _ 0 (by omega) (by omega)
  rw [e1, e2] at h
  rw [h]
  have key : ∀ f g p, a.size ≤ p + f → a.size ≤ p + g → lessF a b f p = lessF a b g p := by
    intro f
    induction f with
    | zero => intro g p h1 _; rw [lessF_end a b g p (by omega), lessF_end a b 0 p (by omega)]
    | succ f ih =>
      intro g p h1 h2
      by_cases ha : p < a.size
      · have := dW_pos a p
        by_cases hb : p < b.size
        · by_cases hr : rk a p = rk b p
          · rw [lessF_step a b (f + 1) p h1 ha hb hr, lessF_step a b g p h2 ha hb hr]
            exact ih _ _ (by omega) (by omega)
          · rw [lessF_ne a b (f + 1) p h1 ha hb hr, lessF_ne a b g p h2 ha hb hr]
        · rw [lessF_out a b (f + 1) p h1 ha hb, lessF_out a b g p h2 ha hb]
      · rw [lessF_end a b (f + 1) p ha, lessF_end a b g p ha]
  exact key _ _ _ (by omega) (by omega)
end Go.Proofs.YtmbekgfbnapelaaDoor
