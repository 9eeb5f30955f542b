/-
  WALKS OF THE DOCUMENT's ANSWER: cognateref01.At: the piece of a text at a place that it has: by arithmetic on its bytes: it is the model's own decoding.
-/
import Derived.Test.YtmbekgfbnapelaaDoorRef1
import Derived.Deep.Cut
import Derived.Deep.CutRange
import Derived.LoopTactic
namespace Go.Proofs.YtmbekgfbnapelaaDoor
open Go.RowKit Go.Lib
set_option linter.unusedVariables false

/-! ### the arithmetic: no Go in it -/

/-- The first byte's part of a rune, and the parts of the bytes behind it. -/
def accR (s : ByteArray) (p r0 : Nat) : Nat → Nat
  | 0 => r0
  | k + 1 => 64 * accR s p r0 k + ((s.get! (p + 1 + k)).toNat - 128)
def tails (s : ByteArray) (p k : Nat) : Prop := ∀ j, j < k → tailB (s.get! (p + 1 + j)).toNat = true
theorem tailB_iff (b : Nat) : tailB b = true ↔ 128 ≤ b ∧ b < 192 := by simp [tailB]
theorem tailB_no (b : Nat) : tailB b = false ↔ ¬ (128 ≤ b ∧ b < 192) := by
  rw [← tailB_iff]; cases tailB b <;> simp
def accB (r0 : Nat) : Nat → Nat
  | 0 => r0
  | k + 1 => 64 * accB r0 k + 63
theorem accR_le (s : ByteArray) (p r0 : Nat) : ∀ k, tails s p k → accR s p r0 k ≤ accB r0 k
  | 0, _ => Nat.le_refl _
  | k + 1, h => by
    have ih := accR_le s p r0 k (fun j hj => h j (by omega))
    have hb := (tailB_iff _).1 (h k (by omega))
    show 64 * accR s p r0 k + ((s.get! (p + 1 + k)).toNat - 128) ≤ 64 * accB r0 k + 63
    omega
theorem accR_1 (s : ByteArray) (p r0 : Nat) : accR s p r0 (2 - 1) = 64 * r0 + ((s.get! (p + 1)).toNat - 128) := rfl
theorem accR_2 (s : ByteArray) (p r0 : Nat) : accR s p r0 (3 - 1) = 64 * (64 * r0 + ((s.get! (p + 1)).toNat - 128)) + ((s.get! (p + 2)).toNat - 128) := rfl
theorem accR_3 (s : ByteArray) (p r0 : Nat) : accR s p r0 (4 - 1) = 64 * (64 * (64 * r0 + ((s.get! (p + 1)).toNat - 128)) + ((s.get! (p + 2)).toNat - 128)) + ((s.get! (p + 3)).toNat - 128) := rfl

theorem at_low (s : ByteArray) (p : Nat) (h : (s.get! p).toNat < 128) : dR s p = (s.get! p).toNat ∧ dW s p = 1 ∧ brk s p = false := by
  obtain ⟨a, b⟩ := dec_low s p h
  exact ⟨a, b, by simp [brk]; omega⟩
theorem at_dead (s : ByteArray) (p : Nat) (h : 128 ≤ (s.get! p).toNat) (h2 : (s.get! p).toNat < 192 ∨ 248 ≤ (s.get! p).toNat) : brk s p = true := by
  cases hb : brk s p with
  | true => rfl
  | false => have := shape s p hb; omega

/-- What the first byte says: how long, from what on, the least rune of that length. -/
def Kind3 (b L r0 least : Nat) : Prop := (L = 2 ∧ 192 ≤ b ∧ b < 224 ∧ r0 = b - 192 ∧ least = 128) ∨ (L = 3 ∧ 224 ≤ b ∧ b < 240 ∧ r0 = b - 224 ∧ least = 2048) ∨ (L = 4 ∧ 240 ≤ b ∧ b < 248 ∧ r0 = b - 240 ∧ least = 65536)

theorem Kind3.short {s : ByteArray} {p L r0 least : Nat} (h : Kind3 (s.get! p).toNat L r0 least) (hn : s.size < p + L) : brk s p = true := by
  cases hb : brk s p with
  | true => rfl
  | false =>
    unfold Kind3 at h
    rcases shape s p hb with c | c | c | c <;> omega
theorem Kind3.tail {s : ByteArray} {p L r0 least j : Nat} (h : Kind3 (s.get! p).toNat L r0 least) (hj : j + 1 < L) (hn : tailB (s.get! (p + 1 + j)).toNat = false) : brk s p = true := by
  cases hb : brk s p with
  | true => rfl
  | false =>
    exfalso
    have hn' := (tailB_no _).1 hn
    unfold Kind3 at h
    have hj3 : j = 0 ∨ j = 1 ∨ j = 2 := by omega
    rcases hj3 with rfl | rfl | rfl <;> simp only [Nat.add_zero, Nat.add_assoc, Nat.reduceAdd] at hn' <;> rcases shape s p hb with c | c | c | c <;> omega
theorem Kind3.done {s : ByteArray} {p L r0 least : Nat} (h : Kind3 (s.get! p).toNat L r0 least) (hs : p + L ≤ s.size) (ht : tails s p (L - 1)) :
    ((accR s p r0 (L - 1) < least ∨ runeB (accR s p r0 (L - 1)) = false) → brk s p = true) ∧
    (least ≤ accR s p r0 (L - 1) → runeB (accR s p r0 (L - 1)) = true → dR s p = accR s p r0 (L - 1) ∧ dW s p = L ∧ brk s p = false) := by
  have hd := decode_at s p
  have hb0 := get_u8 s p
  unfold Kind3 at h
  rcases h with ⟨rfl, a, b, hr0, hl⟩ | ⟨rfl, a, b, hr0, hl⟩ | ⟨rfl, a, b, hr0, hl⟩
  · have t0 := (tailB_iff _).1 (ht 0 (by omega))
    rw [Nat.add_zero] at t0
    rw [accR_1]
    obtain ⟨c, hc⟩ : ∃ c, c = 64 * r0 + ((s.get! (p + 1)).toNat - 128) := ⟨_, rfl⟩
    rw [← hc]
    refine ⟨fun h => ?_, fun h1 h2 => ?_⟩
    · cases hb : brk s p with
      | true => rfl
      | false =>
        have hr : c < 128 := by
          rcases h with h | h
          · omega
          · have : ¬ (0 ≤ (c : Int) ∧ (c : Int) ≤ 1114111 ∧ ((c : Int) < 55296 ∨ 57343 < (c : Int))) := by simpa [runeB] using h
            omega
        rcases shape s p hb with c | c | c | c <;> omega
    · rw [unshape2 _ _ _ _ _ c (by omega) (by omega) (by omega) (by omega) (by omega)] at hd
      refine ⟨congrArg Prod.fst hd, congrArg Prod.snd hd, ?_⟩
      have e : dW s p = 2 := congrArg Prod.snd hd
      simp [brk]; omega
  · have t0 := (tailB_iff _).1 (ht 0 (by omega))
    have t1 := (tailB_iff _).1 (ht 1 (by omega))
    rw [Nat.add_zero] at t0
    rw [show p + 1 + 1 = p + 2 from rfl] at t1
    rw [accR_2]
    obtain ⟨c, hc⟩ : ∃ c, c = 64 * (64 * r0 + ((s.get! (p + 1)).toNat - 128)) + ((s.get! (p + 2)).toNat - 128) := ⟨_, rfl⟩
    rw [← hc]
    refine ⟨fun h => ?_, fun h1 h2 => ?_⟩
    · cases hb : brk s p with
      | true => rfl
      | false =>
        have hr : c < 2048 ∨ ¬ (c < 55296 ∨ 57344 ≤ c) := by
          rcases h with h | h
          · exact .inl (by omega)
          · have : ¬ (0 ≤ (c : Int) ∧ (c : Int) ≤ 1114111 ∧ ((c : Int) < 55296 ∨ 57343 < (c : Int))) := by simpa [runeB] using h
            omega
        rcases shape s p hb with c | c | c | c <;> omega
    · have h2' : 0 ≤ (c : Int) ∧ (c : Int) ≤ 1114111 ∧ ((c : Int) < 55296 ∨ 57343 < (c : Int)) := by simpa [runeB] using h2
      rw [unshape3 _ _ _ _ _ c (by omega) (by omega) (by omega) (by omega) (by omega) (by omega) (by omega)] at hd
      refine ⟨congrArg Prod.fst hd, congrArg Prod.snd hd, ?_⟩
      have e : dW s p = 3 := congrArg Prod.snd hd
      simp [brk]; omega
  · have t0 := (tailB_iff _).1 (ht 0 (by omega))
    have t1 := (tailB_iff _).1 (ht 1 (by omega))
    have t2 := (tailB_iff _).1 (ht 2 (by omega))
    rw [Nat.add_zero] at t0
    rw [show p + 1 + 1 = p + 2 from rfl] at t1
    rw [show p + 1 + 2 = p + 3 from rfl] at t2
    rw [accR_3]
    obtain ⟨c, hc⟩ : ∃ c, c = 64 * (64 * (64 * r0 + ((s.get! (p + 1)).toNat - 128)) + ((s.get! (p + 2)).toNat - 128)) + ((s.get! (p + 3)).toNat - 128) := ⟨_, rfl⟩
    rw [← hc]
    refine ⟨fun h => ?_, fun h1 h2 => ?_⟩
    · cases hb : brk s p with
      | true => rfl
      | false =>
        have hr : c < 65536 ∨ 1114111 < c := by
          rcases h with h | h
          · exact .inl (by omega)
          · have : ¬ (0 ≤ (c : Int) ∧ (c : Int) ≤ 1114111 ∧ ((c : Int) < 55296 ∨ 57343 < (c : Int))) := by simpa [runeB] using h
            omega
        rcases shape s p hb with c | c | c | c <;> omega
    · have h2' : 0 ≤ (c : Int) ∧ (c : Int) ≤ 1114111 ∧ ((c : Int) < 55296 ∨ 57343 < (c : Int)) := by simpa [runeB] using h2
      rw [unshape4 _ _ _ _ _ c (by omega) (by omega) (by omega) (by omega) (by omega) (by omega) (by omega)] at hd
      refine ⟨congrArg Prod.fst hd, congrArg Prod.snd hd, ?_⟩
      have e : dW s p = 4 := congrArg Prod.snd hd
      simp [brk]; omega

theorem pieceV_brk (s : ByteArray) (p : Nat) (h : brk s p = true) : pieceV s p = .agg #[.int .i32 65533, .int .i64 p, .int .i64 1, .bool true] := by
  obtain ⟨a, b⟩ := brk_eq s p h
  unfold pieceV
  rw [a, b, h]
  rfl
theorem pieceV_not (s : ByteArray) (p r k : Nat) (a : dR s p = r) (b : dW s p = k) (h : brk s p = false) : pieceV s p = .agg #[.int .i32 r, .int .i64 p, .int .i64 k, .bool false] := by
  unfold pieceV
  rw [a, b, h]

theorem ret_v {a b : Value} (h : a = b) : Ending.returned a = .returned b := by rw [h]

set_option maxRecDepth 100000 in
set_option maxHeartbeats 1000000 in
theorem ref_at_low (s : ByteArray) (p : Nat) (w : World) (hp : p < s.size) (hs : s.size ≤ 9223372036854775807) (h : (s.get! p).toNat < 128) :
    Calls Tryd.prog 74 #[.string s, .int .i64 p] w fun e w' => e = .returned (pieceV s p) ∧ Below w.heap.size w w' := by
  obtain ⟨a, b, c⟩ := at_low s p h
  have hv := pieceV_not s p _ _ a b c
  rw [get_lt s p hp] at hv h
  have HV := Lib.hid hv
  have hh : (s[p].toNat : Int) < 128 := by omega
  clear hv a b c
  go_enter Tryd.func74, Tryd.ntmps74
  go_wp2
  exact bodyPost_ret (v := .agg #[.int .i32 (s[p].toNat : Nat), .int .i64 p, .int .i64 1, .bool false]) (by simp [results, Tryd.results74, go_sem]) rfl ⟨ret_v HV.out.symm, (Below.refl _ _).alloc (Nat.le_refl _) _⟩

set_option maxRecDepth 100000 in
set_option maxHeartbeats 1000000 in
theorem ref_at_dead (s : ByteArray) (p : Nat) (w : World) (hp : p < s.size) (hs : s.size ≤ 9223372036854775807) (h : 128 ≤ (s.get! p).toNat) (h2 : (s.get! p).toNat < 192 ∨ 248 ≤ (s.get! p).toNat) :
    Calls Tryd.prog 74 #[.string s, .int .i64 p] w fun e w' => e = .returned (pieceV s p) ∧ Below w.heap.size w w' := by
  have hv := pieceV_brk s p (at_dead s p h h2)
  rw [get_lt s p hp] at h h2
  have HV := Lib.hid hv
  clear hv
  have hh : ¬ (s[p].toNat : Int) < 128 := by omega
  rcases h2 with h2 | h2
  · have hh2 : (s[p].toNat : Int) < 192 := by omega
    clear h2 h
    go_enter Tryd.func74, Tryd.ntmps74
    go_wp2
    exact bodyPost_ret (v := .agg #[.int .i32 65533, .int .i64 p, .int .i64 1, .bool true]) (by simp [results, Tryd.results74, go_sem]) rfl ⟨ret_v HV.out.symm, ((Below.refl _ _).alloc (Nat.le_refl _) _).alloc (by simp) _⟩
  · have hh2 : (248 : Int) ≤ (s[p].toNat : Int) := by omega
    clear h2 h
    go_enter Tryd.func74, Tryd.ntmps74
    go_wp2
    exact bodyPost_ret (v := .agg #[.int .i32 65533, .int .i64 p, .int .i64 1, .bool true]) (by simp [results, Tryd.results74, go_sem]) rfl ⟨ret_v HV.out.symm, ((Below.refl _ _).alloc (Nat.le_refl _) _).alloc (by simp) _⟩
end Go.Proofs.YtmbekgfbnapelaaDoor
