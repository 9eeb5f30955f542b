/-
  WALKS OF THE DOCUMENT's ANSWER: cognateref01.At: the piece of a text at a place that it has: by arithmetic on its bytes: it is the model's own decoding.
  WALKS OF THE DOCUMENT's ANSWER: cognateref01.At where the first byte begins several (made by program: one text for two, three, four bytes).
  WALKS OF THE DOCUMENT's ANSWER: cognateref01.All: the pieces of any text, in new memory.
  PLAIN: the pieces of a text as they lie in memory.
  WALKS of pattern's reader: what lies in memory while a text is read.
-/
import Derived.Deep.Cut
import Derived.Deep.CutRange
import Derived.LoopTactic
import Derived.Laws.OwnMore
import Derived.Deep.RegionHeld3
import Derived.Test.YtmechinlaladiaaDoorZAN
import Derived.Test.YtmechinlaladiaaDoorZAK
import Derived.Test.YtmechinlaladiaaDoorZAE
namespace Go.Proofs.YtmechinlaladiaaDoor
open Go.RowKit Go.Lib
set_option linter.unusedVariables false

/-! ### the arithmetic: no Go in it -/

/-- The first byte's part of a rune, and the parts of the bytes behind it. -/
def accR (s : ByteArray) (p r0 : Nat) : Nat → Nat
  | 0 => r0
  | k + 1 => 64 * accR s p r0 k + ((s.get! (p + 1 + k)).toNat - 128)
def tails (s : ByteArray) (p k : Nat) : Prop := ∀ j, j < k → tailB (s.get! (p + 1 + j)).toNat = true
theorem tailB_iff (b : Nat) : tailB b = true ↔ 128 ≤ b ∧ b < 192 := by simp [tailB]
theorem tailB_no (b : Nat) : tailB b = false ↔ ¬ (128 ≤ b ∧ b < 192) := by
  rw [← tailB_iff]; cases tailB b <;> simp
def accB (r0 : Nat) : Nat → Nat
  | 0 => r0
  | k + 1 => 64 * accB r0 k + 63
theorem accR_le (s : ByteArray) (p r0 : Nat) : ∀ k, tails s p k → accR s p r0 k ≤ accB r0 k
  | 0, _ => Nat.le_refl _
  | k + 1, h => by
    have ih := accR_le s p r0 k (fun j hj => h j (by omega))
    have hb := (tailB_iff _).1 (h k (by omega))
    show 64 * accR s p r0 k + ((s.get! (p + 1 + k)).toNat - 128) ≤ 64 * accB r0 k + 63
    omega
theorem accR_1 (s : ByteArray) (p r0 : Nat) : accR s p r0 (2 - 1) = 64 * r0 + ((s.get! (p + 1)).toNat - 128) := rfl
theorem accR_2 (s : ByteArray) (p r0 : Nat) : accR s p r0 (3 - 1) = 64 * (64 * r0 + ((s.get! (p + 1)).toNat - 128)) + ((s.get! (p + 2)).toNat - 128) := rfl
theorem accR_3 (s : ByteArray) (p r0 : Nat) : accR s p r0 (4 - 1) = 64 * (64 * (64 * r0 + ((s.get! (p + 1)).toNat - 128)) + ((s.get! (p + 2)).toNat - 128)) + ((s.get! (p + 3)).toNat - 128) := rfl

theorem at_low (s : ByteArray) (p : Nat) (h : (s.get! p).toNat < 128) : dR s p = (s.get! p).toNat ∧ dW s p = 1 ∧ brk s p = false := by
  obtain ⟨a, b⟩ := dec_low s p h
  exact ⟨a, b, by simp [brk]; omega⟩
theorem at_dead (s : ByteArray) (p : Nat) (h : 128 ≤ (s.get! p).toNat) (h2 : (s.get! p).toNat < 192 ∨ 248 ≤ (s.get! p).toNat) : brk s p = true := by
  cases hb : brk s p with
  | true => rfl
  | false => have := shape s p hb; omega

/-- What the first byte says: how long, from what on, the least rune of that length. -/
def Kind3 (b L r0 least : Nat) : Prop := (L = 2 ∧ 192 ≤ b ∧ b < 224 ∧ r0 = b - 192 ∧ least = 128) ∨ (L = 3 ∧ 224 ≤ b ∧ b < 240 ∧ r0 = b - 224 ∧ least = 2048) ∨ (L = 4 ∧ 240 ≤ b ∧ b < 248 ∧ r0 = b - 240 ∧ least = 65536)

theorem Kind3.short {s : ByteArray} {p L r0 least : Nat} (h : Kind3 (s.get! p).toNat L r0 least) (hn : s.size < p + L) : brk s p = true := by
  cases hb : brk s p with
  | true => rfl
  | false =>
    unfold Kind3 at h
    rcases shape s p hb with c | c | c | c <;> omega
theorem Kind3.tail {s : ByteArray} {p L r0 least j : Nat} (h : Kind3 (s.get! p).toNat L r0 least) (hj : j + 1 < L) (hn : tailB (s.get! (p + 1 + j)).toNat = false) : brk s p = true := by
  cases hb : brk s p with
  | true => rfl
  | false =>
    exfalso
    have hn' := (tailB_no _).1 hn
    unfold Kind3 at h
    have hj3 : j = 0 ∨ j = 1 ∨ j = 2 := by omega
    rcases hj3 with rfl | rfl | rfl <;> simp only [Nat.add_zero, Nat.add_assoc, Nat.reduceAdd] at hn' <;> rcases shape s p hb with c | c | c | c <;> omega
theorem Kind3.done {s : ByteArray} {p L r0 least : Nat} (h : Kind3 (s.get! p).toNat L r0 least) (hs : p + L ≤ s.size) (ht : tails s p (L - 1)) :
    ((accR s p r0 (L - 1) < least ∨ runeB (accR s p r0 (L - 1)) = false) → brk s p = true) ∧
    (least ≤ accR s p r0 (L - 1) → runeB (accR s p r0 (L - 1)) = true → dR s p = accR s p r0 (L - 1) ∧ dW s p = L ∧ brk s p = false) := by
  have hd := decode_at s p
  have hb0 := get_u8 s p
  unfold Kind3 at h
  rcases h with ⟨rfl, a, b, hr0, hl⟩ | ⟨rfl, a, b, hr0, hl⟩ | ⟨rfl, a, b, hr0, hl⟩
  · have t0 := (tailB_iff _).1 (ht 0 (by omega))
    rw [Nat.add_zero] at t0
    rw [accR_1]
    obtain ⟨c, hc⟩ : ∃ c, c = 64 * r0 + ((s.get! (p + 1)).toNat - 128) := ⟨_, rfl⟩
    rw [← hc]
    refine ⟨fun h => ?_, fun h1 h2 => ?_⟩
    · cases hb : brk s p with
      | true => rfl
      | false =>
        have hr : c < 128 := by
          rcases h with h | h
          · omega
          · have : ¬ (0 ≤ (c : Int) ∧ (c : Int) ≤ 1114111 ∧ ((c : Int) < 55296 ∨ 57343 < (c : Int))) := by simpa [runeB] using h
            omega
        rcases shape s p hb with c | c | c | c <;> omega
    · rw [unshape2 _ _ _ _ _ c (by omega) (by omega) (by omega) (by omega) (by omega)] at hd
      refine ⟨congrArg Prod.fst hd, congrArg Prod.snd hd, ?_⟩
      have e : dW s p = 2 := congrArg Prod.snd hd
      simp [brk]; omega
  · have t0 := (tailB_iff _).1 (ht 0 (by omega))
    have t1 := (tailB_iff _).1 (ht 1 (by omega))
    rw [Nat.add_zero] at t0
    rw [show p + 1 + 1 = p + 2 from rfl] at t1
    rw [accR_2]
    obtain ⟨c, hc⟩ : ∃ c, c = 64 * (64 * r0 + ((s.get! (p + 1)).toNat - 128)) + ((s.get! (p + 2)).toNat - 128) := ⟨_, rfl⟩
    rw [← hc]
    refine ⟨fun h => ?_, fun h1 h2 => ?_⟩
    · cases hb : brk s p with
      | true => rfl
      | false =>
        have hr : c < 2048 ∨ ¬ (c < 55296 ∨ 57344 ≤ c) := by
          rcases h with h | h
          · exact .inl (by omega)
          · have : ¬ (0 ≤ (c : Int) ∧ (c : Int) ≤ 1114111 ∧ ((c : Int) < 55296 ∨ 57343 < (c : Int))) := by simpa [runeB] using h
            omega
        rcases shape s p hb with c | c | c | c <;> omega
    · have h2' : 0 ≤ (c : Int) ∧ (c : Int) ≤ 1114111 ∧ ((c : Int) < 55296 ∨ 57343 < (c : Int)) := by simpa [runeB] using h2
      rw [unshape3 _ _ _ _ _ c (by omega) (by omega) (by omega) (by omega) (by omega) (by omega) (by omega)] at hd
      refine ⟨congrArg Prod.fst hd, congrArg Prod.snd hd, ?_⟩
      have e : dW s p = 3 := congrArg Prod.snd hd
      simp [brk]; omega
  · have t0 := (tailB_iff _).1 (ht 0 (by omega))
    have t1 := (tailB_iff _).1 (ht 1 (by omega))
    have t2 := (tailB_iff _).1 (ht 2 (by omega))
    rw [Nat.add_zero] at t0
    rw [show p + 1 + 1 = p + 2 from rfl] at t1
    rw [show p + 1 + 2 = p + 3 from rfl] at t2
    rw [accR_3]
    obtain ⟨c, hc⟩ : ∃ c, c = 64 * (64 * (64 * r0 + ((s.get! (p + 1)).toNat - 128)) + ((s.get! (p + 2)).toNat - 128)) + ((s.get! (p + 3)).toNat - 128) := ⟨_, rfl⟩
    rw [← hc]
    refine ⟨fun h => ?_, fun h1 h2 => ?_⟩
    · cases hb : brk s p with
      | true => rfl
      | false =>
        have hr : c < 65536 ∨ 1114111 < c := by
          rcases h with h | h
          · exact .inl (by omega)
          · have : ¬ (0 ≤ (c : Int) ∧ (c : Int) ≤ 1114111 ∧ ((c : Int) < 55296 ∨ 57343 < (c : Int))) := by simpa [runeB] using h
            omega
        rcases shape s p hb with c | c | c | c <;> omega
    · have h2' : 0 ≤ (c : Int) ∧ (c : Int) ≤ 1114111 ∧ ((c : Int) < 55296 ∨ 57343 < (c : Int)) := by simpa [runeB] using h2
      rw [unshape4 _ _ _ _ _ c (by omega) (by omega) (by omega) (by omega) (by omega) (by omega) (by omega)] at hd
      refine ⟨congrArg Prod.fst hd, congrArg Prod.snd hd, ?_⟩
      have e : dW s p = 4 := congrArg Prod.snd hd
      simp [brk]; omega

theorem pieceV_brk (s : ByteArray) (p : Nat) (h : brk s p = true) : pieceV s p = .agg #[.int .i32 65533, .int .i64 p, .int .i64 1, .bool true] := by
  obtain ⟨a, b⟩ := brk_eq s p h
  unfold pieceV
  rw [a, b, h]
  rfl
theorem pieceV_not (s : ByteArray) (p r k : Nat) (a : dR s p = r) (b : dW s p = k) (h : brk s p = false) : pieceV s p = .agg #[.int .i32 r, .int .i64 p, .int .i64 k, .bool false] := by
  unfold pieceV
  rw [a, b, h]

theorem ret_v {a b : Value} (h : a = b) : Ending.returned a = .returned b := by rw [h]

end Go.Proofs.YtmechinlaladiaaDoor
namespace Go.Proofs.YtmechinlaladiaaDoor
open Go.RowKit Go.Lib
set_option linter.unusedVariables false

theorem Kind3.small {b L r0 least : Nat} (h : Kind3 b L r0 least) {s : ByteArray} {p j : Nat} (hj : j + 1 < L) (ht : tails s p j) : accR s p r0 j ≤ 33000 := by
  have e := accR_le s p r0 j ht
  have hr : (r0 ≤ 31 ∧ L = 2) ∨ (r0 ≤ 15 ∧ L = 3) ∨ (r0 ≤ 7 ∧ L = 4) := by unfold Kind3 at h; omega
  have e0 : accB r0 0 = r0 := rfl
  have e1 : accB r0 1 = 64 * r0 + 63 := rfl
  have e2 : accB r0 2 = 64 * (64 * r0 + 63) + 63 := rfl
  have hj3 : j = 0 ∨ j = 1 ∨ j = 2 := by omega
  rcases hj3 with hj3 | hj3 | hj3 <;> rw [hj3] at e ⊢ <;> omega
theorem tails_step {s : ByteArray} {p j : Nat} (h : tails s p j) (ht : tailB (s.get! (p + 1 + j)).toNat = true) : tails s p (j + 1) := fun i hi => by
  by_cases h2 : i < j
  · exact h i h2
  · obtain rfl : i = j := by omega
    exact ht
theorem tails_zero (s : ByteArray) (p : Nat) : tails s p 0 := fun i hi => by omega
theorem accR_zero (s : ByteArray) (p r0 : Nat) : accR s p r0 0 = r0 := rfl
theorem accR_succ (s : ByteArray) (p r0 k : Nat) : accR s p r0 (k + 1) = 64 * accR s p r0 k + ((s.get! (p + 1 + k)).toNat - 128) := rfl
theorem tail_of {s : ByteArray} {q : Nat} {v : Bool} (h : tailB (s.get! q).toNat = v) (i : Nat) (hi : i < s.size) (e : i = q) : tailB (s[i]'hi).toNat = v := by
  subst e; rw [← get_lt s i hi]; exact h
theorem byte_of {s : ByteArray} {q : Nat} (i : Nat) (hi : i < s.size) (e : i = q) : (s[i]'hi).toNat = (s.get! q).toNat := by
  subst e; rw [← get_lt s i hi]
theorem lead_conv (b : Nat) (c : Nat) (h : c ≤ b) : ((b : Int) - c) = ((b - c : Nat) : Int) := by omega


end Go.Proofs.YtmechinlaladiaaDoor
namespace Go.Proofs.YtmechinlaladiaaDoor
open Go.RowKit Go.Lib
set_option linter.unusedVariables false

/-- A piece's four cells. -/
def pieceC (s : ByteArray) (p : Nat) : List Value := [.int .i32 (dR s p), .int .i64 p, .int .i64 (dW s p), .bool (brk s p)]
def pieceCs (s : ByteArray) (l : List Nat) : List Value := l.flatMap (pieceC s)
theorem pieceCs_snoc (s : ByteArray) (l : List Nat) (p : Nat) : pieceCs s l ++ pieceC s p = pieceCs s (l ++ [p]) := by simp [pieceCs]
theorem pieceCs_length (s : ByteArray) (l : List Nat) : (pieceCs s l).length = 4 * l.length := by
  induction l with
  | nil => rfl
  | cons a l ih => simp only [pieceCs, List.flatMap_cons, List.length_append] at ih ⊢; rw [ih]; simp [pieceC]; omega

theorem own_below {w w' : World} {B e size n : Nat} {v : Value} {xs : List Value} (h : w.ownsRow B e size v n xs) (hb : Below w.heap.size w w') : w'.ownsRow B e size v n xs :=
  h.kept (row := none) ⟨hb.os, hb.tape, hb.output, hb.size, fun k hk _ => hb.block k hk⟩ (by cases h : v.ownBlock <;> simp)
theorem own_base {w : World} {B B' e size n : Nat} {v : Value} {xs : List Value} (h : w.ownsRow B' e size v n xs) (hB : B ≤ B') : w.ownsRow B e size v n xs :=
  ⟨h.1, h.2.imp id (fun ⟨g, cap, cur, a, b, c⟩ => ⟨g, cap, cur, a, Nat.le_trans hB b, c⟩)⟩
theorem own_shape {w : World} {B e size n : Nat} {v : Value} {xs : List Value} (h : w.ownsRow B e size v n xs) : ∃ o c, v = .slice o n c := by
  rcases h.2 with ⟨a, b⟩ | ⟨g, cap, cur, a, b⟩
  · exact ⟨none, 0, by rw [a, b]⟩
  · exact ⟨_, _, a⟩

/-- What All leaves. -/
def PiecesAt (s : ByteArray) (B : Nat) (w' : World) (v : Value) : Prop := w'.ownsRow B 72 4 v (starts s).length (pieceCs s (starts s))
def AllPost (s : ByteArray) (w : World) (e : Ending) (w' : World) : Prop := ∃ v, e = .returned v ∧ PiecesAt s w.heap.size w' v ∧ Below w.heap.size w w'

def AllRel (s : ByteArray) (w : World) (v : Value) (pos : Nat) (wr : World) (l : List Nat) (f : Nat) : Prop :=
  wr.ownsRow w.heap.size 72 4 v l.length (pieceCs s l) ∧ Below w.heap.size w wr ∧ s.size ≤ pos + f ∧ starts s = l ++ startsF s f pos

theorem piece_info : (Tryd.prog.info? 72).map (fun i => (i.zero, i.size, i.bytes)) = some (some (.agg #[.int .i32 0, .int .i64 0, .int .i64 0, .bool false]), 4, 32) := by kernel_rfl

theorem startsF_cons (s : ByteArray) (f p : Nat) (h : p < s.size) (hf : s.size ≤ p + f) : startsF s f p = p :: startsF s (f - 1) (p + dW s p) := by
  cases f with
  | zero => omega
  | succ f => simp [startsF, h]

theorem cells_new (w : World) (s : ByteArray) (p : Nat) (t : TypeId) (b : Nat) (hb : b = w.heap.size) : ∀ j u, (pieceC s p)[j]? = some u → (w.alloc (.cells #[.int .i32 (dR s p), .int .i64 p, .int .i64 (dW s p), .bool (brk s p)] t)).cell? ((⟨b, 0, none⟩ : Addr).add j) = some u := by
  subst hb
  intro j u hj
  match j, hj with
  | 0, hj => simp [pieceC] at hj; subst hj; simp [Addr.add]
  | 1, hj => simp [pieceC] at hj; subst hj; simp [Addr.add]
  | 2, hj => simp [pieceC] at hj; subst hj; simp [Addr.add]
  | 3, hj => simp [pieceC] at hj; subst hj; simp [Addr.add]
  | (j + 4), hj => simp [pieceC] at hj
theorem cells_one (s : ByteArray) (p : Nat) : ∀ u ∈ pieceC s p, u.oneCell' = true := by
  intro u hu
  simp [pieceC] at hu
  rcases hu with rfl | rfl | rfl | rfl <;> rfl

end Go.Proofs.YtmechinlaladiaaDoor
namespace Go.Proofs.YtmechinlaladiaaDoor
open Go.RowKit Go.Lib
set_option linter.unusedVariables false

theorem pieceCs_at (s : ByteArray) : ∀ (l : List Nat) (i j p : Nat), l[i]? = some p → j < 4 → (pieceCs s l)[i * 4 + j]? = (pieceC s p)[j]?
  | [], i, j, p, h, _ => by simp at h
  | a :: l, 0, j, p, h, hj => by
    simp at h; subst h
    simp only [pieceCs, List.flatMap_cons, Nat.zero_mul, Nat.zero_add]
    rw [List.getElem?_append_left (by simpa [pieceC] using hj)]
  | a :: l, i + 1, j, p, h, hj => by
    have ih := pieceCs_at s l i j p (by simpa using h) hj
    simp only [pieceCs, List.flatMap_cons] at ih ⊢
    rw [List.getElem?_append_right (by simp [pieceC]; omega), ← ih]
    congr 1
    simp [pieceC]
    omega

/-- The pieces of a text as they lie in memory, block g. -/
structure Lies (s : ByteArray) (v : Value) (w : World) (g : Nat) : Prop where
  cell : ∀ i p, (starts s)[i]? = some p → w.cell? ⟨g, i * 4, none⟩ = some (.int .i32 (dR s p)) ∧ w.cell? ⟨g, i * 4 + 1, none⟩ = some (.int .i64 p) ∧ w.cell? ⟨g, i * 4 + 2, none⟩ = some (.int .i64 (dW s p)) ∧ w.cell? ⟨g, i * 4 + 3, none⟩ = some (.bool (brk s p))
theorem pieces_lie {s : ByteArray} {B : Nat} {w : World} {v : Value} (h : PiecesAt s B w v) (hne : 0 < (starts s).length) : ∃ g c, v = .slice (some ⟨g, 0, none⟩) (starts s).length c ∧ B ≤ g ∧ g < w.heap.size ∧ Lies s v w g ∧ (starts s).length ≤ c := by
  have h0 := h
  unfold PiecesAt at h0
  rcases h0.2 with ⟨_, h1⟩ | ⟨g, cap, cur, rfl, hb, hg, hnc, _⟩
  · omega
  · refine ⟨g, cap, rfl, hb, (Array.getElem?_eq_some_iff.1 hg).1, ⟨fun i p hp => ?_⟩, hnc⟩
    have hi : i < (starts s).length := (List.getElem?_eq_some_iff.1 hp).1
    have key : ∀ j, j < 4 → w.cell? ⟨g, i * 4 + j, none⟩ = (pieceC s p)[j]? := fun j hj => by
      rw [h0.cellAt (i * 4 + j) (by omega), pieceCs_at s _ i j p hp hj]
    exact ⟨key 0 (by omega), key 1 (by omega), key 2 (by omega), key 3 (by omega)⟩

end Go.Proofs.YtmechinlaladiaaDoor
namespace Go.Proofs.YtmechinlaladiaaDoor
open Go.RowKit Go.Lib
set_option linter.unusedVariables false

mutual
theorem Tr.At_more {ns : List Nd} (x : List Nd) : ∀ {t : Tr} {i : Int}, t.At ns i → t.At (ns ++ x) i
  | .nd k r p m ts, i, h => by
    obtain ⟨h0, n, hn, h1, h2, h3, h4, h5⟩ := h
    exact ⟨h0, n, by rw [List.getElem?_append_left (List.getElem?_eq_some_iff.1 hn).1]; exact hn, h1, h2, h3, h4, Ts.Ats_more x h5⟩
theorem Ts.Ats_more {ns : List Nd} (x : List Nd) : ∀ {ts : Ts} {is : List Int}, ts.Ats ns is → ts.Ats (ns ++ x) is
  | .nil, is, h => h
  | .cons t ts, is, h => by
    obtain ⟨i, is', e, h1, h2⟩ := h
    exact ⟨i, is', e, Tr.At_more x h1, Ts.Ats_more x h2⟩
end
/-- A node stands for a tree: its kids are the tree's. -/
def Tr.Hd (ns : List Nd) (n : Nd) : Tr → Prop
  | .nd k r p m ts => n.k = k ∧ n.r = r ∧ n.p = p ∧ n.m = m ∧ ts.Ats ns n.ks
theorem Tr.Hd_At {ns : List Nd} {n : Nd} : ∀ {t : Tr}, t.Hd ns n → t.At (ns ++ [n]) (ns.length : Int)
  | .nd k r p m ts, h => by
    obtain ⟨h1, h2, h3, h4, h5⟩ := h
    exact ⟨by omega, n, by simp, h1, h2, h3, h4, Ts.Ats_more _ h5⟩
theorem ofL_Ats {ns : List Nd} : ∀ {l : List Tr} {ks : List Int} {t : Tr} {k : Int}, (ofL l).Ats ns ks → t.At ns k → (ofL (l ++ [t])).Ats ns (ks ++ [k])
  | [], ks, t, k, h, h2 => by
    have e : ks = [] := h
    subst e
    exact ⟨k, [], rfl, h2, rfl⟩
  | x :: l, ks, t, k, h, h2 => by
    obtain ⟨i, is', e, h3, h4⟩ := h
    subst e
    exact ⟨i, is' ++ [k], rfl, h3, ofL_Ats h4 h2⟩

/-- What is as it was from the first call on: the alphabet, the text, the letters, the pieces; the boxes of the reader (RB), of the closure (NB), of the pointer to the reader (PB). -/
structure RdC where
  A : Al
  s : ByteArray
  rp : Option Addr
  rb : Nat
  rc : Nat
  qv : Value
  qb : Nat
  RB : Nat
  NB : Nat
  PB : Nat
  N : Nat
  W0 : World
structure RdC.Ok (C : RdC) : Prop where
  hA : C.A.In C.W0
  row : RsIn C.rp C.rb 0 (clsR C.A 0 0) C.W0
  pcs : PiecesAt C.s C.qb C.W0 C.qv
  size : C.s.size ≤ 65536
  hN : C.W0.heap.size = C.N
  hR : C.N ≤ C.RB
  hB : C.N ≤ C.NB
  hP : C.N ≤ C.PB
  ne1 : C.RB ≠ C.NB
  ne2 : C.RB ≠ C.PB
  ne3 : C.NB ≠ C.PB
/-- The boxes. -/
def RdC.F (C : RdC) (k : Nat) : Prop := k = C.RB ∨ k = C.NB ∨ k = C.PB
def RdC.fn (C : RdC) : Value := .func (.func 30) #[] #[.pointer (some ⟨C.PB, 0, none⟩), .pointer (some ⟨C.NB, 0, none⟩)]
structure RdAt (C : RdC) (a : Nat) (v : Value) (w : World) : Prop where
  below : Below C.N C.W0 w
  c0 : w.cell? ⟨C.RB, 0, none⟩ = some (.slice C.A.pf C.A.fs.length C.A.cf)
  c1 : w.cell? ⟨C.RB, 1, none⟩ = some (.slice C.A.pl C.A.ls.length C.A.cl)
  c2 : w.cell? ⟨C.RB, 2, none⟩ = some (.slice C.rp (clsR C.A 0 0).length C.rc)
  c3 : w.cell? ⟨C.RB, 3, none⟩ = some (.string C.s)
  c4 : w.cell? ⟨C.RB, 4, none⟩ = some C.qv
  c5 : w.cell? ⟨C.RB, 5, none⟩ = some (.int .i64 a)
  c6 : w.cell? ⟨C.RB, 6, none⟩ = some v
  fz : ∀ o, w.frozen? ⟨C.RB, o, none⟩ = false
  cN : w.cell? ⟨C.NB, 0, none⟩ = some C.fn
  cP : w.cell? ⟨C.PB, 0, none⟩ = some (.pointer (some ⟨C.RB, 0, none⟩))
theorem RdAt.rlt {C : RdC} {a : Nat} {v : Value} {w : World} (h : RdAt C a v w) : C.RB < w.heap.size := blk_of_cell h.c0
theorem RdAt.keep {C : RdC} {a : Nat} {v : Value} {w w' : World} {X : Nat → Prop} (h : RdAt C a v w) (ok : C.Ok) (hb : But X w w') (hx : ∀ k, X k → C.N ≤ k ∧ ¬ C.F k) : RdAt C a v w' := by
  have hr : ¬ X C.RB := fun e => (hx _ e).2 (Or.inl rfl)
  have hn : ¬ X C.NB := fun e => (hx _ e).2 (Or.inr (Or.inl rfl))
  have hp : ¬ X C.PB := fun e => (hx _ e).2 (Or.inr (Or.inr rfl))
  have hN : C.N ≤ w.heap.size := by have := h.below.size; rw [ok.hN] at this; exact this
  exact ⟨h.below.trans (hb.below hN (fun k hk e => by have := (hx k e).1; omega)), hb.cell (p := ⟨C.RB, 0, none⟩) h.c0 hr, hb.cell (p := ⟨C.RB, 1, none⟩) h.c1 hr, hb.cell (p := ⟨C.RB, 2, none⟩) h.c2 hr, hb.cell (p := ⟨C.RB, 3, none⟩) h.c3 hr, hb.cell (p := ⟨C.RB, 4, none⟩) h.c4 hr, hb.cell (p := ⟨C.RB, 5, none⟩) h.c5 hr, hb.cell (p := ⟨C.RB, 6, none⟩) h.c6 hr,
    fun o => (hb.frozen (p := ⟨C.RB, o, none⟩) h.rlt hr).trans (h.fz o), hb.cell (p := ⟨C.NB, 0, none⟩) h.cN hn, hb.cell (p := ⟨C.PB, 0, none⟩) h.cP hp⟩
theorem RdAt.next {C : RdC} {a : Nat} {v : Value} {w w' : World} (h : RdAt C a v w) (ok : C.Ok) (hb : Below w.heap.size w w') : RdAt C a v w' := h.keep ok (But.of_below (X := fun _ => False) hb) (fun _ e => e.elim)
theorem RdAt.setAt {C : RdC} {a : Nat} {v : Value} {w : World} (h : RdAt C a v w) (ok : C.Ok) (b : Nat) : RdAt C b v (w.setCell ⟨C.RB, 5, none⟩ (.int .i64 b)) := by
  have o : ∀ {p : Addr} {u : Value}, w.cell? p = some u → p ≠ ⟨C.RB, 5, none⟩ → (w.setCell ⟨C.RB, 5, none⟩ (.int .i64 b)).cell? p = some u := fun hc hne => (World.cell?_setCell_other _ _ _ _ (fun e => hne e.symm)).trans hc
  have n1 := ok.ne1; have n2 := ok.ne2
  exact ⟨h.below.setCell (p := ⟨C.RB, 5, none⟩) ok.hR _, o h.c0 (by simp), o h.c1 (by simp), o h.c2 (by simp), o h.c3 (by simp), o h.c4 (by simp), World.cell?_setCell_same _ _ _ h.c5, o h.c6 (by simp), fun o => by rw [World.frozen?_setCell]; exact h.fz o, o h.cN (by simp), o h.cP (by simp)⟩
theorem RdAt.setV {C : RdC} {a : Nat} {v : Value} {w : World} (h : RdAt C a v w) (ok : C.Ok) (u : Value) : RdAt C a u (w.setCell ⟨C.RB, 6, none⟩ u) := by
  have o : ∀ {p : Addr} {u' : Value}, w.cell? p = some u' → p ≠ ⟨C.RB, 6, none⟩ → (w.setCell ⟨C.RB, 6, none⟩ u).cell? p = some u' := fun hc hne => (World.cell?_setCell_other _ _ _ _ (fun e => hne e.symm)).trans hc
  have n1 := ok.ne1; have n2 := ok.ne2
  exact ⟨h.below.setCell (p := ⟨C.RB, 6, none⟩) ok.hR _, o h.c0 (by simp), o h.c1 (by simp), o h.c2 (by simp), o h.c3 (by simp), o h.c4 (by simp), o h.c5 (by simp), World.cell?_setCell_same _ _ _ h.c6, fun o => by rw [World.frozen?_setCell]; exact h.fz o, o h.cN (by simp), o h.cP (by simp)⟩
/-- The nodes that were read. -/
structure RdN (C : RdC) (v : Value) (ms : List NdM) (w : World) : Prop where
  out : OutN C.N C.F v ms w
  va : ∀ k, v.ownBlock = some k → ¬ C.F k
theorem RdN.keep {C : RdC} {v : Value} {ms : List NdM} {w w' : World} {X : Nat → Prop} (h : RdN C v ms w) (hb : But X w w') (hx : ∀ k, v.ownBlock = some k → ¬ X k) (hk : ∀ m ∈ ms, 0 < m.nd.ks.length → ¬ X m.bk) : RdN C v ms w' := ⟨h.out.keep hb hx hk, h.va⟩
theorem RdN.next {C : RdC} {v : Value} {ms : List NdM} {w w' : World} (h : RdN C v ms w) (hb : Below w.heap.size w w') : RdN C v ms w' := ⟨h.out.next hb, h.va⟩
theorem RdN.setR {C : RdC} {v : Value} {ms : List NdM} {w : World} (h : RdN C v ms w) (o : Nat) (u : Value) : RdN C v ms (w.setCell ⟨C.RB, o, none⟩ u) :=
  h.keep (X := fun k => k = C.RB) ((But.refl (fun k => k = C.RB) w).setCell (p := ⟨C.RB, o, none⟩) (fun _ => rfl) u) (fun k hk e => h.va k hk (Or.inl e)) (fun m hm h0 e => (h.out.apart m hm h0).2 (Or.inl e))

/-- What grows: the nodes in hand, the kids' rows of the new ones, all else as it was. -/
structure Grow (C : RdC) (v : Value) (ms : List NdM) (w : World) (v' : Value) (ms' : List NdM) (w' : World) : Prop where
  n : RdN C v' (ms ++ ms') w'
  frk : ∀ m ∈ ms', FrK w.heap.size m w'
  but : But (fun k => k = C.RB ∨ v.ownBlock = some k) w w'
  vat : v'.ownBlock = v.ownBlock ∨ ∃ b, v'.ownBlock = some b ∧ w.heap.size ≤ b
theorem Grow.refl {C : RdC} {v : Value} {ms : List NdM} {w : World} (h : RdN C v ms w) : Grow C v ms w v [] w := ⟨by rw [List.append_nil]; exact h, fun m hm => absurd hm (by simp), But.refl _ _, Or.inl rfl⟩
theorem Grow.of {C : RdC} {v : Value} {ms : List NdM} {w w' : World} (h : RdN C v ms w') (hb : But (fun k => k = C.RB ∨ v.ownBlock = some k) w w') : Grow C v ms w v [] w' := ⟨by rw [List.append_nil]; exact h, fun m hm => absurd hm (by simp), hb, Or.inl rfl⟩
theorem Grow.trans {C : RdC} {v v1 v2 : Value} {ms m1 m2 : List NdM} {w w1 w2 : World} (hv : ∀ k, v.ownBlock = some k → k < w.heap.size) (hR : C.RB < w.heap.size) (h : Grow C v ms w v1 m1 w1) (k : Grow C v1 (ms ++ m1) w1 v2 m2 w2) : Grow C v ms w v2 (m1 ++ m2) w2 := by
  have hs := h.but.size
  have hX : ∀ i, i < w.heap.size → (i = C.RB ∨ v1.ownBlock = some i) → (i = C.RB ∨ v.ownBlock = some i) := fun i hi e => by
    rcases e with e | e
    · exact Or.inl e
    · rcases h.vat with e2 | ⟨b, e2, hb⟩
      · exact Or.inr (e2 ▸ e)
      · rw [e2] at e; cases e; omega
  refine ⟨by rw [← List.append_assoc]; exact k.n, fun m hm => ?_, h.but.trans k.but hX, ?_⟩
  · rcases List.mem_append.1 hm with hm | hm
    · have hf := h.frk m hm
      refine hf.keep k.but (fun h0 e => ?_)
      have h1 := (hf h0).1
      rcases e with e | e
      · omega
      · exact (h.n.out.apart m (List.mem_append_right _ hm) h0).1 e
    · exact (k.frk m hm).mono hs
  · rcases k.vat with e | ⟨b, e, hb⟩
    · rcases h.vat with e2 | ⟨b, e2, hb⟩
      · exact Or.inl (e.trans e2)
      · exact Or.inr ⟨b, e.trans e2, hb⟩
    · exact Or.inr ⟨b, e, by omega⟩
/-- What reads a node and keeps it: its number, or the place where something was wrong. -/
def NumPost (C : RdC) (R : Rs) (v : Value) (ms : List NdM) (w : World) (e : Ending) (w' : World) : Prop :=
  match R with
  | .error b => e = .returned (.tuple #[.int .i64 0, .bool false]) ∧ ∃ v', RdAt C b v' w' ∧ But (fun k => k = C.RB ∨ v.ownBlock = some k) w w'
  | .ok (t, b) => ∃ (k : Nat) (v' : Value) (ms' : List NdM), e = .returned (.tuple #[.int .i64 k, .bool true]) ∧ RdAt C b v' w' ∧ Grow C v ms w v' ms' w' ∧ t.At (nds (ms ++ ms')) (k : Int) ∧ ms'.length = t.sz ∧ k < (ms ++ ms').length
def noNode : Value := .agg #[.int .u8 0, .int .i32 0, .int .u32 0, .int .u32 0, .slice none 0 0]
/-- A node that was read and is not kept yet. -/
structure Fresh (C : RdC) (lo : Nat) (v' : Value) (M : NdM) (w' : World) : Prop where
  ks : KsIn M.pk M.bk M.k0 M.c M.nd.ks w'
  ap : 0 < M.nd.ks.length → ¬ v'.ownBlock = some M.bk ∧ ¬ C.F M.bk
  fr : FrK lo M w'
  ok : M.Ok
/-- What reads a node without keeping it. -/
def NodPost (C : RdC) (R : Rs) (v : Value) (ms : List NdM) (w : World) (e : Ending) (w' : World) : Prop :=
  match R with
  | .error b => e = .returned (.tuple #[noNode, .bool false]) ∧ ∃ v', RdAt C b v' w' ∧ But (fun k => k = C.RB ∨ v.ownBlock = some k) w w'
  | .ok (t, b) => ∃ (M : NdM) (v' : Value) (ms' : List NdM), e = .returned (.tuple #[M.v, .bool true]) ∧ RdAt C b v' w' ∧ Grow C v ms w v' ms' w' ∧ t.Hd (nds (ms ++ ms')) M.nd ∧ ms'.length + 1 = t.sz ∧ Fresh C w.heap.size v' M w'
theorem Fresh.leaf {C : RdC} {lo : Nat} {v' : Value} {w' : World} (k : Nat) (r : Int) (p m : Nat) (hk : k < 256) (hr : -2147483648 ≤ r ∧ r ≤ 2147483647) (hp : p < 4294967296) (hm : m < 4294967296) : Fresh C lo v' ⟨⟨k, r, p, m, []⟩, none, 0, 0, 0⟩ w' :=
  ⟨⟨fun h => absurd h (by simp), fun j hj => absurd hj (by simp), by simp, by simp, fun k hk => absurd hk (by simp)⟩, fun h => absurd h (by simp), fun h => absurd h (by simp), ⟨hk, hr, hp, hm⟩⟩
/-- The pieces, as they lie. -/
theorem RdAt.piece {C : RdC} {a : Nat} {v : Value} {w : World} (h : RdAt C a v w) (ok : C.Ok) : ∃ (pq : Option Addr) (g c : Nat), C.qv = .slice pq (starts C.s).length c ∧ (starts C.s).length ≤ c ∧ ((starts C.s).length = 0 ∨ pq = some ⟨g, 0, none⟩) ∧ ((starts C.s).length = 0 ∨ g < C.N) ∧ ∀ i p, (starts C.s)[i]? = some p → w.cell? ⟨g, i * 4, none⟩ = some (.int .i32 (dR C.s p)) ∧ w.cell? ⟨g, i * 4 + 1, none⟩ = some (.int .i64 p) ∧ w.cell? ⟨g, i * 4 + 2, none⟩ = some (.int .i64 (dW C.s p)) ∧ w.cell? ⟨g, i * 4 + 3, none⟩ = some (.bool (brk C.s p)) := by
  have hp := ok.pcs
  by_cases h0 : 0 < (starts C.s).length
  · obtain ⟨g, c, e, hb, hg, hl, hc⟩ := pieces_lie hp h0
    have hgN : g < C.N := by rw [← ok.hN]; exact hg
    refine ⟨_, g, c, e, hc, Or.inr rfl, Or.inr hgN, fun i p hi => ?_⟩
    obtain ⟨c0, c1, c2, c3⟩ := hl.cell i p hi
    exact ⟨(h.below.cell (p := ⟨g, i * 4, none⟩) hgN).trans c0, (h.below.cell (p := ⟨g, i * 4 + 1, none⟩) hgN).trans c1, (h.below.cell (p := ⟨g, i * 4 + 2, none⟩) hgN).trans c2, (h.below.cell (p := ⟨g, i * 4 + 3, none⟩) hgN).trans c3⟩
  · obtain ⟨o, c, e⟩ := own_shape hp
    have hn : (starts C.s).length = 0 := by omega
    refine ⟨o, 0, c, e, by omega, Or.inl hn, Or.inl hn, fun i p hi => ?_⟩
    have := (List.getElem?_eq_some_iff.1 hi).1
    omega
theorem RdAt.al {C : RdC} {a : Nat} {v : Value} {w : World} (h : RdAt C a v w) (ok : C.Ok) : C.A.In w := ok.hA.next (by rw [ok.hN]; exact h.below)
theorem RdAt.ro {C : RdC} {a : Nat} {v : Value} {w : World} (h : RdAt C a v w) (ok : C.Ok) : RsIn C.rp C.rb 0 (clsR C.A 0 0) w := ok.row.next (by rw [ok.hN]; exact h.below)
end Go.Proofs.YtmechinlaladiaaDoor
