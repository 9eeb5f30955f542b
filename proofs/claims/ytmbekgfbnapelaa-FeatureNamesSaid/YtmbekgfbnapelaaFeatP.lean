/-
  PLAIN: what chapter 2 says of alphabets, on lists; how an alphabet lies in memory.
-/
import Derived.Test.YtmbekgfbnapelaaSortC
import Derived.SliceStrings
import Derived.Laws.BitsAllLaws
import Derived.WalkSmall
namespace Go.Proofs.Ytmbekgfbnapelaa
open Go.RowKit Go.Lib
set_option linter.unusedVariables false

/-! ### kit -/
theorem bcell {W w1 : World} (hb : RowKit.Below W.heap.size W w1) : (∀ b o, b < W.heap.size → w1.cell? ⟨b, o, none⟩ = W.cell? ⟨b, o, none⟩) ∧ (∀ b o, b < W.heap.size → w1.frozen? ⟨b, o, none⟩ = W.frozen? ⟨b, o, none⟩) :=
  ⟨fun b o h => hb.cell (p := ⟨b, o, none⟩) h, fun b o h => hb.frozen (p := ⟨b, o, none⟩) h⟩
theorem ownF_below {w w' : World} {B e size n : Nat} {v : Value} {xs : List Value} (h : w.ownsRow B e size v n xs) (hb : RowKit.Below w.heap.size w w') : w'.ownsRow B e size v n xs := by
  refine ⟨h.1, ?_⟩
  rcases h.2 with hn | ⟨g, cap, cur, rfl, hbg, hgg, rest⟩
  · exact .inl hn
  · exact .inr ⟨g, cap, cur, rfl, hbg, (hb.block g (Array.getElem?_eq_some_iff.1 hgg).1).trans hgg, rest⟩
theorem ownF_shape {w : World} {B e size n : Nat} {v : Value} {xs : List Value} (h : w.ownsRow B e size v n xs) : ∃ o c, v = .slice o n c := by
  rcases h.2 with ⟨rfl, rfl⟩ | ⟨g, cap, cur, rfl, _⟩
  · exact ⟨_, _, rfl⟩
  · exact ⟨_, _, rfl⟩
theorem lt_of_cell {w : World} {b o : Nat} {v : Value} (h : w.cell? ⟨b, o, none⟩ = some v) : b < w.heap.size := World.block_lt_of_cell? w ⟨b, o, none⟩ h

/-! ### names -/
def azB (c : UInt8) : Bool := decide (97 ≤ c.toNat ∧ c.toNat ≤ 122)
def runL (l : List UInt8) : Nat := (l.takeWhile azB).length
/-- Where the run of a to z ends that begins at p. -/
def endOf (s : ByteArray) (p : Nat) : Nat := p + runL (s.data.toList.drop p)
theorem drop_byte (s : ByteArray) (p : Nat) (h : p < s.size) : s.data.toList.drop p = s[p] :: s.data.toList.drop (p + 1) := by
  rw [List.drop_eq_getElem_cons (by simpa using h)]
  rfl
theorem endOf_go (s : ByteArray) (p : Nat) (h : p < s.size) (ha : azB s[p] = true) : endOf s p = endOf s (p + 1) := by
  unfold endOf runL
  rw [drop_byte s p h, List.takeWhile_cons, ha]
  simp
  omega
theorem endOf_no (s : ByteArray) (p : Nat) (h : p < s.size) (ha : azB s[p] = false) : endOf s p = p := by
  unfold endOf runL
  rw [drop_byte s p h, List.takeWhile_cons, ha]
  simp
theorem endOf_end (s : ByteArray) (p : Nat) (h : ¬ p < s.size) : endOf s p = p := by
  unfold endOf runL
  rw [List.drop_eq_nil_of_le (by simpa using h)]
  rfl
theorem runL_le (l : List UInt8) : runL l ≤ l.length := List.Sublist.length_le (List.takeWhile_sublist _)
theorem endOf_le (s : ByteArray) (p : Nat) (h : p ≤ s.size) : endOf s p ≤ s.size := by
  have := runL_le (s.data.toList.drop p)
  unfold endOf
  simp only [List.length_drop] at this
  have e : s.data.toList.length = s.size := by simp
  omega
theorem endOf_ge (s : ByteArray) (p : Nat) : p ≤ endOf s p := by unfold endOf; omega
theorem runL_all (l : List UInt8) : runL l = l.length ↔ l.all azB = true := by
  induction l with
  | nil => simp [runL]
  | cons c l ih =>
    unfold runL at ih ⊢
    rw [List.takeWhile_cons]
    cases h : azB c with
    | true => simp [h]; simpa using ih
    | false => simp [h]
def nameB (s : ByteArray) : Bool := decide (1 ≤ s.size ∧ s.size ≤ 32) && s.data.toList.all azB
theorem endOf_all (s : ByteArray) : endOf s 0 = s.size ↔ s.data.toList.all azB = true := by
  unfold endOf
  rw [← runL_all]
  have e : s.data.toList.length = s.size := by simp
  simp [e]

/-! ### features -/
def featsB (fs : List ByteArray) : Bool := decide (fs.length ≤ 24) && (List.range fs.length).all fun k => nameB (fs.getD k ByteArray.empty) && !Lib.containsS (fs.take k) (fs.getD k ByteArray.empty)
theorem featsB_iff (fs : List ByteArray) : featsB fs = true ↔ fs.length ≤ 24 ∧ ∀ k, k < fs.length → nameB (fs.getD k ByteArray.empty) = true ∧ Lib.containsS (fs.take k) (fs.getD k ByteArray.empty) = false := by
  unfold featsB
  simp [List.all_eq_true]
theorem featsB_bad (fs : List ByteArray) (k : Nat) (hk : k < fs.length) (h : nameB (fs.getD k ByteArray.empty) = false ∨ Lib.containsS (fs.take k) (fs.getD k ByteArray.empty) = true) : featsB fs = false := by
  cases hf : featsB fs with
  | false => rfl
  | true =>
    have := ((featsB_iff fs).1 hf).2 k hk
    rcases h with h | h
    · rw [h] at this; exact absurd this.1 (by simp)
    · rw [h] at this; exact absurd this.2 (by simp)

/-! ### letters -/
structure Ltr where
  r : Int
  p : Nat
  m : Nat
  deriving DecidableEq, Inhabited
def letB (r : Int) : Bool := (decide (97 ≤ r ∧ r ≤ 122) || decide (65 ≤ r ∧ r ≤ 90)) || (decide (161 ≤ r ∧ r ≠ 65533) && Lib.validRune r)
def allN (k : Nat) : Nat := 2 ^ k - 1
def clsB (k p m : Nat) : Bool := decide ((p ||| m) &&& (4294967295 - allN k) = 0) && decide (p &&& m = 0)
def ltrB (k : Nat) (l : Ltr) : Bool := letB l.r && clsB k l.p l.m
def ltrsB (k : Nat) (ls : List Ltr) : Bool := decide (1 ≤ ls.length ∧ ls.length ≤ 128) && ls.all (ltrB k) && decide (ls.map Ltr.r).Nodup
def alB (fs : List ByteArray) (ls : List Ltr) : Bool := featsB fs && ltrsB fs.length ls
theorem allN_lt {k : Nat} (h : k ≤ 24) : allN k < 16777216 := by
  have : 2 ^ k ≤ 2 ^ 24 := Nat.pow_le_pow_right (by decide) h
  have h0 : 0 < 2 ^ k := Nat.two_pow_pos k
  unfold allN
  omega

/-! ### in memory -/
structure Al where
  pf : Option Addr
  bf : Nat
  f0 : Nat
  cf : Nat
  fs : List ByteArray
  pl : Option Addr
  bl : Nat
  l0 : Nat
  cl : Nat
  ls : List Ltr
def Al.v (A : Al) : Value := .agg #[.slice A.pf A.fs.length A.cf, .slice A.pl A.ls.length A.cl]
def Al.ok (A : Al) : Bool := alB A.fs A.ls
structure FsIn (pf : Option Addr) (bf f0 cf : Nat) (fs : List ByteArray) (w : World) : Prop where
  at_ : 0 < fs.length → pf = some ⟨bf, f0, none⟩
  cells : ∀ j, j < fs.length → w.cell? ⟨bf, f0 + j, none⟩ = some (.string (fs.getD j ByteArray.empty))
  room : fs.length ≤ cf
  big : fs.length ≤ 140737488355328
  small : ∀ j, j < fs.length → (fs.getD j ByteArray.empty).size ≤ 140737488355328
structure LsIn (pl : Option Addr) (bl l0 : Nat) (ls : List Ltr) (w : World) : Prop where
  at_ : 0 < ls.length → pl = some ⟨bl, l0, none⟩
  cr : ∀ j, j < ls.length → w.cell? ⟨bl, l0 + j * 3, none⟩ = some (.int .i32 (ls.getD j default).r)
  cp : ∀ j, j < ls.length → w.cell? ⟨bl, l0 + j * 3 + 1, none⟩ = some (.int .u32 (ls.getD j default).p)
  cm : ∀ j, j < ls.length → w.cell? ⟨bl, l0 + j * 3 + 2, none⟩ = some (.int .u32 (ls.getD j default).m)
  big : ls.length ≤ 140737488355328
  bits : ∀ l ∈ ls, l.p < 4294967296 ∧ l.m < 4294967296 ∧ -2147483648 ≤ l.r ∧ l.r ≤ 2147483647
structure Al.In (A : Al) (w : World) : Prop where
  F : FsIn A.pf A.bf A.f0 A.cf A.fs w
  L : LsIn A.pl A.bl A.l0 A.ls w
theorem FsIn.next {pf : Option Addr} {bf f0 cf : Nat} {fs : List ByteArray} {w w' : World} (h : FsIn pf bf f0 cf fs w) (hb : RowKit.Below w.heap.size w w') : FsIn pf bf f0 cf fs w' :=
  ⟨h.at_, fun j hj => by have h1 := h.cells j hj; rw [hb.cell (p := ⟨bf, f0 + j, none⟩) (lt_of_cell h1)]; exact h1, h.room, h.big, h.small⟩
theorem LsIn.next {pl : Option Addr} {bl l0 : Nat} {ls : List Ltr} {w w' : World} (h : LsIn pl bl l0 ls w) (hb : RowKit.Below w.heap.size w w') : LsIn pl bl l0 ls w' :=
  ⟨h.at_, fun j hj => by have h1 := h.cr j hj; rw [hb.cell (p := ⟨bl, l0 + j * 3, none⟩) (lt_of_cell h1)]; exact h1,
    fun j hj => by have h1 := h.cp j hj; rw [hb.cell (p := ⟨bl, l0 + j * 3 + 1, none⟩) (lt_of_cell h1)]; exact h1,
    fun j hj => by have h1 := h.cm j hj; rw [hb.cell (p := ⟨bl, l0 + j * 3 + 2, none⟩) (lt_of_cell h1)]; exact h1, h.big, h.bits⟩
theorem Al.In.next {A : Al} {w w' : World} (h : A.In w) (hb : RowKit.Below w.heap.size w w') : A.In w' := ⟨h.F.next hb, h.L.next hb⟩
theorem Al.In.alloc {A : Al} {w : World} (h : A.In w) (o : Obj) : A.In (w.alloc o) := h.next ((RowKit.Below.refl _ _).alloc (Nat.le_refl _) _)
theorem LsIn.get {pl : Option Addr} {bl l0 : Nat} {ls : List Ltr} {w : World} (h : LsIn pl bl l0 ls w) (j : Nat) (hj : j < ls.length) :
    (ls.getD j default).p < 4294967296 ∧ (ls.getD j default).m < 4294967296 ∧ -2147483648 ≤ (ls.getD j default).r ∧ (ls.getD j default).r ≤ 2147483647 := by
  rw [List.getD_eq_getElem?_getD, List.getElem?_eq_getElem hj]
  exact h.bits _ (List.getElem_mem hj)

end Go.Proofs.Ytmbekgfbnapelaa
