/-
  PLAIN LEAN: a rune's bytes, a list of runes as a text, a text mended. And the WALK of the document's answer cognateref01.one.
-/
import Derived.Test.YtmbekgfbnapelaaDoorAll
import Derived.Lib.UnsafeStr
import Derived.Laws.Cover4
namespace Go.Proofs.YtmbekgfbnapelaaDoor
open Go.RowKit Go.Lib
set_option linter.unusedVariables false

def encL (r : Int) : List UInt8 := (Utf8.encode r).data.toList
def textL (ns : List Int) : List UInt8 := ns.flatMap encL
def strOf (l : List UInt8) : ByteArray := ⟨l.toArray⟩

theorem valid_of {r : Nat} (h0 : 0 ≤ r) (h1 : r ≤ 1114111) (h : r < 55296 ∨ 57344 ≤ r) : Utf8.valid (r : Int) = true := by
  rw [validRune_eq]
  exact decide_eq_true (by omega)
theorem encode_form (r : Int) (hv : Utf8.valid r = true) : Utf8.encode r = (if r.toNat < 128 then ⟨#[UInt8.ofNat r.toNat]⟩
    else if r.toNat < 2048 then ⟨#[UInt8.ofNat (192 + r.toNat / 64), UInt8.ofNat (128 + r.toNat % 64)]⟩
    else if r.toNat < 65536 then ⟨#[UInt8.ofNat (224 + r.toNat / 4096), UInt8.ofNat (128 + r.toNat / 64 % 64), UInt8.ofNat (128 + r.toNat % 64)]⟩
    else ⟨#[UInt8.ofNat (240 + r.toNat / 262144), UInt8.ofNat (128 + r.toNat / 4096 % 64), UInt8.ofNat (128 + r.toNat / 64 % 64), UInt8.ofNat (128 + r.toNat % 64)]⟩) := by
  unfold Utf8.encode
  simp only [hv, if_true]
theorem encL_of (r : Int) (b : ByteArray) (l : List UInt8) (h : Utf8.encode r = b) (hb : b.data.toList = l) : encL r = l := by
  have e : encL r = (Utf8.encode r).data.toList := rfl
  rw [e, h, hb]
theorem encode_1 (r : Nat) (h : r < 128) : encL r = [UInt8.ofNat r] := by
  have hv : Utf8.valid (r : Int) = true := valid_of (by omega) (by omega) (by omega)
  have e := encode_form r hv
  rw [Int.toNat_natCast, if_pos h] at e
  exact encL_of _ _ _ e rfl
theorem encode_2 (r : Nat) (h1 : 128 ≤ r) (h2 : r < 2048) : encL r = [UInt8.ofNat (192 + r / 64), UInt8.ofNat (128 + r % 64)] := by
  have hv : Utf8.valid (r : Int) = true := valid_of (by omega) (by omega) (by omega)
  have e := encode_form r hv
  rw [Int.toNat_natCast, if_neg (by omega), if_pos h2] at e
  exact encL_of _ _ _ e rfl
theorem encode_3 (r : Nat) (h1 : 2048 ≤ r) (h2 : r < 65536) (h3 : r < 55296 ∨ 57344 ≤ r) : encL r = [UInt8.ofNat (224 + r / 4096), UInt8.ofNat (128 + r / 64 % 64), UInt8.ofNat (128 + r % 64)] := by
  have hv : Utf8.valid (r : Int) = true := valid_of (by omega) (by omega) (by omega)
  have e := encode_form r hv
  rw [Int.toNat_natCast, if_neg (by omega), if_neg (by omega), if_pos h2] at e
  exact encL_of _ _ _ e rfl
theorem encode_4 (r : Nat) (h1 : 65536 ≤ r) (h2 : r ≤ 1114111) : encL r = [UInt8.ofNat (240 + r / 262144), UInt8.ofNat (128 + r / 4096 % 64), UInt8.ofNat (128 + r / 64 % 64), UInt8.ofNat (128 + r % 64)] := by
  have hv : Utf8.valid (r : Int) = true := valid_of (by omega) (by omega) (by omega)
  have e := encode_form r hv
  rw [Int.toNat_natCast, if_neg (by omega), if_neg (by omega), if_neg (by omega)] at e
  exact encL_of _ _ _ e rfl
theorem encode_bad (r : Int) (h : runeB r = false) : encL r = [239, 191, 189] := by
  have hv : Utf8.valid r = false := by
    have h' := of_decide_eq_false h
    rw [validRune_eq]
    exact decide_eq_false (by omega)
  have e : Utf8.encode r = Utf8.encode (65533 : Int) := by
    unfold Utf8.encode
    have h2 : Utf8.valid (65533 : Int) = true := by rw [validRune_eq]; exact decide_eq_true (by omega)
    rw [hv, h2]
    rfl
  have h3 := encode_3 65533 (by omega) (by omega) (by omega)
  exact encL_of _ _ _ e h3
theorem encL_length (r : Int) : 1 ≤ (encL r).length ∧ (encL r).length ≤ 4 := by
  unfold encL Utf8.encode
  simp only
  repeat' split
  all_goals simp
theorem u8_cell (n : Nat) (h : n < 256) : Value.int .u8 ((UInt8.ofNat n).toNat : Nat) = .int .u8 n := by
  rw [UInt8.toNat_ofNat_of_lt' h]

/-- A slice of bytes of the call's own, just these. -/
def BytesAt (l : List UInt8) (w' : World) (v : Value) (g : Nat) : Prop := v = .slice (some ⟨g, 0, none⟩) l.length l.length ∧ ∀ j u, (byteCells l)[j]? = some u → w'.cell? ((⟨g, 0, none⟩ : Addr).add j) = some u
def OnePost (l : List UInt8) (w : World) (e : Ending) (w' : World) : Prop := ∃ v g, e = .returned v ∧ BytesAt l w' v g ∧ w.heap.size ≤ g ∧ Below w.heap.size w w'

theorem cells_lit (w : World) (l : List Value) (t : TypeId) : ∀ j u, l[j]? = some u → (w.alloc (.cells l.toArray t)).cell? ((⟨w.heap.size, 0, none⟩ : Addr).add j) = some u := by
  intro j u hj
  rw [Addr.add_lit, Nat.zero_add, World.cell?_alloc_mark]
  simpa using hj

set_option maxRecDepth 100000 in
set_option maxHeartbeats 1000000 in
theorem one_1 (r : Nat) (w : World) (h : r < 128) : Calls Tryd.prog 28 #[.int .i32 r] w (OnePost (encL r) w) := by
  have hl := encode_1 r h
  have hc : byteCells (encL r) = [.int .u8 r] := by rw [hl]; simp only [byteCells, List.map_cons, List.map_nil]; rw [u8_cell r (by omega)]
  have hn : (encL r).length = 1 := by rw [hl]; rfl
  have hfin : OnePost (encL r) w (.returned (.slice (some ⟨w.heap.size, 0, none⟩) 1 1)) (w.alloc (.cells #[.int .u8 r] 5)) :=
    ⟨_, w.heap.size, rfl, ⟨by rw [hn], by rw [hc]; exact cells_lit w [.int .u8 r] _⟩, Nat.le_refl _, (Below.refl _ _).alloc (Nat.le_refl _) _⟩
  have HF := Lib.hid hfin
  have hru : runeB (r : Int) = true := decide_eq_true (by omega)
  have HR := Lib.hid hru
  clear hl hc hn hfin hru
  go_enter Tryd.func28, Tryd.ntmps28
  go_wp2_with fail
  refine (rune_is _ true _ HR.out).mono ?_
  rintro e w1 ⟨rfl, rfl⟩
  go_wp2_with fail
  go_ret
  exact HF.out
set_option maxRecDepth 100000 in
set_option maxHeartbeats 1000000 in
theorem one_2 (r : Nat) (w : World) (h1 : 128 ≤ r) (h : r < 2048) : Calls Tryd.prog 28 #[.int .i32 r] w (OnePost (encL r) w) := by
  have hl := encode_2 r h1 h
  have hc : byteCells (encL r) = [.int .u8 (192 + r / 64 : Nat), .int .u8 (128 + r % 64 : Nat)] := by rw [hl]; simp only [byteCells, List.map_cons, List.map_nil]; rw [u8_cell _ (by omega), u8_cell _ (by omega)]
  have hn : (encL r).length = 2 := by rw [hl]; rfl
  have hfin : OnePost (encL r) w (.returned (.slice (some ⟨w.heap.size, 0, none⟩) 2 2)) (w.alloc (.cells #[.int .u8 (192 + r / 64 : Nat), .int .u8 (128 + r % 64 : Nat)] 5)) :=
    ⟨_, w.heap.size, rfl, ⟨by rw [hn], by rw [hc]; exact cells_lit w [_, _] _⟩, Nat.le_refl _, (Below.refl _ _).alloc (Nat.le_refl _) _⟩
  have HF := Lib.hid hfin
  have hru : runeB (r : Int) = true := decide_eq_true (by omega)
  have HR := Lib.hid hru
  clear hl hc hn hfin hru
  go_enter Tryd.func28, Tryd.ntmps28
  go_wp2_with fail
  refine (rune_is _ true _ HR.out).mono ?_
  rintro e w1 ⟨rfl, rfl⟩
  go_wp2_with fail
  go_ret
  exact HF.out
set_option maxRecDepth 100000 in
set_option maxHeartbeats 1000000 in
theorem one_3 (R : Int) (w : World) (h1 : 2048 ≤ R) (h : R < 65536) (h3 : R < 55296 ∨ 57344 ≤ R) : Calls Tryd.prog 28 #[.int .i32 R] w (OnePost (encL R) w) := by
  have hc : byteCells (encL R) = [.int .u8 (224 + R / 4096), .int .u8 (128 + R / 64 % 64), .int .u8 (128 + R % 64)] ∧ (encL R).length = 3 := by
    obtain ⟨r, rfl⟩ := Int.eq_ofNat_of_zero_le (show 0 ≤ R by omega)
    have hl := encode_3 r (by omega) (by omega) (by omega)
    rw [hl]
    refine ⟨?_, rfl⟩
    simp only [byteCells, List.map_cons, List.map_nil]
    rw [u8_cell _ (by omega), u8_cell _ (by omega), u8_cell _ (by omega)]
    rfl
  obtain ⟨hc, hn⟩ := hc
  have hfin : OnePost (encL R) w (.returned (.slice (some ⟨w.heap.size, 0, none⟩) 3 3)) (w.alloc (.cells #[.int .u8 (224 + R / 4096), .int .u8 (128 + R / 64 % 64), .int .u8 (128 + R % 64)] 5)) :=
    ⟨_, w.heap.size, rfl, ⟨by rw [hn], by rw [hc]; exact cells_lit w [_, _, _] _⟩, Nat.le_refl _, (Below.refl _ _).alloc (Nat.le_refl _) _⟩
  have HF := Lib.hid hfin
  have hru : runeB R = true := decide_eq_true (by omega)
  have HR := Lib.hid hru
  clear hc hn hfin hru
  go_enter Tryd.func28, Tryd.ntmps28
  go_wp2_with fail
  refine (rune_is _ true _ HR.out).mono ?_
  rintro e w1 ⟨rfl, rfl⟩
  go_wp2_with fail
  go_ret
  exact HF.out
set_option maxRecDepth 100000 in
set_option maxHeartbeats 1000000 in
theorem one_4 (R : Int) (w : World) (h1 : 65536 ≤ R) (h : R ≤ 1114111) : Calls Tryd.prog 28 #[.int .i32 R] w (OnePost (encL R) w) := by
  have hc : byteCells (encL R) = [.int .u8 (240 + R / 262144), .int .u8 (128 + R / 4096 % 64), .int .u8 (128 + R / 64 % 64), .int .u8 (128 + R % 64)] ∧ (encL R).length = 4 := by
    obtain ⟨r, rfl⟩ := Int.eq_ofNat_of_zero_le (show 0 ≤ R by omega)
    have hl := encode_4 r (by omega) (by omega)
    rw [hl]
    refine ⟨?_, rfl⟩
    simp only [byteCells, List.map_cons, List.map_nil]
    rw [u8_cell _ (by omega), u8_cell _ (by omega), u8_cell _ (by omega), u8_cell _ (by omega)]
    rfl
  obtain ⟨hc, hn⟩ := hc
  have hfin : OnePost (encL R) w (.returned (.slice (some ⟨w.heap.size, 0, none⟩) 4 4)) (w.alloc (.cells #[.int .u8 (240 + R / 262144), .int .u8 (128 + R / 4096 % 64), .int .u8 (128 + R / 64 % 64), .int .u8 (128 + R % 64)] 5)) :=
    ⟨_, w.heap.size, rfl, ⟨by rw [hn], by rw [hc]; exact cells_lit w [_, _, _, _] _⟩, Nat.le_refl _, (Below.refl _ _).alloc (Nat.le_refl _) _⟩
  have HF := Lib.hid hfin
  have hru : runeB R = true := decide_eq_true (by omega)
  have HR := Lib.hid hru
  clear hc hn hfin hru
  go_enter Tryd.func28, Tryd.ntmps28
  go_wp2_with fail
  refine (rune_is _ true _ HR.out).mono ?_
  rintro e w1 ⟨rfl, rfl⟩
  go_wp2_with fail
  go_ret
  exact HF.out
set_option maxRecDepth 100000 in
set_option maxHeartbeats 1000000 in
theorem one_bad (r : Int) (w : World) (h : runeB r = false) : Calls Tryd.prog 28 #[.int .i32 r] w (OnePost (encL r) w) := by
  have hl := encode_bad r h
  have hc : byteCells (encL r) = [.int .u8 239, .int .u8 191, .int .u8 189] := by rw [hl]; rfl
  have hn : (encL r).length = 3 := by rw [hl]; rfl
  have hfin : OnePost (encL r) w (.returned (.slice (some ⟨w.heap.size, 0, none⟩) 3 3)) (w.alloc (.cells #[.int .u8 239, .int .u8 191, .int .u8 189] 5)) :=
    ⟨_, w.heap.size, rfl, ⟨by rw [hn], by rw [hc]; exact cells_lit w [_, _, _] _⟩, Nat.le_refl _, (Below.refl _ _).alloc (Nat.le_refl _) _⟩
  have HF := Lib.hid hfin
  have HR := Lib.hid h
  clear hl hc hn hfin h
  go_enter Tryd.func28, Tryd.ntmps28
  go_wp2_with fail
  refine (rune_is _ false _ HR.out).mono ?_
  rintro e w1 ⟨rfl, rfl⟩
  go_wp2_with fail
  go_ret
  exact HF.out
theorem one_any (r : Int) (w : World) : Calls Tryd.prog 28 #[.int .i32 r] w (OnePost (encL r) w) := by
  cases hr : runeB r with
  | false => exact one_bad r w hr
  | true =>
    have h' := of_decide_eq_true hr
    obtain ⟨n, rfl⟩ := Int.eq_ofNat_of_zero_le h'.1
    by_cases h1 : n < 128
    · exact one_1 n w h1
    by_cases h2 : n < 2048
    · exact one_2 n w (by omega) h2
    by_cases h3 : n < 65536
    · exact one_3 n w (by omega) (by omega) (by omega)
    · exact one_4 n w (by omega) (by omega)
end Go.Proofs.YtmbekgfbnapelaaDoor
