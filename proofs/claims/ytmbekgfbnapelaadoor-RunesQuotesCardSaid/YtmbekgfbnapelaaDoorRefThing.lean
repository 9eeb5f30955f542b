/-
  WALKS: the document's thing.
-/
import Derived.Test.YtmbekgfbnapelaaDoorThingP
import Derived.Test.YtmbekgfbnapelaaDoorRefQuote
import Derived.Test.YtmbekgfbnapelaaDoorAt2
import Derived.StillTailTactics
namespace Go.Proofs.YtmbekgfbnapelaaDoor
open Go.RowKit Go.Lib
set_option linter.unusedVariables false

/-- What thing answers: how many bytes, and the bytes that it stands for, where there are any. -/
def ThPost (t : List UInt8 × Nat) (w : World) (e : Ending) (w' : World) : Prop := ∃ v, e = .returned (.tuple #[v, .int .i64 t.2]) ∧ (t.2 ≠ 0 → ∃ g, BytesAt t.1 w' v g) ∧ Below w.heap.size w w'
theorem th_none {t : List UInt8 × Nat} {w w' : World} (h : t = ([], 0)) (hb : Below w.heap.size w w') : ThPost t w (.returned (.tuple #[.slice none 0 0, .int .i64 0])) w' := by
  subst h; exact ⟨_, rfl, fun h => absurd rfl h, hb⟩
theorem th_one {t : List UInt8 × Nat} {w W : World} {x : UInt8} {n : Nat} {i c : Int} (h : t = ([x], n)) (hi : i = n) (hc : c = x.toNat) (hb : Below w.heap.size w W) (hz : w.heap.size ≤ W.heap.size) :
    ThPost t w (.returned (.tuple #[.slice (some ⟨W.heap.size, 0, none⟩) 1 1, .int .i64 i])) (W.alloc (.cells #[.int .u8 c] 5)) := by
  subst h; subst hi; subst hc
  exact ⟨_, rfl, fun _ => ⟨_, rfl, cells_lit W (byteCells [x]) _⟩, hb.alloc hz _⟩
theorem th_many {t : List UInt8 × Nat} {w W w' : World} {l : List UInt8} {n g : Nat} {i : Int} {v : Value} (h : t = (l, n)) (hi : i = n) (hv : BytesAt l w' v g) (hb : Below w.heap.size w w') :
    ThPost t w (.returned (.tuple #[v, .int .i64 i])) w' := by
  subst h; subst hi
  exact ⟨_, rfl, fun _ => ⟨_, hv⟩, hb⟩

set_option maxRecDepth 100000 in
set_option maxHeartbeats 2000000 in
theorem thing_plain (s : ByteArray) (a : Nat) (w : World) (ha : a < s.size) (hs : s.size ≤ 1073741824) (h0 : ¬ (s.get! a).toNat = 92) (h1 : ¬ (s.get! a).toNat = 34) :
    Calls Tryd.prog 27 #[.string s, .int .i64 a] w (ThPost (thing (s.extract a s.size)) w) := by
  have hx := get_run' s a ha a rfl
  have hxl := get_u8 s a
  have e0 : (s.extract a s.size).get! 0 = s.get! a := ext_get s a s.size 0 (by omega) (Nat.le_refl _)
  have HTh : Hid (thing (s.extract a s.size) = if 32 ≤ (s.get! a).toNat ∧ (s.get! a).toNat ≤ 126 then ([s.get! a], 1) else ([], 0)) := by show thing _ = _; unfold thing; rw [e0, if_pos h0]
  obtain ⟨T, hT⟩ : ∃ T, T = thing (s.extract a s.size) := ⟨_, rfl⟩
  rw [← hT] at HTh ⊢
  obtain ⟨y, hy⟩ : ∃ y, y = s.get! a := ⟨_, rfl⟩
  rw [← hy] at hx hxl HTh h0 h1
  obtain ⟨x, hxe⟩ : ∃ x, x = y.toNat := ⟨_, rfl⟩
  rw [← hxe] at hx hxl HTh h0 h1
  have q0 : ((x : Int) == 92) = false := by rw [beq_eq_false_iff_ne]; omega
  have q1 : ((x : Int) == 34) = false := by rw [beq_eq_false_iff_ne]; omega
  have HXe := Lib.hid hxe
  clear hT hy hxe e0
  have hc : x < 32 ∨ (32 ≤ x ∧ 126 < x) ∨ (32 ≤ x ∧ x ≤ 126) := by omega
  rcases hc with hc | ⟨hc1, hc2⟩ | ⟨hc1, hc2⟩
  · have HR : Hid (T = ([], 0)) := by show T = _; rw [HTh.out, if_neg (by omega)]
    have d1 : ¬ (32 : Int) ≤ (x : Int) := by omega
    clear hc HTh h0 h1
    go_enter Tryd.func27, Tryd.ntmps27
    go_wp2_with fail
    go_ret2
    exact th_none HR.out (Below.refl _ _)
  · have HR : Hid (T = ([], 0)) := by show T = _; rw [HTh.out, if_neg (by omega)]
    have d1 : (32 : Int) ≤ (x : Int) := by omega
    have d2 : ¬ (x : Int) ≤ 126 := by omega
    clear hc1 hc2 HTh h0 h1
    go_enter Tryd.func27, Tryd.ntmps27
    go_wp2_with fail
    go_ret2
    exact th_none HR.out (Below.refl _ _)
  · have HR : Hid (T = ([y], 1)) := by show T = _; rw [HTh.out, if_pos ⟨by omega, by omega⟩]
    have d1 : (32 : Int) ≤ (x : Int) := by omega
    have d2 : (x : Int) ≤ 126 := by omega
    clear hc1 hc2 HTh h0 h1
    go_enter Tryd.func27, Tryd.ntmps27
    go_wp2_with fail
    go_ret2
    exact th_one HR.out rfl (by rw [HXe.out]) (Below.refl _ _) (Nat.le_refl _)

/-- The second byte of an escape, and what stands behind it. -/
theorem thing_esc {s : ByteArray} {a : Nat} (ha : a + 1 < s.size) (h0 : (s.get! a).toNat = 92) :
    thing (s.extract a s.size) = if (s.get! (a + 1)).toNat = 34 ∨ (s.get! (a + 1)).toNat = 92 then ([s.get! (a + 1)], 2)
      else if (s.get! (a + 1)).toNat = 120 then (match readB (s.extract (a + 2) s.size) with | some n => ([UInt8.ofNat n], 4) | none => ([], 0))
      else if (s.get! (a + 1)).toNat = 117 then (if 0 < (readR (s.extract (a + 2) s.size)).2 then (encL (readR (s.extract (a + 2) s.size)).1, 2 + (readR (s.extract (a + 2) s.size)).2) else ([], 0))
      else ([], 0) := by
  have e0 : (s.extract a s.size).get! 0 = s.get! a := ext_get s a s.size 0 (by omega) (Nat.le_refl _)
  have e1 : (s.extract a s.size).get! 1 = s.get! (a + 1) := ext_get s a s.size 1 (by omega) (Nat.le_refl _)
  have e2 : (s.extract a s.size).extract 2 (s.extract a s.size).size = s.extract (a + 2) s.size := by
    rw [ByteArray.extract_extract]
    congr 1
    simp; omega
  unfold thing
  rw [e0, e1, e2, if_neg (fun hh => hh h0), if_neg (by simp; omega)]
  rfl

set_option maxRecDepth 100000 in
set_option maxHeartbeats 2000000 in
theorem thing_short (s : ByteArray) (a : Nat) (w : World) (ha : a < s.size) (hs : s.size ≤ 1073741824) (h0 : (s.get! a).toNat = 92) (h : a + 1 = s.size) :
    Calls Tryd.prog 27 #[.string s, .int .i64 a] w (ThPost (thing (s.extract a s.size)) w) := by
  have hx := get_run' s a ha a rfl
  rw [h0] at hx
  have e0 : (s.extract a s.size).get! 0 = s.get! a := ext_get s a s.size 0 (by omega) (Nat.le_refl _)
  have HR : Hid (thing (s.extract a s.size) = ([], 0)) := by show thing _ = _; unfold thing; rw [e0, if_neg (fun hh => hh h0), if_pos (by simp; omega)]
  obtain ⟨T, hT⟩ : ∃ T, T = thing (s.extract a s.size) := ⟨_, rfl⟩
  rw [← hT] at HR ⊢
  have d1 : (s.size : Int) ≤ (a : Int) + 1 := by omega
  have hx : ∀ (wx : World), (Instr.index 9 (.string s) (.int .i64 a)).run Tryd.prog wx = .ok (.int .u8 92) wx := hx
  clear hT e0 h0 h
  go_enter Tryd.func27, Tryd.ntmps27
  go_wp2_with fail
  go_ret2
  exact th_none HR.out (Below.refl _ _)

set_option maxRecDepth 100000 in
set_option maxHeartbeats 4000000 in
theorem thing_two (s : ByteArray) (a : Nat) (w : World) (hs : s.size ≤ 1073741824) (h0 : (s.get! a).toNat = 92) (ha : a + 1 < s.size) (h2 : ¬ (s.get! (a + 1)).toNat = 120) (h3 : ¬ (s.get! (a + 1)).toNat = 117) :
    Calls Tryd.prog 27 #[.string s, .int .i64 a] w (ThPost (thing (s.extract a s.size)) w) := by
  have hx := get_run' s a (by omega) a rfl
  rw [h0] at hx
  have hx : ∀ (wx : World), (Instr.index 9 (.string s) (.int .i64 a)).run Tryd.prog wx = .ok (.int .u8 92) wx := hx
  have hX := get_run' s (a + 1) ha ((a : Int) + 1) (by omega)
  have hxl := get_u8 s (a + 1)
  have HTh := Lib.hid (thing_esc ha h0)
  obtain ⟨T, hT⟩ : ∃ T, T = thing (s.extract a s.size) := ⟨_, rfl⟩
  rw [← hT] at HTh ⊢
  obtain ⟨y, hy⟩ : ∃ y, y = s.get! (a + 1) := ⟨_, rfl⟩
  rw [← hy] at hX hxl HTh h2 h3
  obtain ⟨x, hxe⟩ : ∃ x, x = y.toNat := ⟨_, rfl⟩
  rw [← hxe] at hX hxl HTh h2 h3
  have HXe := Lib.hid hxe
  have q2 : ((x : Int) == 120) = false := by rw [beq_eq_false_iff_ne]; omega
  have q3 : ((x : Int) == 117) = false := by rw [beq_eq_false_iff_ne]; omega
  have d1 : (a : Int) + 1 < (s.size : Int) := by omega
  have d2 : ¬ (s.size : Int) ≤ (a : Int) + 1 := by omega
  clear hT hy hxe h0
  by_cases a1 : x = 34
  · have HR : Hid (T = ([y], 2)) := by show T = _; rw [HTh.out, if_pos (Or.inl a1)]
    have a1' : ((x : Int) == 34) = true := by rw [beq_iff_eq]; omega
    clear a1 h2 h3 HTh
    go_enter Tryd.func27, Tryd.ntmps27
    go_wp2_with fail
    go_ret2
    exact th_one HR.out rfl (by rw [HXe.out]) (Below.refl _ _) (Nat.le_refl _)
  have a1' : ((x : Int) == 34) = false := by rw [beq_eq_false_iff_ne]; omega
  by_cases a2 : x = 92
  · have HR : Hid (T = ([y], 2)) := by show T = _; rw [HTh.out, if_pos (Or.inr a2)]
    have a2' : ((x : Int) == 92) = true := by rw [beq_iff_eq]; omega
    clear a1 a2 h2 h3 HTh
    go_enter Tryd.func27, Tryd.ntmps27
    go_wp2_with fail
    go_ret2
    exact th_one HR.out rfl (by rw [HXe.out]) (Below.refl _ _) (Nat.le_refl _)
  · have a2' : ((x : Int) == 92) = false := by rw [beq_eq_false_iff_ne]; omega
    have HR : Hid (T = ([], 0)) := by show T = _; rw [HTh.out, if_neg (by omega), if_neg h2, if_neg h3]
    clear a1 a2 h2 h3 HTh
    go_enter Tryd.func27, Tryd.ntmps27
    go_wp2_with fail
    go_ret2
    exact th_none HR.out (Below.refl _ _)
end Go.Proofs.YtmbekgfbnapelaaDoor
