/-
  WALKS: cognatelaw03.abc, awake.
-/
import Derived.Test.YtcibjgkifafohaaGreatDoorWdQ
namespace Go.Proofs.YtcibjgkifafohaaGreatDoor
open Go.RowKit Go.Lib
set_option linter.unusedVariables false

def abcFs : List ByteArray := [⟨#[118]⟩]
def abcLs : List Ltr := [⟨97, 1, 0⟩, ⟨98, 0, 1⟩, ⟨99, 0, 1⟩]
def abcA (b1 b2 : Nat) : Al := ⟨some ⟨b1, 0, none⟩, b1, 0, 1, abcFs, some ⟨b2, 0, none⟩, b2, 0, 3, abcLs⟩
theorem abcA_v (b1 b2 : Nat) : (abcA b1 b2).v = .agg #[.slice (some ⟨b1, 0, none⟩) 1 1, .slice (some ⟨b2, 0, none⟩) 3 3] := rfl
theorem abc_ok : alB abcFs abcLs = true := by kernel_rfl
theorem abc_ok' (b1 b2 : Nat) : (abcA b1 b2).ok = true := abc_ok
def abcF : Array Value := #[.string ⟨#[118]⟩]
def abcL : Array Value := #[.int .i32 97, .int .u32 1, .int .u32 0, .int .i32 98, .int .u32 0, .int .u32 1, .int .i32 99, .int .u32 0, .int .u32 1]
theorem abc_in (w : World) (b1 b2 : Nat) (h1 : ∀ j, j < 1 → w.cell? ⟨b1, j, none⟩ = abcF[j]?) (h2 : ∀ j, j < 9 → w.cell? ⟨b2, j, none⟩ = abcL[j]?) : (abcA b1 b2).In w := by
  refine ⟨⟨fun _ => rfl, ?_, (show 1 ≤ 1 by omega), (show 1 ≤ 140737488355328 by omega), ?_⟩, ⟨fun _ => rfl, ?_, ?_, ?_, (show 3 ≤ 140737488355328 by omega), ?_⟩⟩
  · intro j hj
    have hj : j < 1 := hj
    show w.cell? ⟨b1, 0 + j, none⟩ = _
    rw [Nat.zero_add, h1 j hj]
    match j, hj with
    | 0, _ => rfl
  · intro j hj
    have hj : j < 1 := hj
    match j, hj with
    | 0, _ => show 1 ≤ 140737488355328; omega
  · intro j hj
    have hj : j < 3 := hj
    show w.cell? ⟨b2, 0 + j * 3, none⟩ = _
    rw [Nat.zero_add, h2 _ (by omega)]
    match j, hj with
    | 0, _ => rfl
    | 1, _ => rfl
    | 2, _ => rfl
  · intro j hj
    have hj : j < 3 := hj
    show w.cell? ⟨b2, 0 + j * 3 + 1, none⟩ = _
    rw [Nat.zero_add, h2 _ (by omega)]
    match j, hj with
    | 0, _ => rfl
    | 1, _ => rfl
    | 2, _ => rfl
  · intro j hj
    have hj : j < 3 := hj
    show w.cell? ⟨b2, 0 + j * 3 + 2, none⟩ = _
    rw [Nat.zero_add, h2 _ (by omega)]
    match j, hj with
    | 0, _ => rfl
    | 1, _ => rfl
    | 2, _ => rfl
  · intro l hl
    have hl : l ∈ abcLs := hl
    simp only [abcLs, List.mem_cons, List.not_mem_nil, or_false] at hl
    rcases hl with rfl | rfl | rfl <;> decide

theorem abc_row (b1 b2 : Nat) : rowL (abcA b1 b2) = [97, 98, 99] := rfl
theorem abc_let (b1 b2 : Nat) : letE (abcA b1 b2) ⟨#[97, 98, 99]⟩ = 0 ∧ letL (abcA b1 b2) ⟨#[97, 98, 99]⟩ = [97, 98, 99] := by
  have hs : (⟨#[97, 98, 99]⟩ : ByteArray) = strOf (textL [97, 98, 99]) := by kernel_rfl
  obtain ⟨h1, h2⟩ := word_rd (row := rowL (abcA b1 b2)) (row_runes (abc_ok' b1 b2)) (l := [97, 98, 99]) ⟨by decide, fun r hr => by rw [abc_row]; exact hr⟩
  rw [← hs] at h1 h2
  unfold letE letL rdL
  rw [abc_ok', if_pos rfl, if_pos rfl, if_pos h1]
  exact ⟨h1, h2⟩
theorem abc_tur (b1 b2 : Nat) : turR (abcA b1 b2) ⟨#[97, 98, 99]⟩ = ⟨#[99, 98, 97]⟩ := by
  obtain ⟨h1, h2⟩ := abc_let b1 b2
  unfold turR
  rw [if_pos h1, h2]
  kernel_rfl
set_option maxHeartbeats 400000 in
set_option maxRecDepth 100000 in
theorem abc_any (w : World) :
    Calls Tryz.prog 17 #[] w fun e w' => ∃ b1 b2, e = .returned (abcA b1 b2).v ∧ (abcA b1 b2).In w' ∧ Below w.heap.size w w' := by
  go_enter Tryz.func17, Tryz.ntmps17
  go_wp2_with fail
  refine bodyPost_ret (v := .agg #[.slice (some ⟨w.heap.size + 1, 0, none⟩) 1 1, .slice (some ⟨w.heap.size + 1 + 1, 0, none⟩) 3 3]) (by simp [results, Tryz.results17, go_sem, *]) rfl ?_
  refine ⟨w.heap.size + 1, w.heap.size + 1 + 1, rfl, abc_in _ _ _ ?_ ?_, (((Below.refl _ _).alloc (Nat.le_refl _) _).alloc (by simp) _).alloc (by simp; omega) _⟩
  · intro j hj
    rw [World.cell?_alloc_past _ _ _ (by simp), World.cell?_alloc_at _ _ _ _ (by simp)]
    rfl
  · intro j hj
    rw [World.cell?_alloc_at _ _ _ _ (by simp)]
    rfl
theorem u_tur (b1 b2 : Nat) (w : World) (h : (abcA b1 b2).In w) (hT : Tabs w) : Calls Tryz.prog 16 #[(abcA b1 b2).v, .string ⟨#[97, 98, 99]⟩] w fun e w' => e = .returned (.tuple #[.string ⟨#[99, 98, 97]⟩, .int .i64 0]) ∧ Below w.heap.size w w' := by
  refine (turned_any (abcA b1 b2) ⟨#[97, 98, 99]⟩ w h hT).mono ?_
  rintro e w' ⟨he, hb⟩
  rw [abc_tur, (abc_let b1 b2).1] at he
  exact ⟨he, hb⟩
set_option maxHeartbeats 2000000 in
set_option maxRecDepth 100000 in
theorem awake_any (w : World) (hT : Tabs w) :
    Calls Tryz.prog 4 #[] w fun e w' => e = .returned (.bool true) ∧ Below w.heap.size w w' := by
  have HSA := Lib.hid abc_any
  have H1 := Lib.hid u_tur
  have HT := Lib.hid hT
  clear hT
  go_enter Tryz.func4, Tryz.ntmps4
  go_wp2_with fail
  refine (HSA.out _).mono ?_
  rintro e w1 ⟨b1, b2, rfl, hin, hb⟩
  rw [abcA_v]
  have HIN := Lib.hid hin; have HB := Lib.hid hb
  clear hin hb
  go_wp2_with fail
  rw [← abcA_v]
  refine (H1.out _ _ _ HIN.out (HT.out.next HB.out)).mono ?_
  rintro e w2 ⟨rfl, hb2⟩
  have HB2 := Lib.hid (HB.out.trans (hb2.mono HB.out.size))
  clear hb2
  go_wp2_with fail
  go_ret
  exact ⟨rfl, HB2.out⟩
end Go.Proofs.YtcibjgkifafohaaGreatDoor
