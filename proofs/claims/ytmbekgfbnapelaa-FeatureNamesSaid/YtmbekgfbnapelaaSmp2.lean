/-
  WALKS: cognatelaw02.sample.
-/
import Derived.Test.YtmbekgfbnapelaaSmp
namespace Go.Proofs.Ytmbekgfbnapelaa
open Go.RowKit Go.Lib
set_option linter.unusedVariables false

def smpF : Array Value := #[.string ⟨#[118, 111, 105, 99, 101, 100]⟩, .string ⟨#[110, 97, 115, 97, 108]⟩, .string ⟨#[118, 111, 119, 101, 108]⟩]
def smpL : Array Value := #[.int .i32 112, .int .u32 0, .int .u32 7, .int .i32 98, .int .u32 1, .int .u32 6, .int .i32 109, .int .u32 3, .int .u32 4, .int .i32 97, .int .u32 5, .int .u32 2, .int .i32 104, .int .u32 0, .int .u32 0]
theorem smp_in (w : World) (b1 b2 : Nat) (h1 : ∀ j, j < 3 → w.cell? ⟨b1, j, none⟩ = smpF[j]?) (h2 : ∀ j, j < 15 → w.cell? ⟨b2, j, none⟩ = smpL[j]?) : (smp b1 b2).In w := by
  refine ⟨⟨fun _ => rfl, ?_, (show 3 ≤ 3 by omega), (show 3 ≤ 140737488355328 by omega), ?_⟩, ⟨fun _ => rfl, ?_, ?_, ?_, (show 5 ≤ 140737488355328 by omega), ?_⟩⟩
  · intro j hj
    have hj : j < 3 := hj
    show w.cell? ⟨b1, 0 + j, none⟩ = _
    rw [Nat.zero_add, h1 j hj]
    match j, hj with
    | 0, _ => rfl
    | 1, _ => rfl
    | 2, _ => rfl
  · intro j hj
    have hj : j < 3 := hj
    match j, hj with
    | 0, _ => show 6 ≤ 140737488355328; omega
    | 1, _ => show 5 ≤ 140737488355328; omega
    | 2, _ => show 5 ≤ 140737488355328; omega
  · intro j hj
    have hj : j < 5 := hj
    show w.cell? ⟨b2, 0 + j * 3, none⟩ = _
    rw [Nat.zero_add, h2 _ (by omega)]
    match j, hj with
    | 0, _ => rfl
    | 1, _ => rfl
    | 2, _ => rfl
    | 3, _ => rfl
    | 4, _ => rfl
  · intro j hj
    have hj : j < 5 := hj
    show w.cell? ⟨b2, 0 + j * 3 + 1, none⟩ = _
    rw [Nat.zero_add, h2 _ (by omega)]
    match j, hj with
    | 0, _ => rfl
    | 1, _ => rfl
    | 2, _ => rfl
    | 3, _ => rfl
    | 4, _ => rfl
  · intro j hj
    have hj : j < 5 := hj
    show w.cell? ⟨b2, 0 + j * 3 + 2, none⟩ = _
    rw [Nat.zero_add, h2 _ (by omega)]
    match j, hj with
    | 0, _ => rfl
    | 1, _ => rfl
    | 2, _ => rfl
    | 3, _ => rfl
    | 4, _ => rfl
  · intro l hl
    have hl : l ∈ smpLs := hl
    simp only [smpLs, List.mem_cons, List.not_mem_nil, or_false] at hl
    rcases hl with rfl | rfl | rfl | rfl | rfl <;> decide

set_option maxHeartbeats 400000 in
set_option maxRecDepth 100000 in
theorem sample_any (w : World) :
    Calls Try.prog 55 #[] w fun e w' => ∃ b1 b2, e = .returned (smp b1 b2).v ∧ (smp b1 b2).In w' ∧ Below w.heap.size w w' ∧ w.heap.size ≤ b1 ∧ w.heap.size ≤ b2 := by
  go_enter Try.func55, Try.ntmps55
  go_wp2_with fail
  refine bodyPost_ret (v := .agg #[.slice (some ⟨w.heap.size + 1, 0, none⟩) 3 3, .slice (some ⟨w.heap.size + 1 + 1, 0, none⟩) 5 5]) (by simp [results, Try.results55, go_sem, *]) rfl ?_
  refine ⟨w.heap.size + 1, w.heap.size + 1 + 1, rfl, smp_in _ _ _ ?_ ?_, (((Below.refl _ _).alloc (Nat.le_refl _) _).alloc (by simp) _).alloc (by simp; omega) _, by omega, by omega⟩
  · intro j hj
    rw [World.cell?_alloc_past _ _ _ (by simp), World.cell?_alloc_at _ _ _ _ (by simp)]
    rfl
  · intro j hj
    rw [World.cell?_alloc_at _ _ _ _ (by simp)]
    rfl

/-- The witness's world: the sample lies in box b, at blocks b1, b2. -/
structure Smp (w : World) (b1 b2 b : Nat) (wk : World) : Prop where
  i : (smp b1 b2).In wk
  c0 : wk.cell? ⟨b, 0, none⟩ = some (.slice (some ⟨b1, 0, none⟩) 3 3)
  c1 : wk.cell? ⟨b, 1, none⟩ = some (.slice (some ⟨b2, 0, none⟩) 5 5)
  below : Below w.heap.size w wk
  lt : b < wk.heap.size
theorem Smp.next {w : World} {b1 b2 b : Nat} {wk w' : World} (h : Smp w b1 b2 b wk) (hb : Below wk.heap.size wk w') : Smp w b1 b2 b w' :=
  ⟨h.i.next hb, (hb.cell (p := ⟨b, 0, none⟩) h.lt).trans h.c0, (hb.cell (p := ⟨b, 1, none⟩) h.lt).trans h.c1, h.below.trans (hb.mono h.below.size), Nat.lt_of_lt_of_le h.lt hb.size⟩
end Go.Proofs.Ytmbekgfbnapelaa
