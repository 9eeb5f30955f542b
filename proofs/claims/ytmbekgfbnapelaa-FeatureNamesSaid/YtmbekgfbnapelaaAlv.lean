/-
  WALKS: cognatelaw02.alive: it answers true.
-/
import Derived.Test.YtmbekgfbnapelaaSmp2
namespace Go.Proofs.Ytmbekgfbnapelaa
open Go.RowKit Go.Lib
set_option linter.unusedVariables false
theorem u_class (b1 b2 : Nat) (w : World) (h : (smp b1 b2).In w) : Calls Try.prog 14 #[.agg #[.slice (some ⟨b1, 0, none⟩) 3 3, .slice (some ⟨b2, 0, none⟩) 5 5], .int .u32 1, .int .u32 4] w
    fun e w' => ∃ g c, e = .returned (.tuple #[.slice (some ⟨g, 0, none⟩) 2 c, .int .i64 0]) ∧ (w'.cell? ⟨g, 0, none⟩ = some (.int .i32 98) ∧ w'.cell? ⟨g, 1, none⟩ = some (.int .i32 109) ∧ 2 ≤ c) ∧ Below w.heap.size w w' := by
  have hc := class_any (smp b1 b2) 1 4 w h (by omega) (by omega)
  refine hc.mono ?_
  rintro e w' ⟨v, he, ho, hb⟩
  rw [smp_class] at ho
  rw [smp_aac b1 b2 1 4 (by decide)] at he
  rcases ho.2 with ⟨_, hn⟩ | ⟨g, cap, cur, rfl, _, _, hcap, _⟩
  · exact absurd hn (by decide)
  · exact ⟨g, cap, he, ⟨by rw [ho.cellAt 0 (by decide)]; rfl, by rw [ho.cellAt 1 (by decide)]; rfl, hcap⟩, hb⟩
/-- The class that was told lies at block g. -/
structure Cl2 (g : Nat) (wk : World) : Prop where
  a : wk.cell? ⟨g, 0, none⟩ = some (.int .i32 98)
  b : wk.cell? ⟨g, 1, none⟩ = some (.int .i32 109)
theorem Cl2.next {g : Nat} {wk w' : World} (h : Cl2 g wk) (hb : Below wk.heap.size wk w') : Cl2 g w' :=
  ⟨(hb.cell (p := ⟨g, 0, none⟩) (lt_of_cell h.a)).trans h.a, (hb.cell (p := ⟨g, 1, none⟩) (lt_of_cell h.b)).trans h.b⟩
theorem u_near (b1 b2 : Nat) (w : World) (h : (smp b1 b2).In w) : Calls Try.prog 16 #[.agg #[.slice (some ⟨b1, 0, none⟩) 3 3, .slice (some ⟨b2, 0, none⟩) 5 5], .int .i32 98, .int .u32 2, .int .u32 1] w
    fun e w' => e = .returned (.tuple #[.int .i32 112, .int .i64 0]) ∧ Below w.heap.size w w' := by
  have hc := near_any (smp b1 b2) 98 2 1 w h (by omega) (by omega)
  rw [smp_near] at hc
  exact hc
theorem u_far (b1 b2 : Nat) (w : World) (h : (smp b1 b2).In w) : Calls Try.prog 15 #[.agg #[.slice (some ⟨b1, 0, none⟩) 3 3, .slice (some ⟨b2, 0, none⟩) 5 5], .int .i32 112, .int .i32 104] w
    fun e w' => e = .returned (.tuple #[.int .i64 3, .int .i64 0]) ∧ Below w.heap.size w w' := by
  have hc := far_any (smp b1 b2) 112 104 w h
  rw [smp_far] at hc
  exact hc
theorem u_least (b1 b2 : Nat) (w : World) (h : (smp b1 b2).In w) : Calls Try.prog 10 #[.agg #[.slice (some ⟨b1, 0, none⟩) 3 3, .slice (some ⟨b2, 0, none⟩) 5 5], .slice (some ⟨w.heap.size, 0, none⟩) 2 2] (w.alloc (.cells #[.int .i32 98, .int .i32 109] 21))
    fun e w' => e = .returned (.tuple #[.int .u32 1, .int .u32 4, .int .i64 0]) ∧ Below w.heap.size w w' := by
  have hc := least_any (smp b1 b2) (some ⟨w.heap.size, 0, none⟩) w.heap.size 0 2 [98, 109] (w.alloc (.cells #[.int .i32 98, .int .i32 109] 21)) (h.alloc _) ⟨fun _ => rfl, fun j hj => by
    rw [World.cell?_alloc_at _ _ _ _ rfl]
    have hj : j < 2 := hj
    match j, hj with
    | 0, _ => rfl
    | 1, _ => rfl, by decide⟩
  rw [smp_least] at hc
  refine hc.mono ?_
  rintro e w' ⟨he, hb⟩
  exact ⟨he, ((Below.refl _ _).alloc (Nat.le_refl _) _).trans (hb.mono (by simp))⟩
theorem u_text (b1 b2 : Nat) (w : World) (h : (smp b1 b2).In w) : Calls Try.prog 25 #[.agg #[.slice (some ⟨b1, 0, none⟩) 3 3, .slice (some ⟨b2, 0, none⟩) 5 5], .int .u32 1, .int .u32 6] w
    fun e w' => e = .returned (.tuple #[.string ⟨#[43, 118, 111, 105, 99, 101, 100, 45, 110, 97, 115, 97, 108, 45, 118, 111, 119, 101, 108]⟩, .int .i64 0]) ∧ Below w.heap.size w w' := by
  have hc := textF_any (smp b1 b2) 1 6 w h (by omega) (by omega)
  rw [smp_text] at hc
  exact hc
theorem u_par1 (b1 b2 : Nat) (w : World) (h : (smp b1 b2).In w) : Calls Try.prog 26 #[.agg #[.slice (some ⟨b1, 0, none⟩) 3 3, .slice (some ⟨b2, 0, none⟩) 5 5], .string ⟨#[45, 118, 111, 119, 101, 108, 43, 118, 111, 105, 99, 101, 100]⟩] w
    fun e w' => e = .returned (.tuple #[.int .u32 1, .int .u32 4, .int .i64 0, .int .i64 0]) ∧ Below w.heap.size w w' := by
  have hc := parse_any (smp b1 b2) ⟨#[45, 118, 111, 119, 101, 108, 43, 118, 111, 105, 99, 101, 100]⟩ w h
  rw [smp_par1] at hc
  exact hc
theorem u_par2 (b1 b2 : Nat) (w : World) (h : (smp b1 b2).In w) : Calls Try.prog 26 #[.agg #[.slice (some ⟨b1, 0, none⟩) 3 3, .slice (some ⟨b2, 0, none⟩) 5 5], .string ⟨#[43, 118, 111, 105, 99, 101, 100, 45, 118, 111, 105, 99, 101, 100]⟩] w
    fun e w' => e = .returned (.tuple #[.int .u32 0, .int .u32 0, .int .i64 7, .int .i64 20]) ∧ Below w.heap.size w w' := by
  have hc := parse_any (smp b1 b2) ⟨#[43, 118, 111, 105, 99, 101, 100, 45, 118, 111, 105, 99, 101, 100]⟩ w h
  rw [smp_par2] at hc
  exact hc
theorem u_has (b1 b2 : Nat) (w : World) (h : (smp b1 b2).In w) : Calls Try.prog 13 #[.agg #[.slice (some ⟨b1, 0, none⟩) 3 3, .slice (some ⟨b2, 0, none⟩) 5 5], .int .i32 98, .int .u32 1, .int .u32 2] w
    fun e w' => e = .returned (.tuple #[.bool true, .int .i64 0]) ∧ Below w.heap.size w w' := by
  have hc := hasF_any (smp b1 b2) 98 1 2 w h (by omega) (by omega)
  rw [smp_has] at hc
  exact hc
theorem u_check (b1 b2 : Nat) (w : World) (h : (smp b1 b2).In w) : Calls Try.prog 9 #[.agg #[.slice (some ⟨b1, 0, none⟩) 3 3, .slice (some ⟨b2, 0, none⟩) 5 5]] w
    fun e w' => e = .returned (.int .i64 0) ∧ Below w.heap.size w w' := by
  have hc := check_any (smp b1 b2) w h
  rw [smp_chk] at hc
  exact hc
theorem u_check0 (w : World) : Calls Try.prog 9 #[.agg #[.slice none 0 0, .slice none 0 0]] w
    fun e w' => e = .returned (.int .i64 7) ∧ Below w.heap.size w w' := by
  have hc := check_any nilAl w (nilAl_in w)
  rw [nil_chk] at hc
  exact hc
end Go.Proofs.Ytmbekgfbnapelaa
