/-
  WALKS: slices.Equal at []int; pattern.alike; slices.EqualFunc at []api.Node.
-/
import Derived.Test.YtnlojgomildajaaPtr
namespace Go.Proofs.Ytnlojgomildajaa
open Go.RowKit Go.Lib
set_option linter.unusedVariables false
/-- Up to j two rows are one. -/
def EqTo (a b : List Int) (j : Nat) : Prop := ∀ i, i < j → a.getD i 0 = b.getD i 0
theorem eqTo_all {a b : List Int} (hl : a.length = b.length) (h : EqTo a b a.length) : a = b := by
  apply List.ext_getElem hl
  intro i h1 h2
  have := h i h1
  rwa [List.getD_eq_getElem?_getD, List.getD_eq_getElem?_getD, List.getElem?_eq_getElem h1, List.getElem?_eq_getElem h2] at this
set_option maxHeartbeats 4000000 in
set_option maxRecDepth 100000 in
theorem equal_any (pa pb : Option Addr) (ba a0 ca bb b0 cb : Nat) (a b : List Int) (w : World) (hA : KsIn pa ba a0 ca a w) (hB : KsIn pb bb b0 cb b w) (B : Bool) (hBT : B = true ↔ a = b) :
    Calls Try.prog 43 #[.slice pa a.length ca, .slice pb b.length cb] w fun e w' => e = .returned (.bool B) ∧ Below w.heap.size w w' := by
  by_cases hl : a.length = b.length
  · obtain ⟨n, hn⟩ : ∃ n, n = a.length := ⟨_, rfl⟩
    have hbig := hA.big
    rw [← hl, ← hn]
    rw [← hn] at hbig
    have HA := Lib.hid hA; have HB := Lib.hid hB; have HN := Lib.hid hn; have HL := Lib.hid hl
    clear hA hB hn hl
    go_enter Try.func43, Try.ntmps43
    go_wp2_with fail
    go_loopw [13] (fun iv wr => ∃ j : Nat, iv = .int .i64 j ∧ j ≤ n ∧ Hid (EqTo a b j) ∧ Hid (Below w.heap.size w wr)) (fun iv _ => n - (intOf iv).toNat)
    case atStart => exact ⟨0, rfl, by omega, Lib.hid (fun i hi => by omega), Lib.hid (Below.refl _ _)⟩
    case round =>
      obtain ⟨j, rfl, hj, HE, HBW⟩ := hrel
      by_cases hjn : j < n
      · have hja : j < a.length := by have := HN.out; omega
        have hjb : j < b.length := by have := HN.out; have := HL.out; omega
        obtain rfl := HA.out.at_ (by omega)
        obtain rfl := HB.out.at_ (by omega)
        have ca0 := (HA.out.next HBW.out).cells j hja
        have cb0 := (HB.out.next HBW.out).cells j hjb
        obtain ⟨x, hx⟩ : ∃ x, x = a.getD j 0 := ⟨_, rfl⟩
        obtain ⟨y, hy⟩ : ∃ y, y = b.getD j 0 := ⟨_, rfl⟩
        rw [← hx] at ca0
        rw [← hy] at cb0
        have HX := Lib.hid hx; have HY := Lib.hid hy
        have HJ := Lib.hid (show j + 1 ≤ n from hjn)
        clear hx hy hja hjb
        by_cases hxy : x = y
        · subst hxy
          go_wp2_with fail
          go_region
          go_wp2_with fail
          go_roundw
          case rel => exact ⟨j + 1, by go_num, HJ.out, Lib.hid (fun i hi => by
            by_cases e : i = j
            · rw [e, ← HX.out, ← HY.out]
            · exact HE.out i (by omega)), Lib.hid (HBW.out.drew)⟩
          case measure => have := HJ.out; simp [intOf]; omega
        · obtain rfl : B = false := by
            cases hBB : B with
            | false => rfl
            | true => exact absurd (hBT.1 hBB) (fun e => hxy (by rw [HX.out, HY.out, e]))
          have hxy2 : (x != y) = true := by simpa using hxy
          clear hBT
          go_wp2_with fail
          go_region
          go_wp2_with fail
          go_ret
          exact ⟨rfl, HBW.out.drew⟩
      · obtain rfl : j = n := by omega
        obtain rfl : B = true := hBT.2 (eqTo_all HL.out (by rw [← HN.out]; exact HE.out))
        clear hBT
        go_wp2_with fail
        go_ret
        exact ⟨rfl, HBW.out⟩
  · obtain rfl : B = false := by
      cases hBB : B with
      | false => rfl
      | true => exact absurd (hBT.1 hBB) (fun e => hl (by rw [e]))
    have h1 : ¬ (a.length : Int) = (b.length : Int) := by omega
    clear hA hB hBT
    go_enter Try.func43, Try.ntmps43
    go_wp2_with fail
    go_ret
    exact ⟨rfl, Below.refl _ _⟩
end Go.Proofs.Ytnlojgomildajaa
