/-
  WALKS: cognatelaw02.alive answers true.
-/
import Derived.Test.YtmbekgfbnapelaaAlv
namespace Go.Proofs.Ytmbekgfbnapelaa
open Go.RowKit Go.Lib
set_option linter.unusedVariables false
set_option maxHeartbeats 2000000 in
set_option maxRecDepth 100000 in
theorem alive_any (w : World) :
    Calls Try.prog 7 #[] w fun e w' => e = .returned (.bool true) ∧ Below w.heap.size w w' := by
  have HSA := Lib.hid sample_any
  have H1 := Lib.hid u_class; have H2 := Lib.hid u_near; have H3 := Lib.hid u_far; have H4 := Lib.hid u_least; have H5 := Lib.hid u_text; have H6 := Lib.hid u_par1; have H7 := Lib.hid u_par2; have H8 := Lib.hid u_has; have H9 := Lib.hid u_check; have H10 := Lib.hid u_check0
  go_enter Try.func7, Try.ntmps7
  go_wp2_with fail
  refine (HSA.out _).mono ?_
  rintro e w1 ⟨b1, b2, rfl, hin, hb, hle1, hle2⟩
  rw [smp_v]
  have HIN := Lib.hid hin; have HB := Lib.hid hb
  clear hin hb
  go_wp2_with fail
  have hs : Smp w b1 b2 w1.heap.size (w1.alloc (.cells #[.slice (some ⟨b1, 0, none⟩) 3 3, .slice (some ⟨b2, 0, none⟩) 5 5] 26)) :=
    ⟨HIN.out.alloc _, by simp, by simp, HB.out.alloc HB.out.size _, by simp⟩
  have HS := Lib.hid hs
  clear hs
  refine (H1.out _ _ _ HS.out.i).mono ?_
  rintro e w2 ⟨g, cg, rfl, ⟨hg0, hg1, hcg⟩, hb⟩
  have hs := HS.out.next hb
  have HL := Lib.hid (show Cl2 g w2 from ⟨hg0, hg1⟩)
  obtain ⟨c0, c1, hlt⟩ : w2.cell? ⟨w1.heap.size, 0, none⟩ = some (.slice (some ⟨b1, 0, none⟩) 3 3) ∧ w2.cell? ⟨w1.heap.size, 1, none⟩ = some (.slice (some ⟨b2, 0, none⟩) 5 5) ∧ w1.heap.size < w2.heap.size := ⟨hs.c0, hs.c1, hs.lt⟩
  clear HS
  have HS := Lib.hid hs
  clear hs hb hg0 hg1 HIN HB
  go_wp2_with fail
  refine (H2.out _ _ _ HS.out.i).mono ?_
  rintro e w3 ⟨rfl, hb⟩
  have hs := HS.out.next hb
  have hl := HL.out.next hb
  obtain ⟨c0, c1, hlt⟩ : w3.cell? ⟨w1.heap.size, 0, none⟩ = some (.slice (some ⟨b1, 0, none⟩) 3 3) ∧ w3.cell? ⟨w1.heap.size, 1, none⟩ = some (.slice (some ⟨b2, 0, none⟩) 5 5) ∧ w1.heap.size < w3.heap.size := ⟨hs.c0, hs.c1, hs.lt⟩
  clear HS HL
  have HS := Lib.hid hs
  have HL := Lib.hid hl
  clear hs hl hb
  clear H1 H2
  go_wp2_with fail
  refine (H3.out _ _ _ HS.out.i).mono ?_
  rintro e w4 ⟨rfl, hb⟩
  have hs := HS.out.next hb
  have hl := HL.out.next hb
  obtain ⟨c0, c1, hlt⟩ : w4.cell? ⟨w1.heap.size, 0, none⟩ = some (.slice (some ⟨b1, 0, none⟩) 3 3) ∧ w4.cell? ⟨w1.heap.size, 1, none⟩ = some (.slice (some ⟨b2, 0, none⟩) 5 5) ∧ w1.heap.size < w4.heap.size := ⟨hs.c0, hs.c1, hs.lt⟩
  clear HS HL
  have HS := Lib.hid hs
  have HL := Lib.hid hl
  clear hs hl hb
  clear H3
  go_wp2_with fail
  refine (H4.out _ _ _ HS.out.i).mono ?_
  rintro e w5 ⟨rfl, hb⟩
  have hs := HS.out.next hb
  have hl := HL.out.next hb
  obtain ⟨c0, c1, hlt⟩ : w5.cell? ⟨w1.heap.size, 0, none⟩ = some (.slice (some ⟨b1, 0, none⟩) 3 3) ∧ w5.cell? ⟨w1.heap.size, 1, none⟩ = some (.slice (some ⟨b2, 0, none⟩) 5 5) ∧ w1.heap.size < w5.heap.size := ⟨hs.c0, hs.c1, hs.lt⟩
  clear HS HL
  have HS := Lib.hid hs
  have HL := Lib.hid hl
  clear hs hl hb
  clear H4
  go_wp2_with fail
  refine (H5.out _ _ _ HS.out.i).mono ?_
  rintro e w6 ⟨rfl, hb⟩
  have hs := HS.out.next hb
  have hl := HL.out.next hb
  obtain ⟨c0, c1, hlt⟩ : w6.cell? ⟨w1.heap.size, 0, none⟩ = some (.slice (some ⟨b1, 0, none⟩) 3 3) ∧ w6.cell? ⟨w1.heap.size, 1, none⟩ = some (.slice (some ⟨b2, 0, none⟩) 5 5) ∧ w1.heap.size < w6.heap.size := ⟨hs.c0, hs.c1, hs.lt⟩
  clear HS HL
  have HS := Lib.hid hs
  have HL := Lib.hid hl
  clear hs hl hb
  clear H5
  go_wp2_with fail
  refine (H6.out _ _ _ HS.out.i).mono ?_
  rintro e w7 ⟨rfl, hb⟩
  have hs := HS.out.next hb
  have hl := HL.out.next hb
  obtain ⟨c0, c1, hlt⟩ : w7.cell? ⟨w1.heap.size, 0, none⟩ = some (.slice (some ⟨b1, 0, none⟩) 3 3) ∧ w7.cell? ⟨w1.heap.size, 1, none⟩ = some (.slice (some ⟨b2, 0, none⟩) 5 5) ∧ w1.heap.size < w7.heap.size := ⟨hs.c0, hs.c1, hs.lt⟩
  clear HS HL
  have HS := Lib.hid hs
  have HL := Lib.hid hl
  clear hs hl hb
  clear H6
  go_wp2_with fail
  refine (H7.out _ _ _ HS.out.i).mono ?_
  rintro e w8 ⟨rfl, hb⟩
  have hs := HS.out.next hb
  have hl := HL.out.next hb
  obtain ⟨c0, c1, hlt⟩ : w8.cell? ⟨w1.heap.size, 0, none⟩ = some (.slice (some ⟨b1, 0, none⟩) 3 3) ∧ w8.cell? ⟨w1.heap.size, 1, none⟩ = some (.slice (some ⟨b2, 0, none⟩) 5 5) ∧ w1.heap.size < w8.heap.size := ⟨hs.c0, hs.c1, hs.lt⟩
  clear HS HL
  have HS := Lib.hid hs
  have HL := Lib.hid hl
  clear hs hl hb
  clear H7
  go_wp2_with fail
  refine (H8.out _ _ _ HS.out.i).mono ?_
  rintro e w9 ⟨rfl, hb⟩
  have hs := HS.out.next hb
  have hl := HL.out.next hb
  obtain ⟨c0, c1, hlt⟩ : w9.cell? ⟨w1.heap.size, 0, none⟩ = some (.slice (some ⟨b1, 0, none⟩) 3 3) ∧ w9.cell? ⟨w1.heap.size, 1, none⟩ = some (.slice (some ⟨b2, 0, none⟩) 5 5) ∧ w1.heap.size < w9.heap.size := ⟨hs.c0, hs.c1, hs.lt⟩
  clear HS HL
  have HS := Lib.hid hs
  have HL := Lib.hid hl
  clear hs hl hb
  clear H8
  have hga := HL.out.a
  have hgb := HL.out.b
  go_wp2_with fail
  refine (H9.out _ _ _ HS.out.i).mono ?_
  rintro e w10 ⟨rfl, hb⟩
  have hs := HS.out.next hb
  clear HS
  have HS := Lib.hid hs
  clear hs hb H9 hga hgb c0 c1 hlt
  go_wp2_with fail
  refine (H10.out _).mono ?_
  rintro e w11 ⟨rfl, hb⟩
  have hs := HS.out.next hb
  clear HS
  have HS := Lib.hid hs
  clear hs hb H10
  go_wp2_with fail
  go_ret
  exact ⟨rfl, HS.out.below⟩
end Go.Proofs.Ytmbekgfbnapelaa
