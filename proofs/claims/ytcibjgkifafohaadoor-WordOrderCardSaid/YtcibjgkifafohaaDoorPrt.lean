/-
  WALKS: cognatelaw03.WordParts where a word may not be.
-/
import Derived.Test.YtcibjgkifafohaaDoorWdA
namespace Go.Proofs.YtcibjgkifafohaaDoor
open Go.RowKit Go.Lib
set_option linter.unusedVariables false

/-- A law's world: the alphabet's value lies in box b. -/
structure Wx (A : Al) (F L : Value) (w : World) (b : Nat) (wk : World) : Prop where
  i : A.In wk
  t : Tabs wk
  c0 : wk.cell? ⟨b, 0, none⟩ = some F
  c1 : wk.cell? ⟨b, 1, none⟩ = some L
  below : Below w.heap.size w wk
  lt : b < wk.heap.size
theorem Wx.next {A : Al} {F L : Value} {w : World} {b : Nat} {wk w' : World} (h : Wx A F L w b wk) (hb : Below wk.heap.size wk w') : Wx A F L w b w' :=
  ⟨h.i.next hb, h.t.next hb, (hb.cell (p := ⟨b, 0, none⟩) h.lt).trans h.c0, (hb.cell (p := ⟨b, 1, none⟩) h.lt).trans h.c1, h.below.trans (hb.mono h.below.size), Nat.lt_of_lt_of_le h.lt hb.size⟩
theorem Wx.alloc {A : Al} {F L : Value} {w : World} {b : Nat} {wk : World} (h : Wx A F L w b wk) (o : Obj) : Wx A F L w b (wk.alloc o) := h.next ((Below.refl _ _).alloc (Nat.le_refl _) _)
theorem Wx.start {A : Al} {F L : Value} {w : World} (h : A.In w) (hT : Tabs w) : Wx A F L w w.heap.size (w.alloc (.cells #[F, L] 34)) :=
  ⟨h.alloc _, hT.next ((Below.refl _ _).alloc (Nat.le_refl _) _), by simp, by simp, (Below.refl _ _).alloc (Nat.le_refl _) _, by simp⟩
theorem awake_w (A : Al) (W : World) (_ : A.In W) (hT : Tabs W) : Calls Tryd.prog 16 #[] W fun e w' => e = .returned (.bool true) ∧ Below W.heap.size W w' := awake_any W hT

set_option maxHeartbeats 4000000 in
set_option maxRecDepth 100000 in
theorem parts_no1 (A : Al) (s v : ByteArray) (cut : Int) (w : World) (hA : A.In w) (hT : Tabs w) (h : ¬ letE A s = 0) :
    Calls Tryd.prog 7 #[A.v, .string s, .string v, .int .i64 cut] w fun e w' => e = .returned (.bool true) ∧ Below w.heap.size w w' := by
  have k0 := awake_w A
  have k1 := fun W hA hT => let_no (A := A) (s := s) (w := W) hA hT h
  have k2 := fun W hA hT => letters_any A v W hA hT
  unfold LetNo at k1
  unfold LetPost at k2
  obtain ⟨E, hE⟩ : ∃ E, E = letE A s := ⟨_, rfl⟩
  obtain ⟨E2, hE2⟩ : ∃ E, E = letE A v := ⟨_, rfl⟩
  rw [← hE] at k1 h
  rw [← hE2] at k2
  have e1 : (E == 0) = false := by simp [h]
  have e2 : (E != 0) = true := by simp [h]
  obtain ⟨pf, pl, nf, cf, nl, cl, hv, hnf, hnl, hpl, hcl, hpf, hcf⟩ := A.parts
  rw [hv] at k1 k2 ⊢
  have K0 := Lib.hid k0; have K1 := Lib.hid k1; have K2 := Lib.hid k2
  have hs := Wx.start (F := .slice pf nf cf) (L := .slice pl nl cl) hA hT
  have HS := Lib.hid hs
  clear hs hA hT k0 k1 k2 hE hE2 hv hnf hnl hpl hcl hpf hcf h
  go_enter Tryd.func7, Tryd.ntmps7
  go_wp2_with fail
  refine (K0.out _ (HS.out).i (HS.out).t).mono ?_
  rintro _ w1 ⟨rfl, hb⟩
  have hs := (HS.out).next hb
  obtain ⟨c0, c1, hlt⟩ : w1.cell? ⟨w.heap.size, 0, none⟩ = some (.slice pf nf cf) ∧ w1.cell? ⟨w.heap.size, 1, none⟩ = some (.slice pl nl cl) ∧ w.heap.size < w1.heap.size := ⟨hs.c0, hs.c1, hs.lt⟩
  clear HS
  have HS := Lib.hid hs
  clear hs hb
  go_wp2_with fail
  refine (K1.out _ (HS.out).i (HS.out).t).mono ?_
  rintro _ w2 ⟨o, c, rfl, hb⟩
  have hs := (HS.out).next hb
  obtain ⟨c0, c1, hlt⟩ : w2.cell? ⟨w.heap.size, 0, none⟩ = some (.slice pf nf cf) ∧ w2.cell? ⟨w.heap.size, 1, none⟩ = some (.slice pl nl cl) ∧ w.heap.size < w2.heap.size := ⟨hs.c0, hs.c1, hs.lt⟩
  clear HS
  have HS := Lib.hid hs
  clear hs hb
  go_wp2_with fail
  refine (K2.out _ (HS.out).i (HS.out).t).mono ?_
  rintro _ w3 ⟨v2, rfl, ho, hb⟩
  have hs := (HS.out).next hb
  obtain ⟨c0, c1, hlt⟩ : w3.cell? ⟨w.heap.size, 0, none⟩ = some (.slice pf nf cf) ∧ w3.cell? ⟨w.heap.size, 1, none⟩ = some (.slice pl nl cl) ∧ w.heap.size < w3.heap.size := ⟨hs.c0, hs.c1, hs.lt⟩
  clear HS
  have HS := Lib.hid hs
  obtain ⟨o2, c2, rfl⟩ := own_shape ho
  clear hs hb ho
  go_wp2_with fail
  go_ret
  exact ⟨rfl, HS.out.below⟩
set_option maxHeartbeats 4000000 in
set_option maxRecDepth 100000 in
theorem parts_no2 (A : Al) (s v : ByteArray) (cut : Int) (w : World) (hA : A.In w) (hT : Tabs w) (h0 : letE A s = 0) (h : ¬ letE A v = 0) :
    Calls Tryd.prog 7 #[A.v, .string s, .string v, .int .i64 cut] w fun e w' => e = .returned (.bool true) ∧ Below w.heap.size w w' := by
  have k0 := awake_w A
  have k1 := fun W hA hT => let_yes (A := A) (s := s) (w := W) hA hT h0
  have k2 := fun W hA hT => let_no (A := A) (s := v) (w := W) hA hT h
  unfold LetYes at k1
  unfold LetNo at k2
  obtain ⟨E, hE⟩ : ∃ E, E = letE A v := ⟨_, rfl⟩
  obtain ⟨n, hn⟩ : ∃ n, n = (letL A s).length := ⟨_, rfl⟩
  rw [← hE] at k2 h
  rw [← hn] at k1
  have e1 : (E == 0) = false := by simp [h]
  have e2 : (E != 0) = true := by simp [h]
  obtain ⟨pf, pl, nf, cf, nl, cl, hv, hnf, hnl, hpl, hcl, hpf, hcf⟩ := A.parts
  rw [hv] at k1 k2 ⊢
  have K0 := Lib.hid k0; have K1 := Lib.hid k1; have K2 := Lib.hid k2
  have hs := Wx.start (F := .slice pf nf cf) (L := .slice pl nl cl) hA hT
  have HS := Lib.hid hs
  clear hs hA hT k0 k1 k2 hE hn hv hnf hnl hpl hcl hpf hcf h h0
  go_enter Tryd.func7, Tryd.ntmps7
  go_wp2_with fail
  refine (K0.out _ (HS.out).i (HS.out).t).mono ?_
  rintro _ w1 ⟨rfl, hb⟩
  have hs := (HS.out).next hb
  obtain ⟨c0, c1, hlt⟩ : w1.cell? ⟨w.heap.size, 0, none⟩ = some (.slice pf nf cf) ∧ w1.cell? ⟨w.heap.size, 1, none⟩ = some (.slice pl nl cl) ∧ w.heap.size < w1.heap.size := ⟨hs.c0, hs.c1, hs.lt⟩
  clear HS
  have HS := Lib.hid hs
  clear hs hb
  go_wp2_with fail
  refine (K1.out _ (HS.out).i (HS.out).t).mono ?_
  rintro _ w2 ⟨v2, rfl, ho, hb⟩
  have hs := (HS.out).next hb
  obtain ⟨c0, c1, hlt⟩ : w2.cell? ⟨w.heap.size, 0, none⟩ = some (.slice pf nf cf) ∧ w2.cell? ⟨w.heap.size, 1, none⟩ = some (.slice pl nl cl) ∧ w.heap.size < w2.heap.size := ⟨hs.c0, hs.c1, hs.lt⟩
  clear HS
  have HS := Lib.hid hs
  obtain ⟨o2, c2, rfl⟩ := own_shape ho
  clear hs hb ho
  go_wp2_with fail
  refine (K2.out _ (HS.out).i (HS.out).t).mono ?_
  rintro _ w3 ⟨o, c, rfl, hb⟩
  have hs := (HS.out).next hb
  obtain ⟨c0, c1, hlt⟩ : w3.cell? ⟨w.heap.size, 0, none⟩ = some (.slice pf nf cf) ∧ w3.cell? ⟨w.heap.size, 1, none⟩ = some (.slice pl nl cl) ∧ w.heap.size < w3.heap.size := ⟨hs.c0, hs.c1, hs.lt⟩
  clear HS
  have HS := Lib.hid hs
  clear hs hb
  go_wp2_with fail
  go_ret
  exact ⟨rfl, HS.out.below⟩
end Go.Proofs.YtcibjgkifafohaaDoor
