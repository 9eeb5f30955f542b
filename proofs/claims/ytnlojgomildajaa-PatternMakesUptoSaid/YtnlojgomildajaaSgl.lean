/-
  WALKS: patterns of one node, both sides.
-/
import Derived.Test.YtnlojgomildajaaPtr
namespace Go.Proofs.Ytnlojgomildajaa
open Go.RowKit Go.Lib
set_option linter.unusedVariables false
theorem one_node (k : Nat) (r : Int) (p m : Nat) (hk : k < 256) (hr : -2147483648 ≤ r ∧ r ≤ 2147483647) (hp : p < 4294967296) (hm : m < 4294967296) (w W : World) (hW : Below w.heap.size w W) (b : Nat) (hb : w.heap.size ≤ b) (hbl : b < W.heap.size) (cs : Array Value) (hcs : W.heap[b]? = some (.cells cs 42 (0, 0))) (hc5 : cs = #[.int .u8 k, .int .i32 r, .int .u32 p, .int .u32 m, .slice none 0 0]) :
    ∃ q : PtM, q.v = .agg #[.slice (some ⟨b, 0, none⟩) 1 1] ∧ nds q.ms = [⟨k, r, p, m, []⟩] ∧ Mine w.heap.size q W := by
  subst hc5
  obtain ⟨M, hM⟩ : ∃ M : NdM, M = ⟨⟨k, r, p, m, []⟩, none, 0, 0, 0⟩ := ⟨_, rfl⟩
  have hks : KsIn M.pk M.bk M.k0 M.c M.nd.ks W := by rw [hM]; exact ⟨fun h => absurd h (Nat.lt_irrefl 0), fun j hj => absurd hj (Nat.not_lt_zero _), Nat.le_refl 0, Nat.zero_le _, fun k hk => absurd hk (by simp)⟩
  have hl0 : ¬ 0 < M.nd.ks.length := by rw [hM]; exact Nat.lt_irrefl 0
  have hout : OutN w.heap.size (fun _ => False) (.slice (some ⟨b, 0, none⟩) 1 1) [M] W := by
    refine ⟨⟨by rw [nsC_length], Or.inr ⟨b, 1, _, rfl, hb, hcs, Nat.le_refl 1, by unfold maxLen; omega, rfl, ?_⟩⟩, fun q hq => ?_, fun q hq h0 => ?_, fun q hq => ?_⟩
    · rw [nsC_single, hM]; rfl
    · rw [List.mem_singleton.1 hq]; exact hks
    · rw [List.mem_singleton.1 hq] at h0; exact absurd h0 hl0
    · rw [List.mem_singleton.1 hq, hM]; exact ⟨hk, hr, hp, hm⟩
  obtain ⟨q, h1, h2, h3⟩ := mine_of hout (fun q hq h0 => by rw [List.mem_singleton.1 hq] at h0; exact absurd h0 hl0) (by simp)
  exact ⟨q, h1, by rw [h2, hM]; rfl, h3⟩
theorem MkPost.up {ns : List Nd} {w w1 : World} (hb : Below w.heap.size w w1) (hz : w.heap.size < w1.heap.size) {e : Ending} {w' : World} (h : MkPost ns w1 e w') : ∃ o n c, e = .returned (.agg #[.slice o n c]) ∧ Below w1.heap.size w1 w' ∧ ∀ u, MkPost ns w (.returned (.agg #[.slice o n c])) (w'.setCell ⟨w.heap.size, 0, none⟩ u) := by
  obtain ⟨q, rfl, h1, h2, h3⟩ := h
  refine ⟨q.pn, q.ms.length, q.c, rfl, h3, fun u => ⟨q, rfl, h1, ?_, ?_⟩⟩
  · have hb2 : But (fun k => k = w.heap.size) w' (w'.setCell ⟨w.heap.size, 0, none⟩ u) := (But.refl (fun k => k = w.heap.size) w').setCell (p := ⟨w.heap.size, 0, none⟩) (fun _ => rfl) _
    exact (h2.keep hb2 (fun k h1 h2 e => by omega)).lower hb.size
  · exact (hb.trans (h3.mono hb.size)).setCell (p := ⟨w.heap.size, 0, none⟩) (Nat.le_refl _) _
theorem MkPost2.up {err : Nat} {ns : List Nd} {w w1 : World} (hb : Below w.heap.size w w1) (hz : w.heap.size < w1.heap.size) {e : Ending} {w' : World} (h : MkPost2 err ns w1 e w') : ∃ o n c, e = .returned (.tuple #[.agg #[.slice o n c], .int .i64 err]) ∧ Below w1.heap.size w1 w' ∧ ∀ u, MkPost2 err ns w (.returned (.tuple #[.agg #[.slice o n c], .int .i64 err])) (w'.setCell ⟨w.heap.size, 0, none⟩ u) := by
  obtain ⟨q, rfl, h1, h2, h3⟩ := h
  refine ⟨q.pn, q.ms.length, q.c, rfl, h3, fun u => ⟨q, rfl, h1, ?_, ?_⟩⟩
  · have hb2 : But (fun k => k = w.heap.size) w' (w'.setCell ⟨w.heap.size, 0, none⟩ u) := (But.refl (fun k => k = w.heap.size) w').setCell (p := ⟨w.heap.size, 0, none⟩) (fun _ => rfl) _
    exact (h2.keep hb2 (fun k h1 h2 e => by omega)).lower hb.size
  · exact (hb.trans (h3.mono hb.size)).setCell (p := ⟨w.heap.size, 0, none⟩) (Nat.le_refl _) _
theorem MkPost2.down {err : Nat} {ns : List Nd} {w w1 : World} (hb : Below w.heap.size w w1) {e : Ending} {w' : World} (h : MkPost2 err ns w1 e w') : MkPost2 err ns w e w' := by
  obtain ⟨q, h0, h1, h2, h3⟩ := h
  exact ⟨q, h0, h1, h2.lower hb.size, hb.trans (h3.mono hb.size)⟩
def leafN (k : Nat) (r : Int) (p m : Nat) : List Nd := [⟨k, r, p, m, []⟩]
theorem leaf_end (k : Nat) (r : Int) (p m : Nat) (w : World) (hk : k < 256) (hr : -2147483648 ≤ r ∧ r ≤ 2147483647) (hp : p < 4294967296) (hm : m < 4294967296) :
    (((w.alloc (.cells #[.int .u8 k, .int .i32 r, .int .u32 p, .int .u32 m, .slice none 0 0] 42)).alloc (.cells #[.slice (some ⟨w.heap.size + 1 + 1, 0, none⟩) 1 1] 25)).alloc (.cells #[.int .u8 k, .int .i32 r, .int .u32 p, .int .u32 m, .slice none 0 0] 42)).cell? ⟨w.heap.size + 1, 0, none⟩ = some (.slice (some ⟨w.heap.size + 1 + 1, 0, none⟩) 1 1) ∧ MkPost (leafN k r p m) w (.returned (.agg #[.slice (some ⟨w.heap.size + 1 + 1, 0, none⟩) 1 1])) (((w.alloc (.cells #[.int .u8 k, .int .i32 r, .int .u32 p, .int .u32 m, .slice none 0 0] 42)).alloc (.cells #[.slice (some ⟨w.heap.size + 1 + 1, 0, none⟩) 1 1] 25)).alloc (.cells #[.int .u8 k, .int .i32 r, .int .u32 p, .int .u32 m, .slice none 0 0] 42)) := by
  obtain ⟨C, hC⟩ : ∃ C : Array Value, C = #[.int .u8 k, .int .i32 r, .int .u32 p, .int .u32 m, .slice none 0 0] := ⟨_, rfl⟩
  rw [← hC]
  obtain ⟨w1, hw1⟩ : ∃ w1, w1 = w.alloc (.cells C 42) := ⟨_, rfl⟩
  have hz1 : w1.heap.size = w.heap.size + 1 := by rw [hw1]; simp
  have hb1 : Below w.heap.size w w1 := by rw [hw1]; exact (Below.refl _ _).alloc (Nat.le_refl _) _
  rw [← hw1]
  obtain ⟨w2, hw2⟩ : ∃ w2, w2 = w1.alloc (.cells #[.slice (some ⟨w.heap.size + 1 + 1, 0, none⟩) 1 1] 25) := ⟨_, rfl⟩
  have hz2 : w2.heap.size = w.heap.size + 1 + 1 := by rw [hw2]; simp [hz1]
  have hb2 : Below w.heap.size w w2 := by rw [hw2]; exact hb1.alloc (by omega) _
  have hc2 : w2.cell? ⟨w.heap.size + 1, 0, none⟩ = some (.slice (some ⟨w.heap.size + 1 + 1, 0, none⟩) 1 1) := by
    rw [hw2, ← hz1, World.cell?_alloc_mark]; rfl
  rw [← hw2]
  have hb3 : Below w2.heap.size w2 (w2.alloc (.cells C 42)) := (Below.refl _ _).alloc (Nat.le_refl _) _
  refine ⟨(hb3.cell (p := ⟨w.heap.size + 1, 0, none⟩) (by show w.heap.size + 1 < _; omega)).trans hc2, ?_⟩
  have hB := hb2.trans (hb3.mono (by omega))
  obtain ⟨q, h1, h2, h3⟩ := one_node k r p m hk hr hp hm w (w2.alloc (.cells C 42)) hB (w.heap.size + 1 + 1) (by omega) (by simp; omega) C (by rw [← hz2]; exact heap_alloc_new w2 _) hC
  exact ⟨q, by rw [h1], h2, h3, hB⟩
set_option maxHeartbeats 4000000 in
set_option maxRecDepth 100000 in
theorem single_any (k : Nat) (r : Int) (p m : Nat) (w : World) (hk : k < 256) (hr : -2147483648 ≤ r ∧ r ≤ 2147483647) (hp : p < 4294967296) (hm : m < 4294967296) :
    Calls Try.prog 35 #[.agg #[.int .u8 k, .int .i32 r, .int .u32 p, .int .u32 m, .slice none 0 0]] w (MkPost (leafN k r p m) w) := by
  have HE := Lib.hid (leaf_end k r p m w hk hr hp hm)
  clear hk hr hp hm
  go_enter Try.func35, Try.ntmps35
  go_wp2_with fail
  have c0 := HE.out.1
  refine bodyPost_ret (v := .agg #[.slice (some ⟨w.heap.size + 1 + 1, 0, none⟩) 1 1]) (by simp [results, Try.results35, go_sem, *]) rfl ?_
  exact HE.out.2
set_option maxHeartbeats 4000000 in
set_option maxRecDepth 100000 in
theorem leaf_any (k : Nat) (r : Int) (p m : Nat) (w : World) (hk : k < 256) (hr : -2147483648 ≤ r ∧ r ≤ 2147483647) (hp : p < 4294967296) (hm : m < 4294967296) :
    Calls Try.prog 36 #[.agg #[.int .u8 k, .int .i32 r, .int .u32 p, .int .u32 m, .slice none 0 0]] w (MkPost (leafN k r p m) w) := by
  have HE := Lib.hid (leaf_end k r p m w hk hr hp hm)
  clear hk hr hp hm
  go_enter Try.func36, Try.ntmps36
  go_wp2_with fail
  have c0 := HE.out.1
  refine bodyPost_ret (v := .agg #[.slice (some ⟨w.heap.size + 1 + 1, 0, none⟩) 1 1]) (by simp [results, Try.results36, go_sem, *]) rfl ?_
  exact HE.out.2
set_option maxHeartbeats 4000000 in
set_option maxRecDepth 100000 in
theorem pempty_any (w : World) : Calls Try.prog 17 #[] w (MkPost (leafN 1 0 0 0) w) := by
  have k1 := fun W => single_any 1 0 0 0 W (by decide) (by decide) (by decide) (by decide)
  have HK := Lib.hid k1
  have HUP := Lib.hid (fun (w1 : World) (hb : Below w.heap.size w w1) (hz : w.heap.size < w1.heap.size) e w' (h : MkPost (leafN 1 0 0 0) w1 e w') => h.up hb hz)
  clear k1
  go_enter Try.func17, Try.ntmps17
  go_wp2_with fail
  refine (HK.out _).mono ?_
  intro e w' hpost
  obtain ⟨o, n, c, rfl, hb, hR⟩ := HUP.out _ ((Below.refl _ _).alloc (Nat.le_refl _) _) (by simp) e w' hpost
  have c0 := (hb.cell (p := ⟨w.heap.size, 0, none⟩) (by simp)).trans (show _ = some (Value.slice none 0 0) by simp)
  have f0 := (hb.frozen (p := ⟨w.heap.size, 0, none⟩) (by simp)).trans (show _ = false by simp)
  have HR := Lib.hid hR
  clear hR hb hpost HK HUP
  go_wp2_with fail
  refine bodyPost_ret (v := .agg #[.slice o n c]) (by simp [results, Try.results17, go_sem, *]) rfl ?_
  exact HR.out _
set_option maxHeartbeats 4000000 in
set_option maxRecDepth 100000 in
theorem prune_any (r : Int) (hr : -2147483648 ≤ r ∧ r ≤ 2147483647) (w : World) : Calls Try.prog 19 #[.int .i32 r] w (MkPost (leafN 2 r 0 0) w) := by
  have k1 := fun W => single_any 2 r 0 0 W (by decide) hr (by decide) (by decide)
  have HK := Lib.hid k1
  have HUP := Lib.hid (fun (w1 : World) (hb : Below w.heap.size w w1) (hz : w.heap.size < w1.heap.size) e w' (h : MkPost (leafN 2 r 0 0) w1 e w') => h.up hb hz)
  clear k1
  go_enter Try.func19, Try.ntmps19
  go_wp2_with fail
  refine (HK.out _).mono ?_
  intro e w' hpost
  obtain ⟨o, n, c, rfl, hb, hR⟩ := HUP.out _ ((Below.refl _ _).alloc (Nat.le_refl _) _) (by simp) e w' hpost
  have c0 := (hb.cell (p := ⟨w.heap.size, 0, none⟩) (by simp)).trans (show _ = some (Value.slice none 0 0) by simp)
  have f0 := (hb.frozen (p := ⟨w.heap.size, 0, none⟩) (by simp)).trans (show _ = false by simp)
  have HR := Lib.hid hR
  clear hR hb hpost HK HUP
  go_wp2_with fail
  refine bodyPost_ret (v := .agg #[.slice o n c]) (by simp [results, Try.results19, go_sem, *]) rfl ?_
  exact HR.out _
set_option maxHeartbeats 4000000 in
set_option maxRecDepth 100000 in
theorem pclass_any (p m : Nat) (hp : p < 4294967296) (hm : m < 4294967296) (w : World) : Calls Try.prog 21 #[.int .u32 p, .int .u32 m] w (MkPost (leafN 3 0 p m) w) := by
  have k1 := fun W => single_any 3 0 p m W (by decide) (by decide) hp hm
  have HK := Lib.hid k1
  have HUP := Lib.hid (fun (w1 : World) (hb : Below w.heap.size w w1) (hz : w.heap.size < w1.heap.size) e w' (h : MkPost (leafN 3 0 p m) w1 e w') => h.up hb hz)
  clear k1
  go_enter Try.func21, Try.ntmps21
  go_wp2_with fail
  refine (HK.out _).mono ?_
  intro e w' hpost
  obtain ⟨o, n, c, rfl, hb, hR⟩ := HUP.out _ ((Below.refl _ _).alloc (Nat.le_refl _) _) (by simp) e w' hpost
  have c0 := (hb.cell (p := ⟨w.heap.size, 0, none⟩) (by simp)).trans (show _ = some (Value.slice none 0 0) by simp)
  have f0 := (hb.frozen (p := ⟨w.heap.size, 0, none⟩) (by simp)).trans (show _ = false by simp)
  have HR := Lib.hid hR
  clear hR hb hpost HK HUP
  go_wp2_with fail
  refine bodyPost_ret (v := .agg #[.slice o n c]) (by simp [results, Try.results21, go_sem, *]) rfl ?_
  exact HR.out _
set_option maxHeartbeats 4000000 in
set_option maxRecDepth 100000 in
theorem rempty_any (w : World) : Calls Try.prog 18 #[] w (MkPost (leafN 1 0 0 0) w) := by
  have k1 := fun W => leaf_any 1 0 0 0 W (by decide) (by decide) (by decide) (by decide)
  have HK := Lib.hid k1
  have HUP := Lib.hid (fun (w1 : World) (hb : Below w.heap.size w w1) (hz : w.heap.size < w1.heap.size) e w' (h : MkPost (leafN 1 0 0 0) w1 e w') => h.up hb hz)
  clear k1
  go_enter Try.func18, Try.ntmps18
  go_wp2_with fail
  refine (HK.out _).mono ?_
  intro e w' hpost
  obtain ⟨o, n, c, rfl, hb, hR⟩ := HUP.out _ ((Below.refl _ _).alloc (Nat.le_refl _) _) (by simp) e w' hpost
  have c0 := (hb.cell (p := ⟨w.heap.size, 0, none⟩) (by simp)).trans (show _ = some (Value.slice none 0 0) by simp)
  have f0 := (hb.frozen (p := ⟨w.heap.size, 0, none⟩) (by simp)).trans (show _ = false by simp)
  have HR := Lib.hid hR
  clear hR hb hpost HK HUP
  go_wp2_with fail
  refine bodyPost_ret (v := .agg #[.slice o n c]) (by simp [results, Try.results18, go_sem, *]) rfl ?_
  exact HR.out _
set_option maxHeartbeats 4000000 in
set_option maxRecDepth 100000 in
theorem rrune_any (r : Int) (hr : -2147483648 ≤ r ∧ r ≤ 2147483647) (w : World) : Calls Try.prog 20 #[.int .i32 r] w (MkPost (leafN 2 r 0 0) w) := by
  have k1 := fun W => leaf_any 2 r 0 0 W (by decide) hr (by decide) (by decide)
  have HK := Lib.hid k1
  have HUP := Lib.hid (fun (w1 : World) (hb : Below w.heap.size w w1) (hz : w.heap.size < w1.heap.size) e w' (h : MkPost (leafN 2 r 0 0) w1 e w') => h.up hb hz)
  clear k1
  go_enter Try.func20, Try.ntmps20
  go_wp2_with fail
  refine (HK.out _).mono ?_
  intro e w' hpost
  obtain ⟨o, n, c, rfl, hb, hR⟩ := HUP.out _ ((Below.refl _ _).alloc (Nat.le_refl _) _) (by simp) e w' hpost
  have c0 := (hb.cell (p := ⟨w.heap.size, 0, none⟩) (by simp)).trans (show _ = some (Value.slice none 0 0) by simp)
  have f0 := (hb.frozen (p := ⟨w.heap.size, 0, none⟩) (by simp)).trans (show _ = false by simp)
  have HR := Lib.hid hR
  clear hR hb hpost HK HUP
  go_wp2_with fail
  refine bodyPost_ret (v := .agg #[.slice o n c]) (by simp [results, Try.results20, go_sem, *]) rfl ?_
  exact HR.out _
set_option maxHeartbeats 4000000 in
set_option maxRecDepth 100000 in
theorem rclass_any (p m : Nat) (hp : p < 4294967296) (hm : m < 4294967296) (w : World) : Calls Try.prog 22 #[.int .u32 p, .int .u32 m] w (MkPost (leafN 3 0 p m) w) := by
  have k1 := fun W => leaf_any 3 0 p m W (by decide) (by decide) hp hm
  have HK := Lib.hid k1
  have HUP := Lib.hid (fun (w1 : World) (hb : Below w.heap.size w w1) (hz : w.heap.size < w1.heap.size) e w' (h : MkPost (leafN 3 0 p m) w1 e w') => h.up hb hz)
  clear k1
  go_enter Try.func22, Try.ntmps22
  go_wp2_with fail
  refine (HK.out _).mono ?_
  intro e w' hpost
  obtain ⟨o, n, c, rfl, hb, hR⟩ := HUP.out _ ((Below.refl _ _).alloc (Nat.le_refl _) _) (by simp) e w' hpost
  have c0 := (hb.cell (p := ⟨w.heap.size, 0, none⟩) (by simp)).trans (show _ = some (Value.slice none 0 0) by simp)
  have f0 := (hb.frozen (p := ⟨w.heap.size, 0, none⟩) (by simp)).trans (show _ = false by simp)
  have HR := Lib.hid hR
  clear hR hb hpost HK HUP
  go_wp2_with fail
  refine bodyPost_ret (v := .agg #[.slice o n c]) (by simp [results, Try.results22, go_sem, *]) rfl ?_
  exact HR.out _
end Go.Proofs.Ytnlojgomildajaa
