/-
  WALKS: cognatelaw02.full.
-/
import Derived.Test.YtmbekgfbnapelaaFnP
namespace Go.Proofs.Ytmbekgfbnapelaa
open Go.RowKit Go.Lib
set_option linter.unusedVariables false

theorem conv_two (W : World) (x y : UInt8) : (convert 36 9 (.slice (some ⟨W.heap.size, 0, none⟩) 2 2)).run Try.prog (W.alloc (.cells #[.int .u8 x.toNat, .int .u8 y.toNat] 5)) = .ok (.string ⟨#[x, y]⟩) (W.alloc (.cells #[.int .u8 x.toNat, .int .u8 y.toNat] 5)) := by
  refine run_convert_bytes_back _ 36 9 5 ⟨W.heap.size, 0, none⟩ 2 [x, y] Try.underlying36 Try.underlying5 Try.underlying9 ?_
  intro j hj
  match j, hj with
  | 0, hj => simp [Addr.add]
  | 1, hj => simp [Addr.add]
  | j + 2, hj => exact absurd (show j + 2 < 2 from hj) (by omega)

structure Fc (n : Nat) (vf vl : Value) (W : World) : Prop where
  c0 : W.cell? ⟨n + 1, 0, none⟩ = some vf
  c1 : W.cell? ⟨n + 1, 1, none⟩ = some vl
  f0 : W.frozen? ⟨n + 1, 0, none⟩ = false
  f1 : W.frozen? ⟨n + 1, 1, none⟩ = false
  g0 : W.cell? ⟨n, 0, none⟩ = some (.slice none 0 0)
  g1 : W.cell? ⟨n, 1, none⟩ = some (.slice none 0 0)
  e0 : W.frozen? ⟨n, 0, none⟩ = false
  e1 : W.frozen? ⟨n, 1, none⟩ = false
  lt : n + 2 ≤ W.heap.size
theorem Fc.next {n : Nat} {vf vl : Value} {W W' : World} (h : Fc n vf vl W) (hb : Below (n + 2) W W') : Fc n vf vl W' :=
  ⟨(hb.cell (p := ⟨n + 1, 0, none⟩) (show n + 1 < n + 2 by omega)).trans h.c0, (hb.cell (p := ⟨n + 1, 1, none⟩) (show n + 1 < n + 2 by omega)).trans h.c1,
   (hb.frozen (p := ⟨n + 1, 0, none⟩) (show n + 1 < n + 2 by omega)).trans h.f0, (hb.frozen (p := ⟨n + 1, 1, none⟩) (show n + 1 < n + 2 by omega)).trans h.f1,
   (hb.cell (p := ⟨n, 0, none⟩) (show n < n + 2 by omega)).trans h.g0, (hb.cell (p := ⟨n, 1, none⟩) (show n < n + 2 by omega)).trans h.g1,
   (hb.frozen (p := ⟨n, 0, none⟩) (show n < n + 2 by omega)).trans h.e0, (hb.frozen (p := ⟨n, 1, none⟩) (show n < n + 2 by omega)).trans h.e1, Nat.le_trans h.lt hb.size⟩
theorem Fc.set0 {n : Nat} {vf vl : Value} {W : World} (h : Fc n vf vl W) (x : Value) : Fc n x vl (W.setCell ⟨n + 1, 0, none⟩ x) :=
  ⟨World.cell?_setCell_same _ _ _ h.c0, (World.cell?_setCell_other _ _ _ _ (by simp)).trans h.c1, by rw [World.frozen?_setCell]; exact h.f0, by rw [World.frozen?_setCell]; exact h.f1,
   (World.cell?_setCell_other _ _ _ _ (by simp)).trans h.g0, (World.cell?_setCell_other _ _ _ _ (by simp)).trans h.g1, by rw [World.frozen?_setCell]; exact h.e0, by rw [World.frozen?_setCell]; exact h.e1, by simpa using h.lt⟩
theorem Fc.set1 {n : Nat} {vf vl : Value} {W : World} (h : Fc n vf vl W) (x : Value) : Fc n vf x (W.setCell ⟨n + 1, 1, none⟩ x) :=
  ⟨(World.cell?_setCell_other _ _ _ _ (by simp)).trans h.c0, World.cell?_setCell_same _ _ _ h.c1, by rw [World.frozen?_setCell]; exact h.f0, by rw [World.frozen?_setCell]; exact h.f1,
   (World.cell?_setCell_other _ _ _ _ (by simp)).trans h.g0, (World.cell?_setCell_other _ _ _ _ (by simp)).trans h.g1, by rw [World.frozen?_setCell]; exact h.e0, by rw [World.frozen?_setCell]; exact h.e1, by simpa using h.lt⟩
theorem fv_snoc (k : Nat) : (fsN k).map Value.string ++ [.string (fN k)] = (fsN (k + 1)).map Value.string := by rw [fsN_snoc, List.map_append]; rfl
theorem lv_snoc (k : Nat) : lsC (lsN k) ++ [.int .i32 (1024 + k), .int .u32 (k &&& 255 : Nat), .int .u32 65280] = lsC (lsN (k + 1)) := by rw [lsN_snoc]; unfold lsC; rw [List.flatMap_append]; rfl

def KpRow (N M : Nat) (v : Value) (n : Nat) (xs : List Value) (W : World) : Prop := ∃ W0 : World, W0.heap.size = M ∧ W0.ownsRow N 9 1 v n xs ∧ ∀ b, N ≤ b → b < M → W.heap[b]? = W0.heap[b]?
theorem KpRow.refl {N n : Nat} {v : Value} {xs : List Value} {W : World} (h : W.ownsRow N 9 1 v n xs) : KpRow N W.heap.size v n xs W := ⟨W, rfl, h, fun _ _ _ => rfl⟩
theorem KpRow.next {N M n : Nat} {v : Value} {xs : List Value} {W W' : World} (h : KpRow N M v n xs W) (hb : Below M W W') : KpRow N M v n xs W' := by
  obtain ⟨W0, h0, h1, h2⟩ := h
  exact ⟨W0, h0, h1, fun b hb1 hb2 => (hb.block b hb2).trans (h2 b hb1 hb2)⟩
theorem KpRow.setCell {N M n : Nat} {v : Value} {xs : List Value} {W : World} (h : KpRow N M v n xs W) (a : Addr) (ha : a.block < N) (x : Value) : KpRow N M v n xs (W.setCell a x) := by
  obtain ⟨W0, h0, h1, h2⟩ := h
  exact ⟨W0, h0, h1, fun b hb1 hb2 => (Below.heap_setCell _ _ _ _ (by omega)).trans (h2 b hb1 hb2)⟩
theorem KpRow.own {N M n : Nat} {v : Value} {xs : List Value} {W : World} (h : KpRow N M v n xs W) : W.ownsRow N 9 1 v n xs := by
  obtain ⟨W0, h0, h1, h2⟩ := h
  refine ⟨h1.1, ?_⟩
  rcases h1.2 with hn | ⟨g, cap, cur, rfl, hbg, hgg, rest⟩
  · exact .inl hn
  · exact .inr ⟨g, cap, cur, rfl, hbg, (h2 g hbg (by rw [← h0]; exact (Array.getElem?_eq_some_iff.1 hgg).1)).trans hgg, rest⟩
theorem bits_lo (k : Nat) (h : k < 130) : bits BinOp.and IntKind.u32 (k : Int) 255 = ((k &&& 255 : Nat) : Int) := by
  have : ∀ k : Fin 130, bits BinOp.and IntKind.u32 ((k.val : Nat) : Int) 255 = ((k.val &&& 255 : Nat) : Int) := by decide +kernel
  exact this ⟨k, h⟩
theorem bits_hi (k : Nat) (h : k < 130) : bits BinOp.and IntKind.u32 (bits BinOp.xor IntKind.i64 (-1) (k : Int) % 4294967296) 65280 = 65280 := by
  have : ∀ k : Fin 130, bits BinOp.and IntKind.u32 (bits BinOp.xor IntKind.i64 (-1) ((k.val : Nat) : Int) % 4294967296) 65280 = 65280 := by decide +kernel
  exact this ⟨k, h⟩
theorem lsN_bits (k : Nat) (h : k ≤ 129) : ∀ l ∈ lsN k, l.p < 4294967296 ∧ l.m < 4294967296 ∧ -2147483648 ≤ l.r ∧ l.r ≤ 2147483647 := by
  intro l hl
  obtain ⟨i, hi, rfl⟩ := List.mem_map.1 hl
  have := List.mem_range.1 hi
  have h2 : i &&& 255 ≤ i := Nat.and_le_left
  simp only [lN]
  omega
theorem fN_size (k : Nat) : (fN k).size = 2 := rfl
theorem fsN_small (k : Nat) : ∀ j, j < (fsN k).length → ((fsN k).getD j ByteArray.empty).size ≤ 140737488355328 := by
  intro j hj
  rw [List.getD_eq_getElem?_getD, List.getElem?_eq_getElem hj]
  simp [fsN, fN_size]

def FullPost (nf nl : Nat) (w : World) (e : Ending) (w' : World) : Prop := ∃ A : Al, e = .returned A.v ∧ A.fs = fsN nf ∧ A.ls = lsN nl ∧ A.In w' ∧ Below w.heap.size w w'
set_option maxHeartbeats 8000000 in
set_option maxRecDepth 100000 in
theorem full_any (nf nl : Nat) (w : World) (h1 : nf ≤ 25) (h2 : nl ≤ 129) : Calls Try.prog 8 #[.int .i64 nf, .int .i64 nl] w (FullPost nf nl w) := by
  unfold FullPost
  obtain ⟨i0, hi, hz0, hz1, hz2⟩ := info_parts str_info2
  obtain ⟨i1, ji, jz0, jz1, jz2⟩ := info_parts ltr_info
  have HI0 := Lib.hid hi; have HZ0 := Lib.hid hz0; have HZ1 := Lib.hid hz1; have HZ2 := Lib.hid hz2
  have JI0 := Lib.hid ji; have JZ0 := Lib.hid jz0; have JZ1 := Lib.hid jz1; have JZ2 := Lib.hid jz2
  clear hi hz0 hz1 hz2 ji jz0 jz1 jz2
  have hB0 := Lib.hid (show Below w.heap.size w ((w.alloc (.cells #[.slice none 0 0, .slice none 0 0] 26)).alloc (.cells #[.slice none 0 0, .slice none 0 0] 26)) from ((Below.refl _ _).alloc (Nat.le_refl _) _).alloc (by simp) _)
  have hC0 := Lib.hid (cell_new2 (w.alloc (.cells #[.slice none 0 0, .slice none 0 0] 26)) (w.heap.size + 1) (by simp) (.slice none 0 0) (.slice none 0 0) 26)
  go_enter Try.func8, Try.ntmps8
  go_wp2_with fail
  go_loopw [6] (fun iv wr => ∃ (k : Nat) (fv : Value), iv = .int .i64 k ∧ k ≤ nf ∧ Hid (wr.ownsRow (w.heap.size + 2) 9 1 fv k ((fsN k).map Value.string)) ∧ Hid (Below w.heap.size w wr) ∧ Hid (Fc w.heap.size fv (.slice none 0 0) wr)) (fun iv _ => nf - (intOf iv).toNat)
  case atStart => exact ⟨0, .slice none 0 0, rfl, Nat.zero_le _, World.ownsRow_nil _ _ _ _, hB0, ⟨by simp, by simp, by simp, by simp, by simp, by simp, by simp, by simp, by simp⟩⟩
  case round =>
    obtain ⟨k, fv, rfl, hk, HO, HB, HC⟩ := hrel
    obtain ⟨oo, co, rfl⟩ := ownF_shape HO.out
    obtain ⟨c0, c1, f0, f1, g0, g1, e0, e1, hlt⟩ := HC.out
    by_cases hkn : k < nf
    · have hc2 := fun W => conv_two W (UInt8.ofNat (97 + k % 26)) (UInt8.ofNat (97 + k / 26))
      have hx1 : ((UInt8.ofNat (97 + k % 26)).toNat : Int) = 97 + (k : Int) % 26 := by
        rw [UInt8.toNat_ofNat_of_lt' (by simp [UInt8.size]; omega)]; omega
      have hx2 : ((UInt8.ofNat (97 + k / 26)).toNat : Int) = 97 + (k : Int) / 26 := by
        rw [UInt8.toNat_ofNat_of_lt' (by simp [UInt8.size]; omega)]; omega
      rw [hx1, hx2] at hc2
      clear hx1 hx2
      go_wp2_with (at_builtin; refine wpList_append_own _ rfl (.tmp 14) (.tmp 25) 23 rfl (w.heap.size + 2) 9 i0 (.string ByteArray.empty) 1 16 Try.underlying23 HI0.out HZ0.out HZ1.out HZ2.out rfl (by decide) _ _ _ rfl ((HO.out.alloc _).alloc _) ⟨wr.heap.size + 1, 0, none⟩ 1 1 [.string (fN k)] rfl rfl ?c1 ?c2 ?c3 ?c4 ?c5 ?_)
      any_goals (first | (unfold maxLen; omega) | omega | (simp; omega) | (intro u hu; simp at hu; subst hu; rfl) | (intro j u hj; match j, hj with | 0, hj => (simp at hj; subst hj; simp [Addr.add, fN]) | j + 1, hj => simp at hj))
      intro v3 w4 hown3 hgrow3 hnil3
      obtain ⟨o3, k3, rfl⟩ := ownF_shape hown3
      have hob : ∀ q, (Value.slice oo k co).ownBlock = some q → w.heap.size + 2 ≤ q := fun q hq => (HO.out.lt q hq).1
      have hb4 : Below (w.heap.size + 2) wr w4 := (((Below.refl _ _).alloc hlt _).alloc (by simp; omega) _).grown hgrow3 (by simp; omega) hob
      have HB4 := Lib.hid (HB.out.trans (hb4.mono (Nat.le_add_right _ 2)))
      have HC4 := Lib.hid (HC.out.next hb4)
      rw [fv_snoc] at hown3
      have HO4 := Lib.hid hown3
      clear hob hb4 hown3 hgrow3 hnil3 c0 c1 f0 f1 g0 g1 e0 e1 hc2
      obtain ⟨c0, c1, f0, f1, g0, g1, e0, e1, hlt4⟩ := HC4.out
      go_wp2_with fail
      go_roundw
      case rel => exact ⟨k + 1, .slice o3 (k + 1) k3, by go_num, by omega, ownsRow_setCell_below HO4.out (a := ⟨w.heap.size + 1, 0, none⟩) (show w.heap.size + 1 < w.heap.size + 2 by omega) (.slice o3 (k + 1) k3), HB4.out.setCell (Nat.le_succ _) _, HC4.out.set0 (.slice o3 (k + 1) k3)⟩
      case measure => simp [intOf]; omega
    · obtain rfl : k = nf := by omega
      have HK := Lib.hid (KpRow.refl HO.out)
      obtain ⟨wm, hwm⟩ : ∃ wm, wm = wr := ⟨_, rfl⟩
      obtain ⟨M, hM⟩ : ∃ M, M = wr.heap.size := ⟨_, rfl⟩
      rw [← hM] at HK hlt
      have hMr : M ≤ wr.heap.size := Nat.le_of_eq hM
      clear hM hwm c0 c1 f0 f1 g0 g1 e0 e1 HO
      go_wp2_with fail
      go_loopw [7] (fun iv wr => ∃ (k2 : Nat) (lv : Value), iv = .int .i64 k2 ∧ k2 ≤ nl ∧ Hid (wr.ownsRow M 35 3 lv k2 (lsC (lsN k2))) ∧ Hid (KpRow (w.heap.size + 2) M (.slice oo k co) k ((fsN k).map Value.string) wr) ∧ Hid (Below w.heap.size w wr) ∧ Hid (Fc w.heap.size (.slice oo k co) lv wr) ∧ M ≤ wr.heap.size) (fun iv _ => nl - (intOf iv).toNat)
      case atStart => exact ⟨0, .slice none 0 0, rfl, Nat.zero_le _, World.ownsRow_nil _ _ _ _, HK, HB, HC, hMr⟩
      case round =>
        obtain ⟨k2, lv, rfl, hk2, HO2, HK2, HB2, HC2, hM2⟩ := hrel
        obtain ⟨ol, cl, rfl⟩ := ownF_shape HO2.out
        clear HK HB HC hMr
        obtain ⟨c0, c1, f0, f1, g0, g1, e0, e1, hlt2⟩ := HC2.out
        by_cases hkn2 : k2 < nl
        · have hb1 := bits_lo k2 (by omega)
          have hb2 := bits_hi k2 (by omega)
          go_wp2_with (at_builtin; refine wpList_append_own _ rfl (.tmp 34) (.tmp 46) 24 rfl M 35 i1 (.agg #[.int .i32 0, .int .u32 0, .int .u32 0]) 3 12 Try.underlying24 JI0.out JZ0.out JZ1.out JZ2.out rfl (by decide) _ _ _ rfl (HO2.out.alloc _) ⟨wr.heap.size, 0, none⟩ 1 1 [.int .i32 (1024 + k2), .int .u32 (k2 &&& 255 : Nat), .int .u32 65280] rfl rfl ?d1 ?d2 ?d3 ?d4 ?d5 ?_)
          any_goals (first | (unfold maxLen; omega) | omega | (simp; omega) | (intro u hu; simp at hu; rcases hu with rfl | rfl | rfl <;> rfl) | (intro j u hj; match j, hj with | 0, hj => (simp at hj; subst hj; simp [Addr.add]) | 1, hj => (simp at hj; subst hj; simp [Addr.add, hb1]) | 2, hj => (simp at hj; subst hj; simp [Addr.add, hb2]) | j + 3, hj => simp at hj))
          intro v3 w4 hown3 hgrow3 hnil3
          obtain ⟨o3, k3, rfl⟩ := ownF_shape hown3
          have hob : ∀ q, (Value.slice ol k2 cl).ownBlock = some q → M ≤ q := fun q hq => (HO2.out.lt q hq).1
          have hb4 : Below M wr w4 := ((Below.refl _ _).alloc hM2 _).grown hgrow3 (by simp; omega) hob
          have hM4 : M ≤ w4.heap.size := Nat.le_trans hM2 hb4.size
          have HB4 := Lib.hid (HB2.out.trans (hb4.mono (by omega)))
          have HC4 := Lib.hid (HC2.out.next (hb4.mono hlt))
          have HK4 := Lib.hid (HK2.out.next hb4)
          rw [lv_snoc] at hown3
          have HO4 := Lib.hid hown3
          clear hob hb4 hown3 hgrow3 hnil3 c0 c1 f0 f1 g0 g1 e0 e1
          obtain ⟨c0, c1, f0, f1, g0, g1, e0, e1, hlt4⟩ := HC4.out
          go_wp2_with fail
          go_roundw
          case rel => exact ⟨k2 + 1, .slice o3 (k2 + 1) k3, by go_num, by omega, ownsRow_setCell_below HO4.out (a := ⟨w.heap.size + 1, 1, none⟩) (show w.heap.size + 1 < M by omega) (.slice o3 (k2 + 1) k3), HK4.out.setCell ⟨w.heap.size + 1, 1, none⟩ (show w.heap.size + 1 < w.heap.size + 2 by omega) _, HB4.out.setCell (Nat.le_succ _) _, HC4.out.set1 (.slice o3 (k2 + 1) k3), by simpa using hM4⟩
          case measure => simp [intOf]; omega
        · obtain rfl : k2 = nl := by omega
          go_wp2_with fail
          refine bodyPost_ret (v := .agg #[.slice oo k co, .slice ol k2 cl]) (by simp [results, Try.results8, go_sem, *]) rfl ?_
          have hF := ownsRow_setCell_below (ownsRow_setCell_below HK2.out.own (a := ⟨w.heap.size, 0, none⟩) (show w.heap.size < w.heap.size + 2 by omega) (.slice oo k co)) (a := ⟨w.heap.size, 1, none⟩) (show w.heap.size < w.heap.size + 2 by omega) (.slice ol k2 cl)
          have hL := ownsRow_setCell_below (ownsRow_setCell_below HO2.out (a := ⟨w.heap.size, 0, none⟩) (show w.heap.size < M by omega) (.slice oo k co)) (a := ⟨w.heap.size, 1, none⟩) (show w.heap.size < M by omega) (.slice ol k2 cl)
          have e1 : (fsN k).length = k := fsN_length k
          have e2 : (lsN k2).length = k2 := lsN_length k2
          obtain ⟨pf, bf, cf, hv, hF2⟩ := own_fs (fs := fsN k) (by rw [e1]; exact hF) (by omega) (fsN_small k)
          obtain ⟨pl, bl, cl2, hv2, hL2⟩ := own_ls (ls := lsN k2) (by rw [e2]; exact hL) (by omega) (lsN_bits k2 h2)
          exact ⟨⟨pf, bf, 0, cf, fsN k, pl, bl, 0, cl2, lsN k2⟩, by rw [hv, hv2]; rfl, rfl, rfl, ⟨hF2, hL2⟩, (HB2.out.setCell (Nat.le_refl _) _).setCell (Nat.le_refl _) _⟩
end Go.Proofs.Ytmbekgfbnapelaa
