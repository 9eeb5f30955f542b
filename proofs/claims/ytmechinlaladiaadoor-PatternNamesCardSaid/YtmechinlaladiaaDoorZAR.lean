/-
  WALKS of pattern's reader: class.
  WALKS of pattern's reader: repeated.
-/
import Derived.Test.YtmechinlaladiaaDoorZAQ
namespace Go.Proofs.YtmechinlaladiaaDoor
open Go.RowKit Go.Lib
set_option linter.unusedVariables false

theorem NodPost.bad {C : RdC} {b : Nat} {v : Value} {ms : List NdM} {w : World} {hi : Nat} {v' : Value} {ms' : List NdM} {W : World} {R : Rs} (hR : R = .error b) (h : RdS C b v ms w hi v' ms' W) : NodPost C R v ms w (.returned (.tuple #[noNode, .bool false])) W := by
  subst hR
  exact ⟨rfl, v', h.at_, h.but⟩
theorem NodPost.leaf {C : RdC} {b : Nat} {v : Value} {ms : List NdM} {w : World} {hi : Nat} {v' : Value} {W : World} {R : Rs} (k : Nat) (r : Int) (p m : Nat) (hk : k < 256) (hr : -2147483648 ≤ r ∧ r ≤ 2147483647) (hp : p < 4294967296) (hm : m < 4294967296) (hR : R = .ok (.nd k r p m .nil, b)) (h : RdS C b v ms w hi v' [] W) : NodPost C R v ms w (.returned (.tuple #[.agg #[.int .u8 k, .int .i32 r, .int .u32 p, .int .u32 m, .slice none 0 0], .bool true])) W := by
  subst hR
  exact ⟨⟨⟨k, r, p, m, []⟩, none, 0, 0, 0⟩, v', [], rfl, h.at_, h.fin, ⟨rfl, rfl, rfl, rfl, rfl⟩, rfl, Fresh.leaf k r p m hk hr hp hm⟩
set_option maxHeartbeats 1000000 in
set_option maxRecDepth 100000 in
theorem rclass_rd (C : RdC) (ok : C.Ok) (a : Nat) (v : Value) (ms : List NdM) (w : World) (h : RdAt C a v w) (hn : RdN C v ms w) (ha : a < (starts C.s).length) :
    Calls Tryd.prog 49 #[.pointer (some ⟨C.RB, 0, none⟩)] w (NodPost C (clsRd C.A C.s a) v ms w) := by
  have hS0 := fun O => RdS.start ok h hn ((Below.refl _ _).alloc (Nat.le_refl _) O) (hi := w.heap.size + 1) (by omega) (by simp)
  obtain ⟨pq, pb, g, c, hq, hc, hat, hsl, hidx, hcell, hpb, hgN⟩ := h.close ok (a + 1) ((a : Int) + 1) (by omega) (by omega)
  have hix := toR_idx C.s (a + 1) (by omega)
  have hge := toR_ge C.s (a + 1)
  have hbig := starts_most C.s
  have hsz := ok.size
  have c5 := h.c5; have c4 := h.c4; have c3 := h.c3
  rw [hq] at c4
  have hlt := h.rlt
  have fz := h.fz 5
  obtain ⟨RB, hRB⟩ : ∃ b, b = C.RB := ⟨_, rfl⟩
  obtain ⟨n, hnn⟩ : ∃ b, b = (starts C.s).length := ⟨_, rfl⟩
  obtain ⟨Z, hZ⟩ : ∃ b, b = idxQ C.s ((starts C.s).drop (a + 1)) := ⟨_, rfl⟩
  obtain ⟨R, hR⟩ : ∃ b, b = clsRd C.A C.s a := ⟨_, rfl⟩
  rw [← hRB] at c3 c4 c5 hlt fz ⊢
  rw [← hnn] at c4 hsl hidx hix hbig hc hat ha
  rw [← hZ] at hidx hix
  obtain ⟨m1, hm1⟩ : ∃ b, b = n - (a + 1) := ⟨_, rfl⟩
  obtain ⟨m2, hm2⟩ : ∃ b, b = c - (a + 1) := ⟨_, rfl⟩
  rw [← hm1, ← hm2] at hsl hidx
  have HM := Lib.hid (And.intro hm1 hm2)
  clear hm1 hm2
  rw [← hR]
  have hn6 : n ≤ 65536 := by omega
  have ha6 : a < 65536 := by omega
  have ha1 : a + 1 ≤ n := ha
  have hw1 : IntKind.i64.wrap ((a : Int) + 1) = (a : Int) + 1 := by rw [IntKind.wrap_i64]; omega
  have hZN := Lib.hid (ZNode.new w 36)
  have HS0 := Lib.hid (hS0 (.cells #[.int .u8 0, .int .i32 0, .int .u32 0, .int .u32 0, .slice none 0 0] 36))
  have HIDX := Lib.hid (hidx _ ((Below.refl w.heap.size w).alloc (Nat.le_refl _) (.cells #[.int .u8 0, .int .i32 0, .int .u32 0, .int .u32 0, .slice none 0 0] 36)))
  have HCELL := Lib.hid hcell; have HR := Lib.hid hR; have HRB := Lib.hid hRB; have HNN := Lib.hid hnn; have HQ := Lib.hid hq; have HAT := Lib.hid hat; have HPB := Lib.hid hpb; have HGN := Lib.hid hgN
  clear hgN hpb hidx hcell hR hRB hnn hq hat hZ h hn hS0
  by_cases hto : toR C.s (a + 1) < n
  · obtain ⟨F, hF⟩ : ∃ F, F = a + 1 := ⟨_, rfl⟩
    obtain ⟨T, hT⟩ : ∃ T, T = toR C.s (a + 1) := ⟨_, rfl⟩
    obtain ⟨d, hd⟩ : ∃ d, d = T - F := ⟨_, rfl⟩
    have hz := hix.1 hto
    rw [← hT, ← hF] at hz
    rw [← hd] at hz
    rw [← hT] at hto hge
    rw [← hF] at hge
    have e1 : (a : Int) + 1 = (F : Int) := by omega
    have e2 : (F : Int) + (d : Int) = (T : Int) := by omega
    have i1 : (F : Int) < (n : Int) := by omega
    have i2 : (T : Int) < (n : Int) := by omega
    have b1 : F < 70000 := by omega
    have b2 : T < 70000 := by omega
    have b3 : d < 70000 := by omega
    have hpF := plR_at (s := C.s) (k := F) (by rw [← HNN.out]; omega)
    have hpT := plR_at (s := C.s) (k := T) (by rw [← HNN.out]; omega)
    have hcF := HCELL.out F _ hpF
    have hcT := HCELL.out T _ hpT
    have hmo := plR_mono C.s (i := F) (j := T) (by omega)
    have hle := plR_le C.s T
    obtain rfl : pq = some ⟨g, 0, none⟩ := HAT.out.resolve_left (by omega)
    obtain ⟨s, hs⟩ : ∃ s, s = C.s := ⟨_, rfl⟩
    obtain ⟨x, hx⟩ : ∃ x, x = plR C.s F := ⟨_, rfl⟩
    obtain ⟨y, hy⟩ : ∃ x, x = plR C.s T := ⟨_, rfl⟩
    obtain ⟨S2, hS2⟩ : ∃ S2, S2 = s.extract x y := ⟨_, rfl⟩
    have hRR : R = (if (parR C.A S2).2.2.2 = 0 ∧ textR C.A (parR C.A S2).1 (parR C.A S2).2.1 = (S2.data.toList, 0) then .ok (.nd 3 0 (parR C.A S2).1 (parR C.A S2).2.1 .nil, T + 1) else .error F) := by
      rw [HR.out]; unfold clsRd; rw [if_pos (by rw [← HNN.out, ← hT]; exact hto), ← hT, ← hF, ← hx, ← hy, hS2, hs]
    rw [← hy, ← hs] at hle
    rw [← hx] at hcF hmo
    rw [← hy] at hcT hmo
    rw [← hs] at c3 hsz
    have hsl2 : ∀ wx, (Instr.slice 9 (.string s) (some (.int .i64 (x : Int))) (some (.int .i64 (y : Int))) none).run Tryd.prog wx = .ok (.string S2) wx := fun wx => by
      have e := run_slice_string (P := Tryd.prog) wx 9 s .i64 .i64 (x : Int) (y : Int) Tryd.underlying9 (by omega) (by omega) (by omega)
      rw [e, hS2]
      rfl
    have hpl := parR_lt C.A S2
    have hpa := fun W hW => parse_any C.A S2 W hW
    unfold ParPost at hpa
    have htx := fun W p m hW hp hm => textF_any C.A p m W hW hp hm
    obtain ⟨P, hP⟩ : ∃ P, P = parR C.A S2 := ⟨_, rfl⟩
    rw [← hP] at hRR hpl hpa
    obtain ⟨p, m, tt, E⟩ := P
    simp only at hRR hpl hpa
    have hAv : C.A.v = .agg #[.slice C.A.pf C.A.fs.length C.A.cf, .slice C.A.pl C.A.ls.length C.A.cl] := rfl
    rw [hAv] at hpa htx
    have HRR := Lib.hid hRR; have HPL := Lib.hid hpl; have HPA := Lib.hid hpa; have HTX := Lib.hid htx; have HSS := Lib.hid hs; have HT := Lib.hid hT; have HF := Lib.hid hF
    have hlF := blk_of_cell hcF
    rw [hz] at HIDX
    obtain rfl := HPB.out (by rw [← HNN.out]; omega)
    obtain ⟨hm1, hm2⟩ := HM.out
    rw [hm1, hm2, ← hF] at HIDX
    clear hm1 hm2 HM hsl
    clear hz hix hge hsz hbig HR hRR hpl hpa htx hT hd hpF hpT hs hx hy hS2 hP hmo hle hAv hF ha ha1 ha6
    go_enter Tryd.func49, Tryd.ntmps49
    go_wp2_with fail
    (with_reducible refine (HIDX.out).mono ?_)
    rintro e W1 ⟨rfl, hb⟩
    have HS1 := Lib.hid (RdS.next ok HS0.out hb)
    have HZ1 := Lib.hid (hZN.out.next hb)
    have hb0 := ((Below.refl w.heap.size w).alloc (Nat.le_refl _) (.cells #[.int .u8 0, .int .i32 0, .int .u32 0, .int .u32 0, .slice none 0 0] 36)).trans (hb.mono (by simp))
    have d3 : W1.cell? ⟨RB, 3, none⟩ = some (.string s) := (hb0.cell (p := ⟨RB, 3, none⟩) hlt).trans c3
    have d4 := (hb0.cell (p := ⟨RB, 4, none⟩) hlt).trans c4
    have d5 := (hb0.cell (p := ⟨RB, 5, none⟩) hlt).trans c5
    have df := (hb0.frozen (p := ⟨RB, 5, none⟩) hlt).trans fz
    have dF := (hb0.cell (p := ⟨g, F * 4 + 1, none⟩) hlF).trans hcF
    have dT := (hb0.cell (p := ⟨g, T * 4 + 1, none⟩) hlF).trans hcT
    clear hb HIDX HS0 c3 c4 c5 fz hcF hcT hb0 hZN
    go_wp2_with fail
    obtain ⟨W2, hW2⟩ : ∃ W2, W2 = W1.setCell ⟨RB, 5, none⟩ (.int .i64 (F : Int)) := ⟨_, rfl⟩
    have hS2 := RdS.setAt ok HS1.out F (F : Int) rfl
    rw [← HRB.out, ← hW2] at hS2
    have hgR : ¬ g = RB := fun e => by
      have h1 := HGN.out.resolve_left (by rw [← HNN.out]; omega)
      have h2 := ok.hR
      have h3 := HRB.out
      omega
    have hBut : But (fun q => q = RB) W1 W2 := by rw [hW2]; exact (But.refl (fun q => q = RB) W1).setCell (p := ⟨RB, 5, none⟩) (fun _ => rfl) _
    have hZ2 := HZ1.out.keep hBut (fun e => by omega)
    have cF := hBut.cell (p := ⟨g, F * 4 + 1, none⟩) dF hgR
    have cT := hBut.cell (p := ⟨g, T * 4 + 1, none⟩) dT hgR
    have c0 := hS2.at_.c0; have c1 := hS2.at_.c1; have c3 := hS2.at_.c3; have c4 := hS2.at_.c4; have c5 := hS2.at_.c5; have f5 := hS2.at_.fz 5
    rw [← HRB.out] at c0 c1 c3 c4 c5 f5
    rw [← HSS.out] at c3
    rw [HQ.out, ← HNN.out] at c4
    rw [← hW2]
    have HS2 := Lib.hid hS2; have HZ2 := Lib.hid hZ2
    clear hW2 hS2 hZ2 hBut d3 d4 d5 df dF dT HS1 HZ1
    have hal := HS2.out.at_.al ok
    have HAL := Lib.hid hal
    clear hal hgR c5 f5
    go_quiet (fail)
    clear cF cT c3 c4
    go_wp2_with fail
    (with_reducible refine (HPA.out _ (HAL.out.next (below_drewN (Below.refl _ _) _))).mono ?_)
    rintro e W3 ⟨rfl, hb3⟩
    have hS3 := (HS2.out.next ok (below_drewN (Below.refl _ _) nq)).next ok hb3
    have hZ3 := (HZ2.out.next (below_drewN (Below.refl _ _) nq)).next hb3
    have HAL3 := Lib.hid ((HAL.out.next (below_drewN (Below.refl _ _) nq)).next hb3)
    have HS3 := Lib.hid hS3; have HZ3 := Lib.hid hZ3
    clear hb3 hS3 hZ3 HS2 HZ2 HAL HPA c0 c1
    by_cases hE : E = 0
    · subst hE
      have c0 := HS3.out.at_.c0; have c1 := HS3.out.at_.c1
      rw [← HRB.out] at c0 c1
      have htx2 := HTX.out W3 p m HAL3.out HPL.out.1 HPL.out.2
      unfold TextPost at htx2
      obtain ⟨y, hy⟩ : ∃ y, y = textR C.A p m := ⟨_, rfl⟩
      rw [← hy] at HRR htx2
      obtain ⟨tx, E2⟩ := y
      simp only at htx2
      obtain ⟨G, hG⟩ : ∃ G : ByteArray, G = ⟨tx.toArray⟩ := ⟨_, rfl⟩
      rw [← hG] at htx2
      have HTX2 := Lib.hid htx2; have HG := Lib.hid hG
      clear htx2 hy hG HTX
      go_wp2_with fail
      (with_reducible refine (HTX2.out).mono ?_)
      rintro e W4 ⟨rfl, hb4⟩
      have HS4 := Lib.hid (HS3.out.next ok hb4)
      have HZ4 := Lib.hid (HZ3.out.next hb4)
      clear hb4 HS3 HZ3 HAL3 HTX2 c0 c1
      have bad : ¬ (E2 = 0 ∧ G.toList = S2.toList) → R = .error F := fun h => by
        rw [HRR.out, if_neg]
        rintro ⟨_, h2⟩
        injection h2 with h3 h4
        refine h ⟨h4, ?_⟩
        rw [HG.out, Lib.toList_data, Lib.toList_data, h3]
      have good : E2 = 0 → G.toList = S2.toList → R = .ok (.nd 3 0 p m .nil, T + 1) := fun h1 h2 => by
        rw [HRR.out, if_pos]
        refine ⟨by trivial, ?_⟩
        rw [HG.out, Lib.toList_data, Lib.toList_data] at h2
        rw [h1]
        simp only [Prod.mk.injEq, and_true]
        simpa using h2
      have BAD := Lib.hid bad; have GOOD := Lib.hid good
      clear bad good HRR
      by_cases hE2 : E2 = 0
      · subst hE2
        by_cases hs : G.toList = S2.toList
        · have q1 : (G.toList == S2.toList) = true := by simp [hs]
          have q2 : (G.toList != S2.toList) = false := by simp [hs]
          have HOK := Lib.hid (GOOD.out rfl hs)
          have c5 := HS4.out.at_.c5; have f5 := HS4.out.at_.fz 5
          rw [← HRB.out] at c5 f5
          have hS5 := RdS.setAt ok HS4.out T (T : Int) rfl
          have hZ5 : ZNode w.heap.size (W4.setCell ⟨C.RB, 5, none⟩ (.int .i64 (T : Int))) := HZ4.out.keep ((But.refl (fun q => q = C.RB) W4).setCell (p := ⟨C.RB, 5, none⟩) (fun _ => rfl) _) (fun e => by have := HRB.out; omega)
          have htk : Calls Tryd.prog 50 #[.pointer (some ⟨C.RB, 0, none⟩), .agg #[.int .u8 3, .int .i32 0, .int .u32 p, .int .u32 m, .slice none 0 0]] (W4.setCell ⟨C.RB, 5, none⟩ (.int .i64 (T : Int))) (TakPost C T v 3 0 p m (.slice none 0 0) (W4.setCell ⟨C.RB, 5, none⟩ (.int .i64 (T : Int)))) := taken_any C ok T v 3 0 p m none 0 0 _ hS5.at_ (by omega)
          unfold TakPost at htk
          rw [← HRB.out] at htk hS5 hZ5
          have HTK := Lib.hid htk; have HS5 := Lib.hid hS5; have HZ5 := Lib.hid hZ5
          clear hs GOOD BAD htk hS5 hZ5 HS4 HZ4
          go_wp2_with fail
          (with_reducible refine (HTK.out).mono ?_)
          rintro e W6 ⟨rfl, hA6, hB6⟩
          have hS6 := HS5.out.boxR hA6 (by rw [HRB.out] at hB6 ⊢; exact hB6)
          have hZ6 := HZ5.out.keep hB6 (fun e => by have := HRB.out; omega)
          obtain ⟨z0, z1, z2, z3, z4, f0, f1, f2, f3, f4⟩ := hZ6
          have HFIN := Lib.hid (fun u0 u1 u2 u3 u4 => NodPost.leaf 3 0 p m (by decide) (by decide) HPL.out.1 HPL.out.2 HOK.out (RdS.loc ok hS6 (but5 w.heap.size W6 u0 u1 u2 u3 u4) (fun k e => by omega)))
          clear hA6 hB6 hS6 HS5 HZ5 HTK
          go_wp2_with fail
          refine bodyPost_ret (v := .tuple #[.agg #[.int .u8 3, .int .i32 0, .int .u32 p, .int .u32 m, .slice none 0 0], .bool true]) (by simp [results, Tryd.results49, go_sem, *]) rfl ?_
          exact HFIN.out _ _ _ _ _
        · have q1 : (G.toList == S2.toList) = false := by simp [hs]
          have q2 : (G.toList != S2.toList) = true := by simp [hs]
          have HRE := Lib.hid (BAD.out (fun h => hs h.2))
          obtain ⟨z0, z1, z2, z3, z4, f0, f1, f2, f3, f4⟩ := HZ4.out
          have HFIN := Lib.hid (fun u0 u1 u2 u3 u4 => NodPost.bad HRE.out (RdS.loc ok HS4.out (but5 w.heap.size W4 u0 u1 u2 u3 u4) (fun k e => by omega)))
          clear hs GOOD BAD HS4 HZ4
          go_wp2_with fail
          refine bodyPost_ret (v := .tuple #[noNode, .bool false]) (by simp [results, Tryd.results49, go_sem, noNode, *]) rfl ?_
          exact HFIN.out _ _ _ _ _
      · have q1 : ((E2 : Int) == 0) = false := by simp [hE2]
        have q2 : ((E2 : Int) != 0) = true := by simp [hE2]
        have HRE := Lib.hid (BAD.out (fun h => hE2 h.1))
        obtain ⟨z0, z1, z2, z3, z4, f0, f1, f2, f3, f4⟩ := HZ4.out
        have HFIN := Lib.hid (fun u0 u1 u2 u3 u4 => NodPost.bad HRE.out (RdS.loc ok HS4.out (but5 w.heap.size W4 u0 u1 u2 u3 u4) (fun k e => by omega)))
        clear GOOD BAD HS4 HZ4
        go_wp2_with fail
        refine bodyPost_ret (v := .tuple #[noNode, .bool false]) (by simp [results, Tryd.results49, go_sem, noNode, *]) rfl ?_
        exact HFIN.out _ _ _ _ _
    · have q1 : ((E : Int) == 0) = false := by simp [hE]
      have q2 : ((E : Int) != 0) = true := by simp [hE]
      have HRE := Lib.hid (show R = .error F by rw [HRR.out, if_neg (fun h => hE h.1)])
      obtain ⟨z0, z1, z2, z3, z4, f0, f1, f2, f3, f4⟩ := HZ3.out
      have HFIN := Lib.hid (fun u0 u1 u2 u3 u4 => NodPost.bad HRE.out (RdS.loc ok HS3.out (but5 w.heap.size W3 u0 u1 u2 u3 u4) (fun k e => by omega)))
      clear HS3 HZ3 HAL3 HTX HRR
      go_wp2_with fail
      refine bodyPost_ret (v := .tuple #[noNode, .bool false]) (by simp [results, Tryd.results49, go_sem, noNode, *]) rfl ?_
      exact HFIN.out _ _ _ _ _
  · have hz := hix.2 hto
    have HRE := Lib.hid (show R = .error a by rw [HR.out]; unfold clsRd; rw [if_neg (by rw [← HNN.out]; exact hto)])
    rw [hz] at HIDX
    clear hz hix hto hge hsz hZN hbig
    go_enter Tryd.func49, Tryd.ntmps49
    go_wp2_with fail
    (with_reducible refine (HIDX.out).mono ?_)
    rintro e W1 ⟨rfl, hb⟩
    have HS1 := Lib.hid (RdS.next ok HS0.out hb)
    have HZ1 := ((ZNode.new w 36).next hb)
    obtain ⟨z0, z1, z2, z3, z4, f0, f1, f2, f3, f4⟩ := HZ1
    have HFIN := Lib.hid (fun u0 u1 u2 u3 u4 => NodPost.bad HRE.out (RdS.loc ok HS1.out (but5 w.heap.size W1 u0 u1 u2 u3 u4) (fun k e => by omega)))
    clear hb HIDX HS0 HS1
    go_wp2_with fail
    refine bodyPost_ret (v := .tuple #[noNode, .bool false]) (by simp [results, Tryd.results49, go_sem, noNode, *]) rfl ?_
    exact HFIN.out _ _ _ _ _
end Go.Proofs.YtmechinlaladiaaDoor
namespace Go.Proofs.YtmechinlaladiaaDoor
open Go.RowKit Go.Lib
set_option linter.unusedVariables false

theorem KepPost.grow {C : RdC} {a : Nat} {v : Value} {ms : List NdM} {M : NdM} {lo : Nat} {W0 w : World} {e : Ending} {w' : World} (h : KepPost C a v ms M lo w e w') (hb : Below W0.heap.size W0 w) (hlo : lo = W0.heap.size) :
    e = .returned (.int .i64 ms.length) ∧ ∃ v', RdAt C a v' w' ∧ Grow C v ms W0 v' [M] w' := by
  obtain ⟨he, v', ha, hn, hf, hbt, hv⟩ := h
  refine ⟨he, v', ha, hn, fun m hm => by rw [List.mem_singleton.1 hm, ← hlo]; exact hf, (But.of_below (X := fun k => k = C.RB ∨ v.ownBlock = some k) hb).trans hbt (fun i _ e => e), ?_⟩
  rcases hv with e | ⟨b, e, hb'⟩
  · exact Or.inl e
  · exact Or.inr ⟨b, e, Nat.le_trans hb.size hb'⟩
/-- A node with one kid, its row new. -/
theorem Fresh.one {C : RdC} {b : Nat} {v : Value} {ms : List NdM} {w : World} {hi : Nat} {v' : Value} {ms' : List NdM} {W : World} (h : RdS C b v ms w hi v' ms' W) (kd : Nat) (hkd : kd < 256) (z : Int) (hz : -9223372036854775808 ≤ z ∧ z ≤ 9223372036854775807) (O : Obj) (hO : O = .cells #[.int .i64 z] 3) :
    Fresh C W.heap.size v' ⟨⟨kd, 0, 0, 0, [z]⟩, some ⟨W.heap.size, 0, none⟩, W.heap.size, 0, 1⟩ (W.alloc O) := by
  subst hO
  refine ⟨⟨fun _ => rfl, fun j hj => ?_, by simp, by simp, fun k hk => by rw [List.mem_singleton.1 hk]; exact hz⟩, fun _ => ⟨fun e => ?_, fun e => ?_⟩, fun _ => ⟨Nat.le_refl _, by simp, fun o => by simp [World.frozen?_alloc_at]⟩, ⟨hkd, ⟨(by show (-2147483648 : Int) ≤ 0; decide), (by show (0 : Int) ≤ 2147483647; decide)⟩, (by show (0 : Nat) < 4294967296; decide), (by show (0 : Nat) < 4294967296; decide)⟩⟩
  · have : j = 0 := by simpa using hj
    subst this
    simp
  · have := (h.n.out.own.lt _ e).2
    exact absurd this (Nat.lt_irrefl _)
  · have h1 := h.loF _ e
    have h2 := h.hi0
    have h3 := h.hiW
    have h4 : (⟨⟨kd, 0, 0, 0, [z]⟩, some ⟨W.heap.size, 0, none⟩, W.heap.size, 0, 1⟩ : NdM).bk = W.heap.size := rfl
    omega
def RepPost (C : RdC) (R : Tr × Nat) (t : Tr) (v : Value) (ms : List NdM) (w : World) (e : Ending) (w' : World) : Prop :=
  ∃ (k : Nat) (v' : Value) (ms' : List NdM), e = .returned (.int .i64 k) ∧ RdAt C R.2 v' w' ∧ Grow C v ms w v' ms' w' ∧ R.1.At (nds (ms ++ ms')) (k : Int) ∧ ms'.length + t.sz = R.1.sz ∧ k < (ms ++ ms').length
/-- repeated's loop. -/
structure RepL (C : RdC) (R : Tr × Nat) (t : Tr) (v : Value) (ms : List NdM) (w : World) (k b f : Nat) (wr : World) : Prop where
  ex : ∃ v' ms' t', RdS C b v ms w w.heap.size v' ms' wr ∧ repF C.s f t' b = R ∧ t'.At (nds (ms ++ ms')) (k : Int) ∧ ms'.length + t.sz = t'.sz ∧ k < (ms ++ ms').length ∧ (ms ++ ms').length ≤ b
  le : b ≤ (starts C.s).length
  fuel : (starts C.s).length ≤ b + f
def atOf (RB : Nat) (W : World) : Nat := (intOf ((W.cell? ⟨RB, 5, none⟩).getD undef)).toNat
theorem RepL.step {C : RdC} (ok : C.Ok) {R : Tr × Nat} {t : Tr} {v : Value} {ms : List NdM} {w : World} {k b f : Nat} {wr : World} (h : RepL C R t v ms w k b f wr) (kd : Nat) (kz ch : Int) (hkz : kz = (kd : Int)) (hkd : (kd = 8 ∧ ch = 42) ∨ (kd = 9 ∧ ch = 63)) (hc : nxR C.s b = ch) {W : World} (hb : Below wr.heap.size wr W) :
    W.cell? ⟨C.RB, 5, none⟩ = some (.int .i64 b) ∧ W.frozen? ⟨C.RB, 5, none⟩ = false ∧ C.RB < W.heap.size ∧
    ∃ (m : Nat), Calls Tryd.prog 33 #[.pointer (some ⟨C.RB, 0, none⟩), .agg #[.int .u8 kz, .int .i32 0, .int .u32 0, .int .u32 0, .slice (some ⟨W.heap.size, 0, none⟩) 1 1]] ((W.setCell ⟨C.RB, 5, none⟩ (.int .i64 ((b : Int) + 1))).alloc (.cells #[.int .i64 k] 3)) fun e w' => e = .returned (.int .i64 m) ∧ RepL C R t v ms w m (b + 1) (f - 1) w' := by
  obtain ⟨v', ms', t', hS, hR, hat, hsz, hk, hl⟩ := h.ex
  have hlt : b < (starts C.s).length := nxR_lt (s := C.s) (k := b) (by rw [hc]; rcases hkd with ⟨_, e⟩ | ⟨_, e⟩ <;> rw [e] <;> decide)
  have hbig := starts_most C.s
  have hsize := ok.size
  have hS1 := hS.next ok hb
  have hS2 := hS1.setAt ok (b + 1) ((b : Int) + 1) (by omega)
  subst hkz
  refine ⟨hS1.at_.c5, hS1.at_.fz 5, hS1.at_.rlt, (ms ++ ms').length, ?_⟩
  have hsz0 : (W.setCell ⟨C.RB, 5, none⟩ (.int .i64 ((b : Int) + 1))).heap.size = W.heap.size := by simp
  have hk256 : kd < 256 := by rcases hkd with ⟨e, _⟩ | ⟨e, _⟩ <;> omega
  have hF := Fresh.one hS2 kd hk256 (k : Int) (by omega) (.cells #[.int .i64 k] 3) rfl
  have hB : Below (W.setCell ⟨C.RB, 5, none⟩ (.int .i64 ((b : Int) + 1))).heap.size (W.setCell ⟨C.RB, 5, none⟩ (.int .i64 ((b : Int) + 1))) ((W.setCell ⟨C.RB, 5, none⟩ (.int .i64 ((b : Int) + 1))).alloc (.cells #[.int .i64 k] 3)) := (Below.refl _ _).alloc (Nat.le_refl _) _
  have hS3 := hS2.next ok hB
  rw [hsz0] at hF
  refine (keep_any C ok (b + 1) v' (ms ++ ms') _ _ _ hS3.at_ hS3.n hF (by omega)).mono ?_
  intro e w' hpost
  obtain ⟨he, v2, hA, hG⟩ := hpost.grow hB hsz0.symm
  refine ⟨he, ⟨⟨v2, ms' ++ [_], .nd kd 0 0 0 (.cons t' .nil), hS2.grow hA hG, ?_, ?_, ?_, ?_, ?_⟩, hlt, by have := h.fuel; omega⟩⟩
  · rw [← hR]
    obtain ⟨f, rfl⟩ : ∃ q, f = q + 1 := ⟨f - 1, by have := h.fuel; omega⟩
    rcases hkd with ⟨rfl, rfl⟩ | ⟨rfl, rfl⟩
    · rw [repF, if_pos hc]; rfl
    · rw [repF, if_neg (by rw [hc]; decide), if_pos hc]; rfl
  · have h1 : (Tr.nd kd 0 0 0 (.cons t' .nil)).Hd (nds (ms ++ ms')) ⟨kd, 0, 0, 0, [(k : Int)]⟩ := ⟨rfl, rfl, rfl, rfl, (k : Int), [], rfl, hat, rfl⟩
    have h2 := Tr.Hd_At h1
    rw [nds_length] at h2
    rw [← List.append_assoc, nds_app]
    exact h2
  · simp only [List.length_append, List.length_singleton, Tr.sz, Ts.sz]; omega
  · simp only [List.length_append, List.length_singleton]; omega
  · simp only [List.length_append, List.length_singleton] at hl ⊢; omega
theorem RepL.done {C : RdC} (ok : C.Ok) {R : Tr × Nat} {t : Tr} {v : Value} {ms : List NdM} {w : World} {k b f : Nat} {wr : World} (h : RepL C R t v ms w k b f wr) (h1 : ¬ nxR C.s b = 42) (h2 : ¬ nxR C.s b = 63) {W : World} (hb : Below wr.heap.size wr W) : RepPost C R t v ms w (.returned (.int .i64 k)) W := by
  obtain ⟨v', ms', t', hS, hR, hat, hsz, hk, hl⟩ := h.ex
  have hS1 := hS.next ok hb
  have e : R = (t', b) := by
    rw [← hR]
    cases f with
    | zero => rfl
    | succ f => rw [repF, if_neg h1, if_neg h2]
  rw [e]
  exact ⟨k, v', ms', rfl, hS1.at_, hS1.fin, hat, hsz, hk⟩
theorem RepL.at {C : RdC} {R : Tr × Nat} {t : Tr} {v : Value} {ms : List NdM} {w : World} {k b f : Nat} {wr : World} (h : RepL C R t v ms w k b f wr) : atOf C.RB wr = b := by
  obtain ⟨v', ms', t', hS, _⟩ := h.ex
  unfold atOf
  rw [hS.at_.c5]
  simp [intOf]
set_option maxHeartbeats 4000000 in
set_option maxRecDepth 100000 in
theorem repeated_any (C : RdC) (ok : C.Ok) (a f : Nat) (v : Value) (ms : List NdM) (t : Tr) (k : Nat) (w : World) (h : RdAt C a v w) (hn : RdN C v ms w) (hat : t.At (nds ms) (k : Int)) (hk : k < ms.length) (hl : ms.length ≤ a) (ha : a ≤ (starts C.s).length) (hf : (starts C.s).length ≤ a + f) :
    Calls Tryd.prog 32 #[.pointer (some ⟨C.RB, 0, none⟩), .int .i64 k] w (RepPost C (repF C.s f t a) t v ms w) := by
  have h0 : RepL C (repF C.s f t a) t v ms w k a f w := ⟨⟨v, [], t, RdS.start ok h hn (Below.refl _ _) (Nat.le_refl _) (Nat.le_refl _), rfl, by rw [List.append_nil]; exact hat, by simp, by simpa using hk, by simpa using hl⟩, ha, hf⟩
  obtain ⟨R, hR⟩ : ∃ R, R = repF C.s f t a := ⟨_, rfl⟩
  rw [← hR] at h0 ⊢
  obtain ⟨RB, hRB⟩ : ∃ b, b = C.RB := ⟨_, rfl⟩
  obtain ⟨n, hnn⟩ : ∃ b, b = (starts C.s).length := ⟨_, rfl⟩
  have hn6 : n ≤ 65536 := by have := starts_most C.s; have := ok.size; omega
  have HRB := Lib.hid hRB; have HNN := Lib.hid hnn; have H0 := Lib.hid h0
  rw [← hRB]
  clear hR hRB hnn h0 h hn hat hk hl ha hf
  go_enter Tryd.func32, Tryd.ntmps32
  go_wp2_with fail
  go_loopw [1] (fun nv wr => ∃ k b f : Nat, nv = .int .i64 k ∧ b ≤ n ∧ Hid (RepL C R t v ms w k b f wr)) (fun _ wr => n - atOf RB wr)
  case atStart => exact ⟨k, a, f, rfl, by have := H0.out.le; rw [HNN.out]; exact this, H0⟩
  case round =>
    clear H0
    obtain ⟨k, b, f, rfl, hb, HL⟩ := hrel
    have hat0 := HL.out.at
    rw [← HRB.out] at hat0
    have hnx : Calls Tryd.prog 34 #[.pointer (some ⟨RB, 0, none⟩)] wr fun e w' => e = .returned (.int .i32 (nxR C.s b)) ∧ Below wr.heap.size wr w' := by
      obtain ⟨v', ms', t', hS, _⟩ := HL.out.ex
      rw [HRB.out]
      exact next_any C ok b v' wr hS.at_ HL.out.le
    have hd := fun h1 h2 W hb => HL.out.done ok h1 h2 (W := W) hb
    have hs := fun kd kz ch h0 h1 h2 W hb => HL.out.step ok kd kz ch h0 h1 h2 (W := W) hb
    rw [← HRB.out] at hs
    have hlt : ∀ ch : Int, ch ≠ -1 → nxR C.s b = ch → b + 1 ≤ n := fun ch h1 h2 => by rw [HNN.out]; exact nxR_lt (s := C.s) (k := b) (by rw [h2]; exact h1)
    obtain ⟨x, hx⟩ : ∃ x, x = nxR C.s b := ⟨_, rfl⟩
    rw [← hx] at hnx hd hs hlt
    have HNX := Lib.hid hnx; have HD := Lib.hid hd; have HS := Lib.hid hs; have HAT := Lib.hid hat0; have HLT := Lib.hid hlt
    clear hnx hd hs hat0 hx hlt
    by_cases h42 : x = 42
    · subst h42
      have HS8 := Lib.hid (HS.out 8 8 42 rfl (Or.inl ⟨rfl, rfl⟩) rfl)
      have HB := Lib.hid (HLT.out 42 (by decide) rfl)
      clear HS HD HLT
      go_wp2_with fail
      (with_reducible refine (HNX.out).mono ?_)
      rintro e W ⟨rfl, hb1⟩
      obtain ⟨c5, f5, hlt, m, hcall⟩ := HS8.out W hb1
      have HC := Lib.hid hcall
      clear hcall hb1 HNX HS8
      go_wp2_with fail
      (with_reducible refine (HC.out).mono ?_)
      rintro e W2 ⟨rfl, hL2⟩
      have HL2 := Lib.hid hL2
      clear hL2 HC c5 f5
      go_wp2_with fail
      go_roundw
      case rel => exact ⟨m, b + 1, f - 1, rfl, HB.out, HL2⟩
      case measure =>
        have h3 := HL2.out.at
        rw [← HRB.out] at h3
        have := HB.out
        rw [h3, HAT.out]
        omega
    · have q1 : (x == (42 : Int)) = false := by simpa using h42
      by_cases h63 : x = 63
      · subst h63
        have HS8 := Lib.hid (HS.out 9 9 63 rfl (Or.inr ⟨rfl, rfl⟩) rfl)
        have HB := Lib.hid (HLT.out 63 (by decide) rfl)
        clear HS HD HLT h42
        go_wp2_with fail
        (with_reducible refine (HNX.out).mono ?_)
        rintro e W ⟨rfl, hb1⟩
        obtain ⟨c5, f5, hlt, m, hcall⟩ := HS8.out W hb1
        have HC := Lib.hid hcall
        clear hcall hb1 HNX HS8
        go_wp2_with fail
        (with_reducible refine (HC.out).mono ?_)
        rintro e W2 ⟨rfl, hL2⟩
        have HL2 := Lib.hid hL2
        clear hL2 HC c5 f5
        go_wp2_with fail
        go_roundw
        case rel => exact ⟨m, b + 1, f - 1, rfl, HB.out, HL2⟩
        case measure =>
          have h3 := HL2.out.at
          rw [← HRB.out] at h3
          have := HB.out
          rw [h3, HAT.out]
          omega
      · have q2 : (x == (63 : Int)) = false := by simpa using h63
        have HDD := Lib.hid (HD.out h42 h63)
        clear HS HD HLT h42 h63
        go_wp2_with fail
        (with_reducible refine (HNX.out).mono ?_)
        rintro e W ⟨rfl, hb1⟩
        have HFIN := Lib.hid (HDD.out W hb1)
        clear hb1 HNX HDD
        go_wp2_with fail
        go_ret
        exact HFIN.out
end Go.Proofs.YtmechinlaladiaaDoor
