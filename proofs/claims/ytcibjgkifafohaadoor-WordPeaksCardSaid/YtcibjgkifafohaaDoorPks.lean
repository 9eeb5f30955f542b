/-
  WALKS: cognatelaw03.WordPeaks.
-/
import Derived.Test.YtcibjgkifafohaaDoorPkC
namespace Go.Proofs.YtcibjgkifafohaaDoor
open Go.RowKit Go.Lib
set_option linter.unusedVariables false

/-- The law's world: the alphabet's box, the program's spans (written over), the document's. -/
structure Wq (A : Al) (F L : Value) (w : World) (b B1 : Nat) (vx : Value) (B2 : Nat) (vy : Value) (n : Nat) (S : List Value) (wk : World) : Prop where
  x : Wx A F L w b wk
  ox : ∃ xs : List Value, xs.length = n * 2 ∧ wk.ownsRow B1 54 2 vx n xs
  oy : wk.ownsRow B2 54 2 vy n S
theorem Wq.store {A : Al} {F L : Value} {w : World} {b B1 : Nat} {vx : Value} {B2 : Nat} {vy : Value} {n : Nat} {S : List Value} {wk : World} (h : Wq A F L w b B1 vx B2 vy n S wk) (hB1 : b < B1) (hq : ∀ q, vx.ownBlock = some q → q < B2) (hA : ∀ W, Below w.heap.size w W → A.In W ∧ Tabs W) {k : Nat} (hk : k < n) (u : Value) (hB : w.heap.size ≤ B1) :
    ∃ g c, vx = .slice (some ⟨g, 0, none⟩) n c ∧ ((∃ y, wk.cell? ⟨g, k * 2, none⟩ = some y) ∧ wk.frozen? ⟨g, k * 2, none⟩ = false) ∧ Wq A F L w b B1 vx B2 vy n S (wk.setCell ⟨g, k * 2, none⟩ u) := by
  obtain ⟨xs, hxs, ho⟩ := h.ox
  have ho' := ho
  rcases ho.2 with ⟨rfl, h0⟩ | ⟨g, cap, cur, rfl, hBg, hg, _⟩
  · omega
  · obtain ⟨hst, hgr⟩ := ho'.stored (k * 2) u
    have hgB := hq g (by simp [Value.ownBlock])
    refine ⟨g, cap, rfl, ⟨⟨xs[k * 2]'(by omega), by rw [ho'.cellAt (k * 2) (by omega), List.getElem?_eq_getElem (by omega)]⟩, ho'.frozenAt (k * 2)⟩, ⟨h.x.grown hgr (fun q hq' => by cases hq'; omega) hA, ⟨xs.set (k * 2) u, by rw [List.length_set]; exact hxs, hst⟩, h.oy.kept hgr ?_⟩⟩
    rcases h.oy.2 with ⟨rfl, _⟩ | ⟨g2, c2, cu2, rfl, hB2, _⟩
    · exact Or.inl rfl
    · exact Or.inr (by simp [Value.ownBlock]; omega)

set_option maxHeartbeats 8000000 in
set_option maxRecDepth 100000 in
theorem lawPks (A : Al) (s : ByteArray) (p m : Nat) (w : World) (hA : A.In w) (hs : s.size ≤ maxLen) (hp : p < 4294967296) (hm : m < 4294967296) (hT : Tabs w) :
    Calls Tryd.prog 5 #[A.v, .string s, .int .u32 p, .int .u32 m] w fun e w' => e = .returned (.bool true) ∧ Below w.heap.size w w' := by
  have hs' : s.size ≤ 9223372036854775807 := hs
  have k0 := awake_w A
  have k1 := fun W hA hT => peaks_any A s p m W hA hT hp hm
  have k2 := fun W hA hT => rpeaks_any A s p m W hA hT hp hm hs'
  have k3 := fun W hA hT => syl_any A s p m W hA hT hp hm
  have k4 := fun W hA hT => rsyl_any A s p m W hA hT hp hm hs'
  unfold PksPost at k1 k2
  unfold SylPost at k3 k4
  have hP260 := pkL_le A s p m
  obtain ⟨P, hP⟩ : ∃ P, P = pkL A s p m := ⟨_, rfl⟩
  obtain ⟨N, hN⟩ : ∃ P, P = pkN A s p m := ⟨_, rfl⟩
  obtain ⟨E, hE⟩ : ∃ P, P = pkE A s p m := ⟨_, rfl⟩
  rw [← hP, ← hE] at k1 k2
  rw [← hP, ← hN, ← hE] at k3 k4
  rw [← hP] at hP260
  have ksi : ∀ (W : World) (B1 B2 : Nat) (vx vy : Value), W.ownsRow B1 3 1 vx P.length (P.map E64) → W.ownsRow B2 3 1 vy P.length (P.map E64) → Calls Tryd.prog 32 #[vx, vy] W fun e w' => e = .returned (.bool true) ∧ Below W.heap.size W w' := by
    intro W B1 B2 vx vy h1 h2
    obtain ⟨pr, br, cr, rfl, hr⟩ := own_ns h1 (by omega)
    obtain ⟨qr, ur, cs, rfl, hq⟩ := own_ns h2 (by omega)
    exact samei_any W rfl hr hq hP260
  have ksp : ∀ (W : World) (B1 B2 : Nat) (vx vy : Value), W.ownsRow B1 54 2 vx P.length (spanCs P N P.length) → W.ownsRow B2 54 2 vy P.length (spanCs P N P.length) → Calls Tryd.prog 33 #[vx, vy] W fun e w' => e = .returned (.bool true) ∧ Below W.heap.size W w' := by
    intro W B1 B2 vx vy h1 h2
    obtain ⟨pr, br, cr, rfl, hr⟩ := own_sp h1
    obtain ⟨qr, ur, cs, rfl, hq⟩ := own_sp h2
    exact samep_any W hr hq hP260
  have hSl : (spanCs P N P.length).length = P.length * 2 := spanCs_len P N P.length
  obtain ⟨S, hS⟩ : ∃ S, S = spanCs P N P.length := ⟨_, rfl⟩
  obtain ⟨I, hI⟩ : ∃ S, S = P.map E64 := ⟨_, rfl⟩
  rw [← hS] at k3 k4 ksp hSl
  rw [← hI] at k1 k2 ksi
  obtain ⟨n, hn⟩ : ∃ n, n = P.length := ⟨_, rfl⟩
  rw [← hn] at k1 k2 k3 k4 ksi ksp hSl hP260
  obtain ⟨pf, pl, nf, cf, nl, cl, hv, hnf, hnl, hpl, hcl, hpf, hcf⟩ := A.parts
  rw [hv] at k1 k2 k3 k4 ⊢
  have hbase : ∀ W, Below w.heap.size w W → A.In W ∧ Tabs W := fun W hb => ⟨hA.next hb, hT.next hb⟩
  have HBASE := Lib.hid hbase
  have K0 := Lib.hid k0; have K1 := Lib.hid k1; have K2 := Lib.hid k2; have K3 := Lib.hid k3; have K4 := Lib.hid k4; have KSI := Lib.hid ksi; have KSP := Lib.hid ksp; have HSL := Lib.hid hSl
  have hsx := Wx.start (F := .slice pf nf cf) (L := .slice pl nl cl) hA hT
  have HS := Lib.hid hsx
  clear hbase hsx hA hT hs hs' k0 k1 k2 k3 k4 ksi ksp hSl hn hP hN hE hS hI hv hnf hnl hpl hcl hpf hcf hp hm
  go_enter Tryd.func5, Tryd.ntmps5
  go_wp2_with fail
  refine (K0.out _ (HS.out).i (HS.out).t).mono ?_
  rintro _ w1 ⟨rfl, hb⟩
  have hs := (HS.out).next hb
  obtain ⟨c0, c1, hlt⟩ : w1.cell? ⟨w.heap.size, 0, none⟩ = some (.slice pf nf cf) ∧ w1.cell? ⟨w.heap.size, 1, none⟩ = some (.slice pl nl cl) ∧ w.heap.size < w1.heap.size := ⟨hs.c0, hs.c1, hs.lt⟩
  clear HS
  have HS := Lib.hid hs
  have hB1 := hs.lt
  clear hs hb
  go_wp2_with fail
  refine (K1.out _ (HS.out).i (HS.out).t).mono ?_
  rintro _ w2 ⟨vp, rfl, ho, hb⟩
  have hs := (HS.out).next hb
  obtain ⟨c0, c1, hlt⟩ : w2.cell? ⟨w.heap.size, 0, none⟩ = some (.slice pf nf cf) ∧ w2.cell? ⟨w.heap.size, 1, none⟩ = some (.slice pl nl cl) ∧ w.heap.size < w2.heap.size := ⟨hs.c0, hs.c1, hs.lt⟩
  clear HS
  have HS := Lib.hid hs
  have HP1 := Lib.hid ho
  obtain ⟨op, cp, rfl⟩ := own_shape ho
  clear hs hb ho
  go_wp2_with fail
  refine (K2.out _ (HS.out).i (HS.out).t).mono ?_
  rintro _ w3 ⟨vq, rfl, ho, hb⟩
  have hs := (HS.out).next hb
  obtain ⟨c0, c1, hlt⟩ : w3.cell? ⟨w.heap.size, 0, none⟩ = some (.slice pf nf cf) ∧ w3.cell? ⟨w.heap.size, 1, none⟩ = some (.slice pl nl cl) ∧ w.heap.size < w3.heap.size := ⟨hs.c0, hs.c1, hs.lt⟩
  clear HS
  have HS := Lib.hid hs
  have HP1' := Lib.hid (own_below HP1.out hb)
  have HP2 := Lib.hid ho
  have hB3 : w.heap.size < w3.heap.size := hs.lt
  obtain ⟨oq, cq, rfl⟩ := own_shape ho
  clear HP1 hs hb ho
  go_wp2_with fail
  refine (K3.out _ (HS.out).i (HS.out).t).mono ?_
  rintro _ w4 ⟨vx, rfl, ho, hb⟩
  have hs := (HS.out).next hb
  obtain ⟨c0, c1, hlt⟩ : w4.cell? ⟨w.heap.size, 0, none⟩ = some (.slice pf nf cf) ∧ w4.cell? ⟨w.heap.size, 1, none⟩ = some (.slice pl nl cl) ∧ w.heap.size < w4.heap.size := ⟨hs.c0, hs.c1, hs.lt⟩
  clear HS
  have HS := Lib.hid hs
  have HQ1 := Lib.hid (own_below HP1'.out hb)
  have HQ2 := Lib.hid (own_below HP2.out hb)
  have HOX := Lib.hid ho
  have hqx : ∀ q, vx.ownBlock = some q → q < w4.heap.size := fun q hq => (ho.lt q hq).2
  have HQX := Lib.hid hqx
  obtain ⟨ox, cx, rfl⟩ := own_shape ho
  clear HP1' HP2 hs hb ho hqx
  go_wp2_with fail
  refine (K4.out _ (HS.out).i (HS.out).t).mono ?_
  rintro _ w5 ⟨vy, rfl, ho, hb⟩
  have hs := (HS.out).next hb
  obtain ⟨c0, c1, hlt⟩ : w5.cell? ⟨w.heap.size, 0, none⟩ = some (.slice pf nf cf) ∧ w5.cell? ⟨w.heap.size, 1, none⟩ = some (.slice pl nl cl) ∧ w.heap.size < w5.heap.size := ⟨hs.c0, hs.c1, hs.lt⟩
  clear HS
  have HS := Lib.hid hs
  have HP1 := Lib.hid (own_below HQ1.out hb)
  have HP2 := Lib.hid (own_below HQ2.out hb)
  have HX5 := Lib.hid (own_below HOX.out hb)
  have HY5 := Lib.hid ho
  obtain ⟨oy, cy, rfl⟩ := own_shape ho
  clear HQ1 HQ2 HOX hs hb ho
  go_wp2_with fail
  refine (KSI.out _ _ _ _ _ HP1.out HP2.out).mono ?_
  rintro _ w6 ⟨rfl, hb⟩
  have hs := (HS.out).next hb
  obtain ⟨c0, c1, hlt⟩ : w6.cell? ⟨w.heap.size, 0, none⟩ = some (.slice pf nf cf) ∧ w6.cell? ⟨w.heap.size, 1, none⟩ = some (.slice pl nl cl) ∧ w.heap.size < w6.heap.size := ⟨hs.c0, hs.c1, hs.lt⟩
  clear HS
  have HS := Lib.hid hs
  have HX6 := Lib.hid (own_below HX5.out hb)
  have HY6 := Lib.hid (own_below HY5.out hb)
  clear HP1 HP2 HX5 HY5 hs hb
  go_wp2_with fail
  refine (KSP.out _ _ _ _ _ HX6.out HY6.out).mono ?_
  rintro _ w7 ⟨rfl, hb⟩
  have hs := (HS.out).next hb
  obtain ⟨c0, c1, hlt⟩ : w7.cell? ⟨w.heap.size, 0, none⟩ = some (.slice pf nf cf) ∧ w7.cell? ⟨w.heap.size, 1, none⟩ = some (.slice pl nl cl) ∧ w.heap.size < w7.heap.size := ⟨hs.c0, hs.c1, hs.lt⟩
  clear HS
  have HS := Lib.hid hs
  have HW := Lib.hid (show Wq A (.slice pf nf cf) (.slice pl nl cl) w w.heap.size w3.heap.size (.slice ox n cx) w4.heap.size (.slice oy n cy) n S w7 from ⟨hs, ⟨S, HSL.out, own_below HX6.out hb⟩, own_below HY6.out hb⟩)
  clear HX6 HY6 hs hb HS c0 c1 hlt
  go_wp2_with fail
  go_loopw [19] (fun iv wr => ∃ k : Nat, iv = .int .i64 k ∧ k ≤ n ∧ Hid (Wq A (.slice pf nf cf) (.slice pl nl cl) w w.heap.size w3.heap.size (.slice ox n cx) w4.heap.size (.slice oy n cy) n S wr)) (fun iv _ => n - (intOf iv).toNat)
  case atStart => exact ⟨0, rfl, Nat.zero_le _, HW⟩
  case round =>
    clear HW
    obtain ⟨k, rfl, hk, HX⟩ := hrel
    by_cases hkn : k < n
    · obtain ⟨g, c', he, h1, h3⟩ := HX.out.store hB3 HQX.out HBASE.out hkn (.int .i64 (-9)) (by omega)
      simp only [Value.slice.injEq] at he
      obtain ⟨rfl, _, rfl⟩ := he
      obtain ⟨hc, hf⟩ := h1
      obtain ⟨u, hu⟩ := hc
      have H3 := Lib.hid h3
      clear h3
      go_wp2_with fail
      go_roundw
      case rel => exact ⟨k + 1, by go_num, by omega, H3⟩
      case measure => simp [intOf]; omega
    · obtain ⟨c0, c1, hlt⟩ : wr.cell? ⟨w.heap.size, 0, none⟩ = some (.slice pf nf cf) ∧ wr.cell? ⟨w.heap.size, 1, none⟩ = some (.slice pl nl cl) ∧ w.heap.size < wr.heap.size := ⟨HX.out.x.c0, HX.out.x.c1, HX.out.x.lt⟩
      go_wp2_with fail
      refine (K3.out _ HX.out.x.i HX.out.x.t).mono ?_
      rintro _ w10 ⟨vz, rfl, ho, hb⟩
      have hsm := KSP.out w10 _ _ vz (.slice oy n cy) ho (own_below HX.out.oy hb)
      have HSM := Lib.hid hsm
      have HBz := Lib.hid (HX.out.x.below.trans (hb.mono HX.out.x.below.size))
      have hsz := HBz.out.size
      obtain ⟨oz, cz, rfl⟩ := own_shape ho
      clear ho hb hsm
      go_wp2_with fail
      refine HSM.out.mono ?_
      rintro _ w11 ⟨rfl, hb⟩
      have HBy := Lib.hid (HBz.out.trans (hb.mono hsz))
      clear hb
      go_wp2_with fail
      go_ret
      exact ⟨rfl, HBy.out⟩
end Go.Proofs.YtcibjgkifafohaaDoor
