/-
  WALKS: cognatelaw03.WordLetters.
-/
import Derived.Test.YtcibjgkifafohaaDoorRwD
namespace Go.Proofs.YtcibjgkifafohaaDoor
open Go.RowKit Go.Lib
set_option linter.unusedVariables false

/-- The law's world: the alphabet's box, the program's row and the document's. -/
structure Wl (A : Al) (F L : Value) (w : World) (b B1 : Nat) (vx : Value) (B2 : Nat) (vy : Value) (l : List Int) (wk : World) : Prop where
  x : Wx A F L w b wk
  ox : wk.ownsRow B1 21 1 vx l.length (l.map E32)
  oy : wk.ownsRow B2 21 1 vy l.length (l.map E32)
theorem Wl.i {A : Al} {F L : Value} {w : World} {b B1 : Nat} {vx : Value} {B2 : Nat} {vy : Value} {l : List Int} {wk : World} (h : Wl A F L w b B1 vx B2 vy l wk) : A.In wk := h.x.i
theorem Wl.t {A : Al} {F L : Value} {w : World} {b B1 : Nat} {vx : Value} {B2 : Nat} {vy : Value} {l : List Int} {wk : World} (h : Wl A F L w b B1 vx B2 vy l wk) : Tabs wk := h.x.t
theorem Wl.c0 {A : Al} {F L : Value} {w : World} {b B1 : Nat} {vx : Value} {B2 : Nat} {vy : Value} {l : List Int} {wk : World} (h : Wl A F L w b B1 vx B2 vy l wk) : wk.cell? ⟨b, 0, none⟩ = some F := h.x.c0
theorem Wl.c1 {A : Al} {F L : Value} {w : World} {b B1 : Nat} {vx : Value} {B2 : Nat} {vy : Value} {l : List Int} {wk : World} (h : Wl A F L w b B1 vx B2 vy l wk) : wk.cell? ⟨b, 1, none⟩ = some L := h.x.c1
theorem Wl.lt {A : Al} {F L : Value} {w : World} {b B1 : Nat} {vx : Value} {B2 : Nat} {vy : Value} {l : List Int} {wk : World} (h : Wl A F L w b B1 vx B2 vy l wk) : b < wk.heap.size := h.x.lt
theorem Wl.next {A : Al} {F L : Value} {w : World} {b B1 : Nat} {vx : Value} {B2 : Nat} {vy : Value} {l : List Int} {wk w' : World} (h : Wl A F L w b B1 vx B2 vy l wk) (hb : Below wk.heap.size wk w') : Wl A F L w b B1 vx B2 vy l w' :=
  ⟨h.x.next hb, own_below h.ox hb, own_below h.oy hb⟩
theorem sameo_any {B1 B2 : Nat} {vx vy : Value} {l : List Int} {W : World} (hl : l.length ≤ 260) (h1 : W.ownsRow B1 21 1 vx l.length (l.map E32)) (h2 : W.ownsRow B2 21 1 vy l.length (l.map E32)) :
    Calls Tryd.prog 27 #[vx, vy] W fun e w' => e = .returned (.bool true) ∧ w' = W := by
  obtain ⟨pr, br, cr, rfl, hr⟩ := own_rs h1 (by omega)
  obtain ⟨qr, ur, cs, rfl, hs⟩ := own_rs h2 (by omega)
  exact samer_any pr qr br 0 cr ur 0 cs l W hr hs

/-- The law's world while the answer is written over. -/
structure Wl2 (A : Al) (F L : Value) (w : World) (b B1 : Nat) (vx : Value) (B2 : Nat) (vy : Value) (n : Nat) (l : List Int) (wk : World) : Prop where
  x : Wx A F L w b wk
  ox : ∃ xs : List Value, xs.length = n ∧ wk.ownsRow B1 21 1 vx n xs
  oy : wk.ownsRow B2 21 1 vy n (l.map E32)
theorem Wl2.store {A : Al} {F L : Value} {w : World} {b B1 : Nat} {vx : Value} {B2 : Nat} {vy : Value} {n : Nat} {l : List Int} {wk : World} (h : Wl2 A F L w b B1 vx B2 vy n l wk) (hB1 : b < B1) (hq : ∀ q, vx.ownBlock = some q → q < B2) (hA : ∀ W, Below w.heap.size w W → A.In W ∧ Tabs W) {k : Nat} (hk : k < n) (u : Value) (hB : w.heap.size ≤ B1) :
    ∃ g c, vx = .slice (some ⟨g, 0, none⟩) n c ∧ ((∃ y, wk.cell? ⟨g, k, none⟩ = some y) ∧ wk.frozen? ⟨g, k, none⟩ = false) ∧ True ∧ Wl2 A F L w b B1 vx B2 vy n l (wk.setCell ⟨g, k, none⟩ u) := by
  obtain ⟨xs, hxs, ho⟩ := h.ox
  have ho' := ho
  rcases ho.2 with ⟨rfl, h0⟩ | ⟨g, cap, cur, rfl, hBg, hg, _⟩
  · omega
  · obtain ⟨hst, hgr⟩ := ho'.stored k u
    have hgB := hq g (by simp [Value.ownBlock])
    refine ⟨g, cap, rfl, ⟨⟨xs[k]'(by omega), by rw [ho'.cellAt k (by omega), List.getElem?_eq_getElem (by omega)]⟩, ho'.frozenAt k⟩, trivial, ⟨h.x.grown hgr (fun q hq' => by cases hq'; omega) hA, ⟨xs.set k u, by rw [List.length_set]; exact hxs, hst⟩, h.oy.kept hgr ?_⟩⟩
    rcases h.oy.2 with ⟨rfl, _⟩ | ⟨g2, c2, cu2, rfl, hB2, _⟩
    · exact Or.inl rfl
    · exact Or.inr (by simp [Value.ownBlock]; omega)

set_option maxHeartbeats 8000000 in
set_option maxRecDepth 100000 in
theorem lawLet (A : Al) (s : ByteArray) (pr : Option Addr) (br r0 cr : Nat) (r : List Int) (a b : Int) (w : World) (hs : s.size ≤ 9223372036854775807) (hA : A.In w) (hR : RsIn pr br r0 r w) (hT : Tabs w) :
    Calls Tryd.prog 4 #[A.v, .string s, .slice pr r.length cr, .int .i64 a, .int .i64 b] w fun e w' => e = .returned (.bool true) ∧ Below w.heap.size w w' := by
  have k0 := awake_w A
  have k1 := fun W hA hT => letters_any A s W hA hT
  have k2 := fun W hA hT => rletters_any A s W hA hT hs
  have k3 := fun W hA (hb : Below w.heap.size w W) => wtext_any A pr br r0 cr r W hA (hR.next hb)
  have k4 := fun W hA (hb : Below w.heap.size w W) => rtext_any A pr br r0 cr r W hA (hR.next hb)
  have k5 := fun W hA hT => wpart_any A s a b W hA hT
  have k6 := fun W hA hT => rpart_any A s a b W hA hT hs
  have k7 := fun W hA hT => turned_any A s W hA hT
  have k8 := fun W hA hT => rturned_any A s W hA hT hs
  have k9 := fun W hA hT => wcheck_any A s W hA hT
  have k10 := fun W hA hT => rwcheck_any A s W hA hT hs
  unfold LetPost at k1 k2
  unfold TxtPost at k3 k4
  unfold PrtPost at k5 k6
  unfold TurPost at k7 k8
  have hl260 := letL_len A s
  obtain ⟨E, hE⟩ : ∃ E, E = letE A s := ⟨_, rfl⟩
  obtain ⟨l, hl⟩ : ∃ l, l = letL A s := ⟨_, rfl⟩
  obtain ⟨tE, htE⟩ : ∃ E, E = txtE A r := ⟨_, rfl⟩
  obtain ⟨tR, htR⟩ : ∃ E, E = txtR A r := ⟨_, rfl⟩
  obtain ⟨pE, hpE⟩ : ∃ E, E = prtE A s a b := ⟨_, rfl⟩
  obtain ⟨pR, hpR⟩ : ∃ E, E = prtR A s a b := ⟨_, rfl⟩
  obtain ⟨uR, huR⟩ : ∃ E, E = turR A s := ⟨_, rfl⟩
  rw [← hE, ← hl] at k1 k2
  rw [← htE, ← htR] at k3 k4
  rw [← hpE, ← hpR] at k5 k6
  rw [← huR, ← hE] at k7 k8
  rw [← hE] at k9 k10
  rw [← hl] at hl260
  have ksm := fun B1 B2 vx vy W h1 h2 => sameo_any (B1 := B1) (B2 := B2) (vx := vx) (vy := vy) (l := l) (W := W) hl260 h1 h2
  obtain ⟨n, hn⟩ : ∃ n, n = l.length := ⟨_, rfl⟩
  obtain ⟨nr, hnr⟩ : ∃ n, n = r.length := ⟨_, rfl⟩
  rw [← hn] at k1 k2 hl260 ksm
  rw [← hnr] at k3 k4 ⊢
  obtain ⟨pf, pl, nf, cf, nl, cl, hv, hnf, hnl, hpl, hcl, hpf, hcf⟩ := A.parts
  rw [hv] at k1 k2 k3 k4 k5 k6 k7 k8 k9 k10 ⊢
  have hbase : ∀ W, Below w.heap.size w W → A.In W ∧ Tabs W := fun W hb => ⟨hA.next hb, hT.next hb⟩
  have HBASE := Lib.hid hbase
  have K0 := Lib.hid k0; have K1 := Lib.hid k1; have K2 := Lib.hid k2; have K3 := Lib.hid k3; have K4 := Lib.hid k4; have K5 := Lib.hid k5; have K6 := Lib.hid k6; have K7 := Lib.hid k7; have K8 := Lib.hid k8; have K9 := Lib.hid k9; have K10 := Lib.hid k10; have KSM := Lib.hid ksm; have HN := Lib.hid hn
  have hsx := Wx.start (F := .slice pf nf cf) (L := .slice pl nl cl) hA hT
  have HS := Lib.hid hsx
  clear hbase hsx hA hT hR hs k0 k1 k2 k3 k4 k5 k6 k7 k8 k9 k10 ksm hn hnr hE hl htE htR hpE hpR huR hv hnf hnl hpl hcl hpf hcf
  go_enter Tryd.func4, Tryd.ntmps4
  go_wp2_with fail
  refine (K0.out _ (HS.out).i (HS.out).t).mono ?_
  rintro _ w1 ⟨rfl, hb⟩
  have hs := (HS.out).next hb
  obtain ⟨c0, c1, hlt⟩ : w1.cell? ⟨w.heap.size, 0, none⟩ = some (.slice pf nf cf) ∧ w1.cell? ⟨w.heap.size, 1, none⟩ = some (.slice pl nl cl) ∧ w.heap.size < w1.heap.size := ⟨hs.c0, hs.c1, hs.lt⟩
  clear HS
  have HS := Lib.hid hs
  have hB1 := hs.lt
  clear hs hb
  go_wp2_with fail
  refine (K1.out _ (HS.out).i (HS.out).t).mono ?_
  rintro _ w2 ⟨vx, rfl, ho, hb⟩
  have hs := (HS.out).next hb
  obtain ⟨c0, c1, hlt⟩ : w2.cell? ⟨w.heap.size, 0, none⟩ = some (.slice pf nf cf) ∧ w2.cell? ⟨w.heap.size, 1, none⟩ = some (.slice pl nl cl) ∧ w.heap.size < w2.heap.size := ⟨hs.c0, hs.c1, hs.lt⟩
  clear HS
  have HS := Lib.hid hs
  have HOX := Lib.hid ho
  have hqx : ∀ q, vx.ownBlock = some q → q < w2.heap.size := fun q hq => (ho.lt q hq).2
  have HQX := Lib.hid hqx
  obtain ⟨ox, cx, rfl⟩ := own_shape ho
  clear hs hb ho hqx
  go_wp2_with fail
  refine (K2.out _ (HS.out).i (HS.out).t).mono ?_
  rintro _ w3 ⟨vy, rfl, ho, hb⟩
  have hs := (HS.out).next hb
  obtain ⟨c0, c1, hlt⟩ : w3.cell? ⟨w.heap.size, 0, none⟩ = some (.slice pf nf cf) ∧ w3.cell? ⟨w.heap.size, 1, none⟩ = some (.slice pl nl cl) ∧ w.heap.size < w3.heap.size := ⟨hs.c0, hs.c1, hs.lt⟩
  clear HS
  have HS := Lib.hid hs
  have hwl : Wl A (.slice pf nf cf) (.slice pl nl cl) w w.heap.size w1.heap.size (.slice ox n cx) w2.heap.size vy l w3 := ⟨hs, by rw [← HN.out]; exact own_below HOX.out hb, by rw [← HN.out]; exact ho⟩
  obtain ⟨oy, cy, rfl⟩ := own_shape ho
  clear HS HOX
  have HS := Lib.hid hwl
  clear hs hb ho hwl
  go_wp2_with fail
  refine (K3.out _ HS.out.i HS.out.x.below).mono ?_
  rintro _ w4 ⟨rfl, hb⟩
  have hs := HS.out.next hb
  obtain ⟨c0, c1, hlt⟩ : w4.cell? ⟨w.heap.size, 0, none⟩ = some (.slice pf nf cf) ∧ w4.cell? ⟨w.heap.size, 1, none⟩ = some (.slice pl nl cl) ∧ w.heap.size < w4.heap.size := ⟨hs.c0, hs.c1, hs.lt⟩
  clear HS
  have HS := Lib.hid hs
  clear hs hb
  go_wp2_with fail
  refine (K4.out _ HS.out.i HS.out.x.below).mono ?_
  rintro _ w5 ⟨rfl, hb⟩
  have hs := HS.out.next hb
  obtain ⟨c0, c1, hlt⟩ : w5.cell? ⟨w.heap.size, 0, none⟩ = some (.slice pf nf cf) ∧ w5.cell? ⟨w.heap.size, 1, none⟩ = some (.slice pl nl cl) ∧ w.heap.size < w5.heap.size := ⟨hs.c0, hs.c1, hs.lt⟩
  clear HS
  have HS := Lib.hid hs
  clear hs hb
  go_wp2_with fail
  refine (K5.out _ (HS.out).i (HS.out).t).mono ?_
  rintro _ w6 ⟨rfl, hb⟩
  have hs := (HS.out).next hb
  obtain ⟨c0, c1, hlt⟩ : w6.cell? ⟨w.heap.size, 0, none⟩ = some (.slice pf nf cf) ∧ w6.cell? ⟨w.heap.size, 1, none⟩ = some (.slice pl nl cl) ∧ w.heap.size < w6.heap.size := ⟨hs.c0, hs.c1, hs.lt⟩
  clear HS
  have HS := Lib.hid hs
  clear hs hb
  go_wp2_with fail
  refine (K6.out _ (HS.out).i (HS.out).t).mono ?_
  rintro _ w7 ⟨rfl, hb⟩
  have hs := (HS.out).next hb
  obtain ⟨c0, c1, hlt⟩ : w7.cell? ⟨w.heap.size, 0, none⟩ = some (.slice pf nf cf) ∧ w7.cell? ⟨w.heap.size, 1, none⟩ = some (.slice pl nl cl) ∧ w.heap.size < w7.heap.size := ⟨hs.c0, hs.c1, hs.lt⟩
  clear HS
  have HS := Lib.hid hs
  clear hs hb
  go_wp2_with fail
  refine (K7.out _ (HS.out).i (HS.out).t).mono ?_
  rintro _ w8 ⟨rfl, hb⟩
  have hs := (HS.out).next hb
  obtain ⟨c0, c1, hlt⟩ : w8.cell? ⟨w.heap.size, 0, none⟩ = some (.slice pf nf cf) ∧ w8.cell? ⟨w.heap.size, 1, none⟩ = some (.slice pl nl cl) ∧ w.heap.size < w8.heap.size := ⟨hs.c0, hs.c1, hs.lt⟩
  clear HS
  have HS := Lib.hid hs
  clear hs hb
  go_wp2_with fail
  refine (K8.out _ (HS.out).i (HS.out).t).mono ?_
  rintro _ w9 ⟨rfl, hb⟩
  have hs := (HS.out).next hb
  obtain ⟨c0, c1, hlt⟩ : w9.cell? ⟨w.heap.size, 0, none⟩ = some (.slice pf nf cf) ∧ w9.cell? ⟨w.heap.size, 1, none⟩ = some (.slice pl nl cl) ∧ w.heap.size < w9.heap.size := ⟨hs.c0, hs.c1, hs.lt⟩
  clear HS
  have HS := Lib.hid hs
  clear hs hb
  go_wp2_with fail
  have C9 := Lib.hid (fun W (hb : Below w9.heap.size w9 W) => (K9.out W (HS.out.i.next hb) (HS.out.t.next hb)).mono fun e w' (h : e = _ ∧ Below W.heap.size W w') => (⟨h.1, hb.trans (h.2.mono hb.size)⟩ : e = _ ∧ Below w9.heap.size w9 w'))
  have C10 := Lib.hid (fun W (hb : Below w9.heap.size w9 W) => (K10.out W (HS.out.i.next hb) (HS.out.t.next hb)).mono fun e w' (h : e = _ ∧ Below W.heap.size W w') => (⟨h.1, hb.trans (h.2.mono hb.size)⟩ : e = _ ∧ Below w9.heap.size w9 w'))
  have C11 := Lib.hid (fun W (hb : Below w9.heap.size w9 W) => (KSM.out w1.heap.size w2.heap.size (.slice ox n cx) (.slice oy n cy) W (by rw [HN.out]; have := own_below HS.out.ox hb; rw [← HN.out] at this ⊢; exact this) (by rw [HN.out]; have := own_below HS.out.oy hb; rw [← HN.out] at this ⊢; exact this)).mono fun e w' (h : e = _ ∧ w' = W) => (⟨h.1, h.2 ▸ hb⟩ : e = _ ∧ Below w9.heap.size w9 w'))
  have hw9 := HS.out.lt
  go_upto_region 12 with fail
  go_cut [28] from 87 (fun s28 wc => s28 = .bool true ∧ Hid (Below w9.heap.size w9 wc))
  case first =>
    go_region_held3 (fun w' => Below w9.heap.size w9 w' ∧ w'.cell? ⟨w.heap.size, 0, none⟩ = some (.slice pf nf cf) ∧ w'.cell? ⟨w.heap.size, 1, none⟩ = some (.slice pl nl cl)) (first | exact ⟨(Below.refl _ _).drew, c0, c1⟩ | exact ⟨hacc, (hacc.cell (p := ⟨w.heap.size, 0, none⟩) hw9).trans c0, (hacc.cell (p := ⟨w.heap.size, 1, none⟩) hw9).trans c1⟩) (first | (go_at_call 25; refine (C9.out _ (by first | exact (Below.refl _ _).drew | exact hacc | exact hacc.drew)).mono ?_; rintro _ wq ⟨rfl, hacc⟩) | (go_at_call 26; refine (C10.out _ (by first | exact (Below.refl _ _).drew | exact hacc | exact hacc.drew)).mono ?_; rintro _ wq ⟨rfl, hacc⟩) | (go_at_call 27; refine (C11.out _ (by first | exact (Below.refl _ _).drew | exact hacc | exact hacc.drew)).mono ?_; rintro _ wq ⟨rfl, hacc⟩))
    all_goals
      (try go_wp2_with fail)
      go_meet
      exact ⟨rfl, hacc⟩
  case rest =>
    obtain ⟨rfl, HBc⟩ := hcut
    have hs := HS.out.next HBc.out
    have HW := Lib.hid (show Wl2 A (.slice pf nf cf) (.slice pl nl cl) w w.heap.size w1.heap.size (.slice ox n cx) w2.heap.size (.slice oy n cy) n l wc from ⟨hs.x, ⟨l.map E32, by rw [HN.out]; exact List.length_map .., by have := hs.ox; rw [← HN.out] at this; exact this⟩, by have := hs.oy; rw [← HN.out] at this; exact this⟩)
    clear hs HBc HS C9 C10 C11 c0 c1 hlt hw9
    go_wp2_with fail
    go_loopw [29] (fun iv wr => ∃ k : Nat, iv = .int .i64 k ∧ k ≤ n ∧ Hid (Wl2 A (.slice pf nf cf) (.slice pl nl cl) w w.heap.size w1.heap.size (.slice ox n cx) w2.heap.size (.slice oy n cy) n l wr)) (fun iv _ => n - (intOf iv).toNat)
    case atStart => exact ⟨0, rfl, Nat.zero_le _, HW⟩
    case round =>
      clear HW
      obtain ⟨k, rfl, hk, HX⟩ := hrel
      by_cases hkn : k < n
      · obtain ⟨g, c', he, h1, h2, h3⟩ := HX.out.store hB1 HQX.out HBASE.out hkn (.int .i32 122) (by omega)
        simp only [Value.slice.injEq] at he
        obtain ⟨rfl, _, rfl⟩ := he
        obtain ⟨hc, hf⟩ := h1
        obtain ⟨u, hu⟩ := hc
        have H3 := Lib.hid h3
        clear h2 h3
        go_wp2_with fail
        go_roundw
        case rel => exact ⟨k + 1, by go_num, by omega, H3⟩
        case measure => simp [intOf]; omega
      · obtain ⟨c0, c1, hlt⟩ : wr.cell? ⟨w.heap.size, 0, none⟩ = some (.slice pf nf cf) ∧ wr.cell? ⟨w.heap.size, 1, none⟩ = some (.slice pl nl cl) ∧ w.heap.size < wr.heap.size := ⟨HX.out.x.c0, HX.out.x.c1, HX.out.x.lt⟩
        go_wp2_with fail
        refine (K1.out _ HX.out.x.i HX.out.x.t).mono ?_
        rintro _ w10 ⟨vz, rfl, ho, hb⟩
        have hsm := KSM.out _ _ vz (.slice oy n cy) w10 (by rw [← HN.out] at *; exact ho) (by have := own_below HX.out.oy hb; exact this)
        have HSM := Lib.hid hsm
        have HBz := Lib.hid (HX.out.x.below.trans (hb.mono HX.out.x.below.size))
        obtain ⟨oz, cz, rfl⟩ := own_shape ho
        clear ho hb hsm
        go_wp2_with fail
        refine HSM.out.mono ?_
        rintro _ w11 ⟨rfl, rfl⟩
        go_wp2_with fail
        go_ret
        exact ⟨rfl, HBz.out⟩

/-- 'cognatelaw03.WordLetters' answers true, whatever the input. -/
theorem lawLetters (A : Al) (s : ByteArray) (pr : Option Addr) (br r0 cr : Nat) (r : List Int) (a b : Int) (w : World) (hA : A.In w) (hs : s.size ≤ maxLen) (hR : RsIn pr br r0 r w) (hT : Tabs w) :
    Calls Tryd.prog 4 #[A.v, .string s, .slice pr r.length cr, .int .i64 a, .int .i64 b] w fun e w' => e = .returned (.bool true) ∧ Below w.heap.size w w' :=
  lawLet A s pr br r0 cr r a b w hs hA hR hT
end Go.Proofs.YtcibjgkifafohaaDoor
