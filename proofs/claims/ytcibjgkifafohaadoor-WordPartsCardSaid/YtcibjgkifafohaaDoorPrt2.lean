/-
  WALKS: cognatelaw03.WordParts where both words may be; the whole.
-/
import Derived.Test.YtcibjgkifafohaaDoorPrtP
namespace Go.Proofs.YtcibjgkifafohaaDoor
open Go.RowKit Go.Lib
set_option linter.unusedVariables false

/-- The law's world, two rows of letters in it. -/
structure Wy (A : Al) (F L : Value) (w : World) (b : Nat) (lp : Option Addr) (lb : Nat) (l : List Int) (mp : Option Addr) (mb : Nat) (m : List Int) (wk : World) : Prop where
  x : Wx A F L w b wk
  rl : RsIn lp lb 0 l wk
  rm : RsIn mp mb 0 m wk
theorem Wy.i {A : Al} {F L : Value} {w : World} {b : Nat} {lp : Option Addr} {lb : Nat} {l : List Int} {mp : Option Addr} {mb : Nat} {m : List Int} {wk : World} (h : Wy A F L w b lp lb l mp mb m wk) : A.In wk := h.x.i
theorem Wy.t {A : Al} {F L : Value} {w : World} {b : Nat} {lp : Option Addr} {lb : Nat} {l : List Int} {mp : Option Addr} {mb : Nat} {m : List Int} {wk : World} (h : Wy A F L w b lp lb l mp mb m wk) : Tabs wk := h.x.t
theorem Wy.c0 {A : Al} {F L : Value} {w : World} {b : Nat} {lp : Option Addr} {lb : Nat} {l : List Int} {mp : Option Addr} {mb : Nat} {m : List Int} {wk : World} (h : Wy A F L w b lp lb l mp mb m wk) : wk.cell? ⟨b, 0, none⟩ = some F := h.x.c0
theorem Wy.c1 {A : Al} {F L : Value} {w : World} {b : Nat} {lp : Option Addr} {lb : Nat} {l : List Int} {mp : Option Addr} {mb : Nat} {m : List Int} {wk : World} (h : Wy A F L w b lp lb l mp mb m wk) : wk.cell? ⟨b, 1, none⟩ = some L := h.x.c1
theorem Wy.lt {A : Al} {F L : Value} {w : World} {b : Nat} {lp : Option Addr} {lb : Nat} {l : List Int} {mp : Option Addr} {mb : Nat} {m : List Int} {wk : World} (h : Wy A F L w b lp lb l mp mb m wk) : b < wk.heap.size := h.x.lt
theorem Wy.next {A : Al} {F L : Value} {w : World} {b : Nat} {lp : Option Addr} {lb : Nat} {l : List Int} {mp : Option Addr} {mb : Nat} {m : List Int} {wk w' : World} (h : Wy A F L w b lp lb l mp mb m wk) (hb : Below wk.heap.size wk w') : Wy A F L w b lp lb l mp mb m w' :=
  ⟨h.x.next hb, h.rl.next hb, h.rm.next hb⟩
theorem Wy.alloc {A : Al} {F L : Value} {w : World} {b : Nat} {lp : Option Addr} {lb : Nat} {l : List Int} {mp : Option Addr} {mb : Nat} {m : List Int} {wk : World} (h : Wy A F L w b lp lb l mp mb m wk) (o : Obj) : Wy A F L w b lp lb l mp mb m (wk.alloc o) := h.next ((Below.refl _ _).alloc (Nat.le_refl _) _)
theorem Wy.drewN {A : Al} {F L : Value} {w : World} {b : Nat} {lp : Option Addr} {lb : Nat} {l : List Int} {mp : Option Addr} {mb : Nat} {m : List Int} {wk : World} (h : Wy A F L w b lp lb l mp mb m wk) (n : Nat) : Wy A F L w b lp lb l mp mb m (wk.drewN n) := h.next (below_drewN (Below.refl _ _) n)

theorem pair0 (W : World) (a b : ByteArray) (t : TypeId) : (W.alloc (.cells #[.string a, .string b] t)).cell? ⟨W.heap.size, 0, none⟩ = some (.string a) := by simp
theorem pair1 (W : World) (a b : ByteArray) (t : TypeId) : (W.alloc (.cells #[.string a, .string b] t)).cell? ⟨W.heap.size, 1, none⟩ = some (.string b) := by simp

set_option maxHeartbeats 16000000 in
set_option maxRecDepth 100000 in
theorem parts_yes (A : Al) (s v : ByteArray) (cut : Int) (w : World) (hA : A.In w) (hT : Tabs w) (h1 : letE A s = 0) (h2 : letE A v = 0) :
    Calls Tryd.prog 7 #[A.v, .string s, .string v, .int .i64 cut] w fun e w' => e = .returned (.bool true) ∧ Below w.heap.size w w' := by
  have f1 := let_word h1
  have f2 := let_word h2
  obtain ⟨l, hl⟩ : ∃ l, l = letL A s := ⟨_, rfl⟩
  obtain ⟨m, hm⟩ : ∃ l, l = letL A v := ⟨_, rfl⟩
  rw [← hl] at f1
  rw [← hm] at f2
  have fu := word_let f1.ok f1.wd.rev
  have fx := word_let f1.ok f2.wd.rev
  have k0 := awake_w A
  have k1 := fun W hA hT => c_let (W := W) f1 hA hT
  have k2 := fun W hA hT => c_let (W := W) f2 hA hT
  have k3 := fun pr br cr W hA hT hR => c_text (W := W) f1 pr br cr hA hT hR
  have k4 := fun W hA hT => c_tur (W := W) f1 hA hT
  have k5 := fun W hA hT => c_tur (W := W) f2 hA hT
  have k6 := fun W hA hT => c_tur (W := W) fu hA hT
  rw [List.reverse_reverse, f1.tx] at k6
  have k7 := fun W hA hT => c_com (W := W) f1 f2 hA hT
  obtain ⟨n1, n2⟩ := comI_le l m
  have k8 := fun W hA hT => c_part (W := W) f1 0 (comI l m) (Nat.zero_le _) n1 hA hT
  have k9 := fun W hA hT => c_part (W := W) f2 0 (comI l m) (Nat.zero_le _) n2 hA hT
  rw [subL_zero] at k8 k9
  rw [← comI_take] at k9
  have n3 := comI_ne l m
  have k10 := fun g W hA hT hc0 hc1 => c_join (W := W) f1 f2 g 2 hA hT hc0 hc1
  have k12 := fun g W hA hT hc0 hc1 => c_join (W := W) fx fu g 2 hA hT hc0 hc1
  have k11 : l.length + m.length ≤ 64 → ∀ W, A.In W → Tabs W → Calls Tryd.prog 23 #[A.v, .string (strOf (textL (l ++ m)))] W fun e w' => e = .returned (.tuple #[.string (strOf (textL (m.reverse ++ l.reverse))), .int .i64 0]) ∧ Below W.heap.size W w' := fun h W hA hT => by
    have := c_tur (W := W) (word_let f1.ok (f1.wd.app f2.wd h)) hA hT
    rw [List.reverse_append] at this
    exact this
  have k13 : ∀ c : Nat, c ≤ l.length → ∀ W, A.In W → Tabs W → Calls Tryd.prog 21 #[A.v, .string s, .int .i64 (0 : Nat), .int .i64 (c : Nat)] W fun e w' => e = .returned (.tuple #[.string (strOf (textL (l.take c))), .int .i64 0]) ∧ Below W.heap.size W w' := fun c hc W hA hT => by
    have := c_part (W := W) f1 0 c (Nat.zero_le _) hc hA hT
    rw [subL_zero] at this
    exact this
  have k14 : ∀ c : Nat, c ≤ l.length → ∀ W, A.In W → Tabs W → Calls Tryd.prog 21 #[A.v, .string s, .int .i64 (c : Nat), .int .i64 (l.length : Nat)] W fun e w' => e = .returned (.tuple #[.string (strOf (textL (l.drop c))), .int .i64 0]) ∧ Below W.heap.size W w' := fun c hc W hA hT => by
    have := c_part (W := W) f1 c l.length hc (Nat.le_refl _) hA hT
    rw [subL_end] at this
    exact this
  have k15 : ∀ (c g : Nat) W, A.In W → Tabs W → W.cell? ⟨g, 0, none⟩ = some (.string (strOf (textL (l.take c)))) → W.cell? ⟨g, 1, none⟩ = some (.string (strOf (textL (l.drop c)))) → Calls Tryd.prog 38 #[A.v, .slice (some ⟨g, 0, none⟩) 2 2] W fun e w' => e = .returned (.tuple #[.string s, .int .i64 0]) ∧ Below W.heap.size W w' := fun c g W hA hT hc0 hc1 => by
    have := c_join (W := W) (word_let f1.ok (f1.wd.take c)) (word_let f1.ok (f1.wd.drop c)) g 2 hA hT hc0 hc1
    rw [List.take_append_drop, f1.tx] at this
    exact this
  have hl64 := f1.wd.len
  have hm64 := f2.wd.len
  obtain ⟨u, hu⟩ : ∃ u, u = strOf (textL l.reverse) := ⟨_, rfl⟩
  obtain ⟨x, hx⟩ : ∃ u, u = strOf (textL m.reverse) := ⟨_, rfl⟩
  obtain ⟨P, hP⟩ : ∃ u, u = strOf (textL (l.take (comI l m))) := ⟨_, rfl⟩
  obtain ⟨bo, hbo⟩ : ∃ u, u = strOf (textL (l ++ m)) := ⟨_, rfl⟩
  obtain ⟨R, hR⟩ : ∃ u, u = strOf (textL (m.reverse ++ l.reverse)) := ⟨_, rfl⟩
  obtain ⟨pt, hpt⟩ : ∃ u : Nat → ByteArray, ∀ c, u c = strOf (textL (l.take c)) := ⟨_, fun _ => rfl⟩
  obtain ⟨qt, hqt⟩ : ∃ u : Nat → ByteArray, ∀ c, u c = strOf (textL (l.drop c)) := ⟨_, fun _ => rfl⟩
  rw [← hu] at k4 k6 k12
  rw [← hx] at k5 k12
  rw [← hP] at k8 k9
  rw [← hbo] at k10 k11
  rw [← hR] at k11 k12
  simp only [← hpt, ← hqt] at k13 k14 k15
  obtain ⟨n, hn⟩ : ∃ n, n = comI l m := ⟨_, rfl⟩
  rw [← hn] at k7 k8 k9 n1 n2 n3
  obtain ⟨nl, hnl⟩ : ∃ n, n = l.length := ⟨_, rfl⟩
  obtain ⟨nm, hnm⟩ : ∃ n, n = m.length := ⟨_, rfl⟩
  rw [← hnl] at k1 k3 k11 k13 k14 n1 n3 hl64
  rw [← hnm] at k2 k11 n2 n3 hm64
  obtain ⟨pf, pl, nf, cf, nla, cl, hv, hnf, hnl', hpl, hcl, hpf, hcf⟩ := A.parts
  rw [hv] at k1 k2 k3 k4 k5 k6 k7 k8 k9 k10 k11 k12 k13 k14 k15 ⊢
  have K0 := Lib.hid k0; have K1 := Lib.hid k1; have K2 := Lib.hid k2; have K3 := Lib.hid k3; have K4 := Lib.hid k4; have K5 := Lib.hid k5; have K6 := Lib.hid k6; have K7 := Lib.hid k7; have K8 := Lib.hid k8; have K9 := Lib.hid k9; have K10 := Lib.hid k10; have K11 := Lib.hid k11; have K12 := Lib.hid k12; have K13 := Lib.hid k13; have K14 := Lib.hid k14; have K15 := Lib.hid k15; have HN3 := Lib.hid n3; have HNL := Lib.hid hnl; have HNM := Lib.hid hnm
  have hs := Wx.start (F := .slice pf nf cf) (L := .slice pl nla cl) hA hT
  have HS := Lib.hid hs
  clear hs hA hT k0 k1 k2 k3 k4 k5 k6 k7 k8 k9 k10 k11 k12 k13 k14 k15 hv hnf hnl hnl' hpl hcl hpf hcf h1 h2 f1 f2 fu fx hl hm hu hx hP hbo hR hpt hqt hn hnm n3
  go_enter Tryd.func7, Tryd.ntmps7
  go_wp2_with fail
  refine (K0.out _ (HS.out).i (HS.out).t).mono ?_
  rintro _ w1 ⟨rfl, hb⟩
  have hs := (HS.out).next hb
  obtain ⟨c0, c1, hlt⟩ : w1.cell? ⟨w.heap.size, 0, none⟩ = some (.slice pf nf cf) ∧ w1.cell? ⟨w.heap.size, 1, none⟩ = some (.slice pl nla cl) ∧ w.heap.size < w1.heap.size := ⟨hs.c0, hs.c1, hs.lt⟩
  clear HS
  have HS := Lib.hid hs
  clear hs hb
  go_wp2_with fail
  refine (K1.out _ (HS.out).i (HS.out).t).mono ?_
  rintro _ w2 ⟨lp, lb, lc, rfl, hl, hb⟩
  have hs := (HS.out).next hb
  obtain ⟨c0, c1, hlt⟩ : w2.cell? ⟨w.heap.size, 0, none⟩ = some (.slice pf nf cf) ∧ w2.cell? ⟨w.heap.size, 1, none⟩ = some (.slice pl nla cl) ∧ w.heap.size < w2.heap.size := ⟨hs.c0, hs.c1, hs.lt⟩
  clear HS
  have HS := Lib.hid hs
  have HL := Lib.hid hl
  clear hs hb hl
  go_wp2_with fail
  refine (K2.out _ (HS.out).i (HS.out).t).mono ?_
  rintro _ w3 ⟨mp, mb, mc, rfl, hm, hb⟩
  have hs := (HS.out).next hb
  obtain ⟨c0, c1, hlt⟩ : w3.cell? ⟨w.heap.size, 0, none⟩ = some (.slice pf nf cf) ∧ w3.cell? ⟨w.heap.size, 1, none⟩ = some (.slice pl nla cl) ∧ w.heap.size < w3.heap.size := ⟨hs.c0, hs.c1, hs.lt⟩
  clear HS
  have HS := Lib.hid hs
  have hy : Wy A (.slice pf nf cf) (.slice pl nla cl) w w.heap.size lp lb l mp mb m w3 := ⟨hs, HL.out.next hb, hm⟩
  clear HS HL
  have HS := Lib.hid hy
  clear hs hb hm hy
  go_wp2_with fail
  refine (K3.out lp lb lc _ HS.out.i HS.out.t HS.out.rl).mono ?_
  rintro _ w4 ⟨rfl, hb⟩
  have hs := (HS.out).next hb
  obtain ⟨c0, c1, hlt⟩ : w4.cell? ⟨w.heap.size, 0, none⟩ = some (.slice pf nf cf) ∧ w4.cell? ⟨w.heap.size, 1, none⟩ = some (.slice pl nla cl) ∧ w.heap.size < w4.heap.size := ⟨hs.c0, hs.c1, hs.lt⟩
  clear HS
  have HS := Lib.hid hs
  clear hs hb
  go_wp2_with fail
  refine (K4.out _ (HS.out).i (HS.out).t).mono ?_
  rintro _ w5 ⟨rfl, hb⟩
  have hs := (HS.out).next hb
  obtain ⟨c0, c1, hlt⟩ : w5.cell? ⟨w.heap.size, 0, none⟩ = some (.slice pf nf cf) ∧ w5.cell? ⟨w.heap.size, 1, none⟩ = some (.slice pl nla cl) ∧ w.heap.size < w5.heap.size := ⟨hs.c0, hs.c1, hs.lt⟩
  clear HS
  have HS := Lib.hid hs
  clear hs hb
  go_wp2_with fail
  refine (K5.out _ (HS.out).i (HS.out).t).mono ?_
  rintro _ w6 ⟨rfl, hb⟩
  have hs := (HS.out).next hb
  obtain ⟨c0, c1, hlt⟩ : w6.cell? ⟨w.heap.size, 0, none⟩ = some (.slice pf nf cf) ∧ w6.cell? ⟨w.heap.size, 1, none⟩ = some (.slice pl nla cl) ∧ w.heap.size < w6.heap.size := ⟨hs.c0, hs.c1, hs.lt⟩
  clear HS
  have HS := Lib.hid hs
  clear hs hb
  go_wp2_with fail
  refine (K6.out _ (HS.out).i (HS.out).t).mono ?_
  rintro _ w7 ⟨rfl, hb⟩
  have hs := (HS.out).next hb
  obtain ⟨c0, c1, hlt⟩ : w7.cell? ⟨w.heap.size, 0, none⟩ = some (.slice pf nf cf) ∧ w7.cell? ⟨w.heap.size, 1, none⟩ = some (.slice pl nla cl) ∧ w.heap.size < w7.heap.size := ⟨hs.c0, hs.c1, hs.lt⟩
  clear HS
  have HS := Lib.hid hs
  clear hs hb
  go_wp2_with fail
  refine (K7.out _ (HS.out).i (HS.out).t).mono ?_
  rintro _ w8 ⟨rfl, hb⟩
  have hs := (HS.out).next hb
  obtain ⟨c0, c1, hlt⟩ : w8.cell? ⟨w.heap.size, 0, none⟩ = some (.slice pf nf cf) ∧ w8.cell? ⟨w.heap.size, 1, none⟩ = some (.slice pl nla cl) ∧ w.heap.size < w8.heap.size := ⟨hs.c0, hs.c1, hs.lt⟩
  clear HS
  have HS := Lib.hid hs
  clear hs hb
  go_wp2_with fail
  refine (K8.out _ (HS.out).i (HS.out).t).mono ?_
  rintro _ w9 ⟨rfl, hb⟩
  have hs := (HS.out).next hb
  obtain ⟨c0, c1, hlt⟩ : w9.cell? ⟨w.heap.size, 0, none⟩ = some (.slice pf nf cf) ∧ w9.cell? ⟨w.heap.size, 1, none⟩ = some (.slice pl nla cl) ∧ w.heap.size < w9.heap.size := ⟨hs.c0, hs.c1, hs.lt⟩
  clear HS
  have HS := Lib.hid hs
  clear hs hb
  go_wp2_with fail
  refine (K9.out _ (HS.out).i (HS.out).t).mono ?_
  rintro _ w10 ⟨rfl, hb⟩
  have hs := (HS.out).next hb
  obtain ⟨c0, c1, hlt⟩ : w10.cell? ⟨w.heap.size, 0, none⟩ = some (.slice pf nf cf) ∧ w10.cell? ⟨w.heap.size, 1, none⟩ = some (.slice pl nla cl) ∧ w.heap.size < w10.heap.size := ⟨hs.c0, hs.c1, hs.lt⟩
  clear HS
  have HS := Lib.hid hs
  clear hs hb
  by_cases hn1 : n < nl
  · have z1 : (n : Int) < (nl : Int) := by omega
    have hnl : n < l.length := by rw [← HNL.out]; exact hn1
    obtain rfl := HS.out.rl.at_ (by omega)
    have a0 := HS.out.rl.cells n hnl
    rw [Nat.zero_add] at a0
    by_cases hn2 : n < nm
    · have z2 : (n : Int) < (nm : Int) := by omega
      have hnm : n < m.length := by rw [← HNM.out]; exact hn2
      obtain rfl := HS.out.rm.at_ (by omega)
      have b0 := HS.out.rm.cells n hnm
      rw [Nat.zero_add] at b0
      have hne := HN3.out hn1 hn2
      obtain ⟨q, hq⟩ : ∃ q, q = l.getD n 0 := ⟨_, rfl⟩
      obtain ⟨r, hr⟩ : ∃ q, q = m.getD n 0 := ⟨_, rfl⟩
      rw [← hq] at a0 hne
      rw [← hr] at b0 hne
      have e1 : (q == r) = false := by simp [hne]
      clear hnl hnm hne hq hr
      go_wp2_with fail
      go_quiet (fail)
      have HD := Lib.hid (fun nq => HS.out.drewN nq)
      clear HS
      go_wp2_with fail
      refine (K10.out _ _ ((HD.out _).alloc (.cells #[.string s, .string v] 9)).i ((HD.out _).alloc (.cells #[.string s, .string v] 9)).t (pair0 _ _ _ _) (pair1 _ _ _ _)).mono ?_
      rintro _ w12 ⟨rfl, hb⟩
      have hs := (((HD.out _).alloc (.cells #[.string s, .string v] 9))).next hb
      obtain ⟨c0, c1, hlt⟩ : w12.cell? ⟨w.heap.size, 0, none⟩ = some (.slice pf nf cf) ∧ w12.cell? ⟨w.heap.size, 1, none⟩ = some (.slice pl nla cl) ∧ w.heap.size < w12.heap.size := ⟨hs.c0, hs.c1, hs.lt⟩
      clear HD
      have HS := Lib.hid hs
      clear hs hb
      by_cases h64 : nl + nm ≤ 64
      · have h64z : (nl : Int) + (nm : Int) ≤ 64 := by omega
        go_wp2_with fail
        refine (K11.out h64 _ (HS.out).i (HS.out).t).mono ?_
        rintro _ w13 ⟨rfl, hb⟩
        have hs := (HS.out).next hb
        obtain ⟨c0, c1, hlt⟩ : w13.cell? ⟨w.heap.size, 0, none⟩ = some (.slice pf nf cf) ∧ w13.cell? ⟨w.heap.size, 1, none⟩ = some (.slice pl nla cl) ∧ w.heap.size < w13.heap.size := ⟨hs.c0, hs.c1, hs.lt⟩
        clear HS
        have HS := Lib.hid hs
        clear hs hb
        go_wp2_with fail
        refine (K12.out _ _ (HS.out.alloc (.cells #[.string x, .string u] 9)).i (HS.out.alloc (.cells #[.string x, .string u] 9)).t (pair0 _ _ _ _) (pair1 _ _ _ _)).mono ?_
        rintro _ w14 ⟨rfl, hb⟩
        have hs := ((HS.out.alloc (.cells #[.string x, .string u] 9))).next hb
        obtain ⟨c0, c1, hlt⟩ : w14.cell? ⟨w.heap.size, 0, none⟩ = some (.slice pf nf cf) ∧ w14.cell? ⟨w.heap.size, 1, none⟩ = some (.slice pl nla cl) ∧ w.heap.size < w14.heap.size := ⟨hs.c0, hs.c1, hs.lt⟩
        clear HS
        have HS := Lib.hid hs
        clear hs hb
        by_cases z1 : cut < 0
        · go_wp2_with fail
          go_ret
          exact ⟨rfl, HS.out.x.below⟩
        · by_cases z2 : (nl : Int) < cut
          · go_wp2_with fail
            go_ret
            exact ⟨rfl, HS.out.x.below⟩
          · obtain ⟨c, rfl⟩ := Int.eq_ofNat_of_zero_le (show 0 ≤ cut by omega)
            have hcl : c ≤ nl := by omega
            go_wp2_with fail
            refine (K13.out c hcl _ (HS.out).i (HS.out).t).mono ?_
            rintro _ w15 ⟨rfl, hb⟩
            have hs := (HS.out).next hb
            obtain ⟨c0, c1, hlt⟩ : w15.cell? ⟨w.heap.size, 0, none⟩ = some (.slice pf nf cf) ∧ w15.cell? ⟨w.heap.size, 1, none⟩ = some (.slice pl nla cl) ∧ w.heap.size < w15.heap.size := ⟨hs.c0, hs.c1, hs.lt⟩
            clear HS
            have HS := Lib.hid hs
            clear hs hb
            go_wp2_with fail
            refine (K14.out c hcl _ (HS.out).i (HS.out).t).mono ?_
            rintro _ w16 ⟨rfl, hb⟩
            have hs := (HS.out).next hb
            obtain ⟨c0, c1, hlt⟩ : w16.cell? ⟨w.heap.size, 0, none⟩ = some (.slice pf nf cf) ∧ w16.cell? ⟨w.heap.size, 1, none⟩ = some (.slice pl nla cl) ∧ w.heap.size < w16.heap.size := ⟨hs.c0, hs.c1, hs.lt⟩
            clear HS
            have HS := Lib.hid hs
            clear hs hb
            go_wp2_with fail
            refine (K15.out c _ _ (HS.out.alloc (.cells #[.string (pt c), .string (qt c)] 9)).i (HS.out.alloc (.cells #[.string (pt c), .string (qt c)] 9)).t (pair0 _ _ _ _) (pair1 _ _ _ _)).mono ?_
            rintro _ w17 ⟨rfl, hb⟩
            have hs := ((HS.out.alloc (.cells #[.string (pt c), .string (qt c)] 9))).next hb
            obtain ⟨c0, c1, hlt⟩ : w17.cell? ⟨w.heap.size, 0, none⟩ = some (.slice pf nf cf) ∧ w17.cell? ⟨w.heap.size, 1, none⟩ = some (.slice pl nla cl) ∧ w.heap.size < w17.heap.size := ⟨hs.c0, hs.c1, hs.lt⟩
            clear HS
            have HS := Lib.hid hs
            clear hs hb
            go_wp2_with fail
            go_ret
            exact ⟨rfl, HS.out.x.below⟩
      · have h64z : ¬ (nl : Int) + (nm : Int) ≤ 64 := by omega
        by_cases z1 : cut < 0
        · go_wp2_with fail
          go_ret
          exact ⟨rfl, HS.out.x.below⟩
        · by_cases z2 : (nl : Int) < cut
          · go_wp2_with fail
            go_ret
            exact ⟨rfl, HS.out.x.below⟩
          · obtain ⟨c, rfl⟩ := Int.eq_ofNat_of_zero_le (show 0 ≤ cut by omega)
            have hcl : c ≤ nl := by omega
            go_wp2_with fail
            refine (K13.out c hcl _ (HS.out).i (HS.out).t).mono ?_
            rintro _ w15 ⟨rfl, hb⟩
            have hs := (HS.out).next hb
            obtain ⟨c0, c1, hlt⟩ : w15.cell? ⟨w.heap.size, 0, none⟩ = some (.slice pf nf cf) ∧ w15.cell? ⟨w.heap.size, 1, none⟩ = some (.slice pl nla cl) ∧ w.heap.size < w15.heap.size := ⟨hs.c0, hs.c1, hs.lt⟩
            clear HS
            have HS := Lib.hid hs
            clear hs hb
            go_wp2_with fail
            refine (K14.out c hcl _ (HS.out).i (HS.out).t).mono ?_
            rintro _ w16 ⟨rfl, hb⟩
            have hs := (HS.out).next hb
            obtain ⟨c0, c1, hlt⟩ : w16.cell? ⟨w.heap.size, 0, none⟩ = some (.slice pf nf cf) ∧ w16.cell? ⟨w.heap.size, 1, none⟩ = some (.slice pl nla cl) ∧ w.heap.size < w16.heap.size := ⟨hs.c0, hs.c1, hs.lt⟩
            clear HS
            have HS := Lib.hid hs
            clear hs hb
            go_wp2_with fail
            refine (K15.out c _ _ (HS.out.alloc (.cells #[.string (pt c), .string (qt c)] 9)).i (HS.out.alloc (.cells #[.string (pt c), .string (qt c)] 9)).t (pair0 _ _ _ _) (pair1 _ _ _ _)).mono ?_
            rintro _ w17 ⟨rfl, hb⟩
            have hs := ((HS.out.alloc (.cells #[.string (pt c), .string (qt c)] 9))).next hb
            obtain ⟨c0, c1, hlt⟩ : w17.cell? ⟨w.heap.size, 0, none⟩ = some (.slice pf nf cf) ∧ w17.cell? ⟨w.heap.size, 1, none⟩ = some (.slice pl nla cl) ∧ w.heap.size < w17.heap.size := ⟨hs.c0, hs.c1, hs.lt⟩
            clear HS
            have HS := Lib.hid hs
            clear hs hb
            go_wp2_with fail
            go_ret
            exact ⟨rfl, HS.out.x.below⟩
    · have z2 : decide ((n : Int) < (nm : Int)) = false := by simp; omega
      go_wp2_with fail
      go_quiet (fail)
      have HD := Lib.hid (fun nq => HS.out.drewN nq)
      clear HS
      go_wp2_with fail
      refine (K10.out _ _ ((HD.out _).alloc (.cells #[.string s, .string v] 9)).i ((HD.out _).alloc (.cells #[.string s, .string v] 9)).t (pair0 _ _ _ _) (pair1 _ _ _ _)).mono ?_
      rintro _ w12 ⟨rfl, hb⟩
      have hs := (((HD.out _).alloc (.cells #[.string s, .string v] 9))).next hb
      obtain ⟨c0, c1, hlt⟩ : w12.cell? ⟨w.heap.size, 0, none⟩ = some (.slice pf nf cf) ∧ w12.cell? ⟨w.heap.size, 1, none⟩ = some (.slice pl nla cl) ∧ w.heap.size < w12.heap.size := ⟨hs.c0, hs.c1, hs.lt⟩
      clear HD
      have HS := Lib.hid hs
      clear hs hb
      by_cases h64 : nl + nm ≤ 64
      · have h64z : (nl : Int) + (nm : Int) ≤ 64 := by omega
        go_wp2_with fail
        refine (K11.out h64 _ (HS.out).i (HS.out).t).mono ?_
        rintro _ w13 ⟨rfl, hb⟩
        have hs := (HS.out).next hb
        obtain ⟨c0, c1, hlt⟩ : w13.cell? ⟨w.heap.size, 0, none⟩ = some (.slice pf nf cf) ∧ w13.cell? ⟨w.heap.size, 1, none⟩ = some (.slice pl nla cl) ∧ w.heap.size < w13.heap.size := ⟨hs.c0, hs.c1, hs.lt⟩
        clear HS
        have HS := Lib.hid hs
        clear hs hb
        go_wp2_with fail
        refine (K12.out _ _ (HS.out.alloc (.cells #[.string x, .string u] 9)).i (HS.out.alloc (.cells #[.string x, .string u] 9)).t (pair0 _ _ _ _) (pair1 _ _ _ _)).mono ?_
        rintro _ w14 ⟨rfl, hb⟩
        have hs := ((HS.out.alloc (.cells #[.string x, .string u] 9))).next hb
        obtain ⟨c0, c1, hlt⟩ : w14.cell? ⟨w.heap.size, 0, none⟩ = some (.slice pf nf cf) ∧ w14.cell? ⟨w.heap.size, 1, none⟩ = some (.slice pl nla cl) ∧ w.heap.size < w14.heap.size := ⟨hs.c0, hs.c1, hs.lt⟩
        clear HS
        have HS := Lib.hid hs
        clear hs hb
        by_cases z1 : cut < 0
        · go_wp2_with fail
          go_ret
          exact ⟨rfl, HS.out.x.below⟩
        · by_cases z2 : (nl : Int) < cut
          · go_wp2_with fail
            go_ret
            exact ⟨rfl, HS.out.x.below⟩
          · obtain ⟨c, rfl⟩ := Int.eq_ofNat_of_zero_le (show 0 ≤ cut by omega)
            have hcl : c ≤ nl := by omega
            go_wp2_with fail
            refine (K13.out c hcl _ (HS.out).i (HS.out).t).mono ?_
            rintro _ w15 ⟨rfl, hb⟩
            have hs := (HS.out).next hb
            obtain ⟨c0, c1, hlt⟩ : w15.cell? ⟨w.heap.size, 0, none⟩ = some (.slice pf nf cf) ∧ w15.cell? ⟨w.heap.size, 1, none⟩ = some (.slice pl nla cl) ∧ w.heap.size < w15.heap.size := ⟨hs.c0, hs.c1, hs.lt⟩
            clear HS
            have HS := Lib.hid hs
            clear hs hb
            go_wp2_with fail
            refine (K14.out c hcl _ (HS.out).i (HS.out).t).mono ?_
            rintro _ w16 ⟨rfl, hb⟩
            have hs := (HS.out).next hb
            obtain ⟨c0, c1, hlt⟩ : w16.cell? ⟨w.heap.size, 0, none⟩ = some (.slice pf nf cf) ∧ w16.cell? ⟨w.heap.size, 1, none⟩ = some (.slice pl nla cl) ∧ w.heap.size < w16.heap.size := ⟨hs.c0, hs.c1, hs.lt⟩
            clear HS
            have HS := Lib.hid hs
            clear hs hb
            go_wp2_with fail
            refine (K15.out c _ _ (HS.out.alloc (.cells #[.string (pt c), .string (qt c)] 9)).i (HS.out.alloc (.cells #[.string (pt c), .string (qt c)] 9)).t (pair0 _ _ _ _) (pair1 _ _ _ _)).mono ?_
            rintro _ w17 ⟨rfl, hb⟩
            have hs := ((HS.out.alloc (.cells #[.string (pt c), .string (qt c)] 9))).next hb
            obtain ⟨c0, c1, hlt⟩ : w17.cell? ⟨w.heap.size, 0, none⟩ = some (.slice pf nf cf) ∧ w17.cell? ⟨w.heap.size, 1, none⟩ = some (.slice pl nla cl) ∧ w.heap.size < w17.heap.size := ⟨hs.c0, hs.c1, hs.lt⟩
            clear HS
            have HS := Lib.hid hs
            clear hs hb
            go_wp2_with fail
            go_ret
            exact ⟨rfl, HS.out.x.below⟩
      · have h64z : ¬ (nl : Int) + (nm : Int) ≤ 64 := by omega
        by_cases z1 : cut < 0
        · go_wp2_with fail
          go_ret
          exact ⟨rfl, HS.out.x.below⟩
        · by_cases z2 : (nl : Int) < cut
          · go_wp2_with fail
            go_ret
            exact ⟨rfl, HS.out.x.below⟩
          · obtain ⟨c, rfl⟩ := Int.eq_ofNat_of_zero_le (show 0 ≤ cut by omega)
            have hcl : c ≤ nl := by omega
            go_wp2_with fail
            refine (K13.out c hcl _ (HS.out).i (HS.out).t).mono ?_
            rintro _ w15 ⟨rfl, hb⟩
            have hs := (HS.out).next hb
            obtain ⟨c0, c1, hlt⟩ : w15.cell? ⟨w.heap.size, 0, none⟩ = some (.slice pf nf cf) ∧ w15.cell? ⟨w.heap.size, 1, none⟩ = some (.slice pl nla cl) ∧ w.heap.size < w15.heap.size := ⟨hs.c0, hs.c1, hs.lt⟩
            clear HS
            have HS := Lib.hid hs
            clear hs hb
            go_wp2_with fail
            refine (K14.out c hcl _ (HS.out).i (HS.out).t).mono ?_
            rintro _ w16 ⟨rfl, hb⟩
            have hs := (HS.out).next hb
            obtain ⟨c0, c1, hlt⟩ : w16.cell? ⟨w.heap.size, 0, none⟩ = some (.slice pf nf cf) ∧ w16.cell? ⟨w.heap.size, 1, none⟩ = some (.slice pl nla cl) ∧ w.heap.size < w16.heap.size := ⟨hs.c0, hs.c1, hs.lt⟩
            clear HS
            have HS := Lib.hid hs
            clear hs hb
            go_wp2_with fail
            refine (K15.out c _ _ (HS.out.alloc (.cells #[.string (pt c), .string (qt c)] 9)).i (HS.out.alloc (.cells #[.string (pt c), .string (qt c)] 9)).t (pair0 _ _ _ _) (pair1 _ _ _ _)).mono ?_
            rintro _ w17 ⟨rfl, hb⟩
            have hs := ((HS.out.alloc (.cells #[.string (pt c), .string (qt c)] 9))).next hb
            obtain ⟨c0, c1, hlt⟩ : w17.cell? ⟨w.heap.size, 0, none⟩ = some (.slice pf nf cf) ∧ w17.cell? ⟨w.heap.size, 1, none⟩ = some (.slice pl nla cl) ∧ w.heap.size < w17.heap.size := ⟨hs.c0, hs.c1, hs.lt⟩
            clear HS
            have HS := Lib.hid hs
            clear hs hb
            go_wp2_with fail
            go_ret
            exact ⟨rfl, HS.out.x.below⟩
  · have z1 : decide ((n : Int) < (nl : Int)) = false := by simp; omega
    go_wp2_with fail
    go_quiet (fail)
    have HD := Lib.hid (fun nq => HS.out.drewN nq)
    clear HS
    go_wp2_with fail
    refine (K10.out _ _ ((HD.out _).alloc (.cells #[.string s, .string v] 9)).i ((HD.out _).alloc (.cells #[.string s, .string v] 9)).t (pair0 _ _ _ _) (pair1 _ _ _ _)).mono ?_
    rintro _ w12 ⟨rfl, hb⟩
    have hs := (((HD.out _).alloc (.cells #[.string s, .string v] 9))).next hb
    obtain ⟨c0, c1, hlt⟩ : w12.cell? ⟨w.heap.size, 0, none⟩ = some (.slice pf nf cf) ∧ w12.cell? ⟨w.heap.size, 1, none⟩ = some (.slice pl nla cl) ∧ w.heap.size < w12.heap.size := ⟨hs.c0, hs.c1, hs.lt⟩
    clear HD
    have HS := Lib.hid hs
    clear hs hb
    by_cases h64 : nl + nm ≤ 64
    · have h64z : (nl : Int) + (nm : Int) ≤ 64 := by omega
      go_wp2_with fail
      refine (K11.out h64 _ (HS.out).i (HS.out).t).mono ?_
      rintro _ w13 ⟨rfl, hb⟩
      have hs := (HS.out).next hb
      obtain ⟨c0, c1, hlt⟩ : w13.cell? ⟨w.heap.size, 0, none⟩ = some (.slice pf nf cf) ∧ w13.cell? ⟨w.heap.size, 1, none⟩ = some (.slice pl nla cl) ∧ w.heap.size < w13.heap.size := ⟨hs.c0, hs.c1, hs.lt⟩
      clear HS
      have HS := Lib.hid hs
      clear hs hb
      go_wp2_with fail
      refine (K12.out _ _ (HS.out.alloc (.cells #[.string x, .string u] 9)).i (HS.out.alloc (.cells #[.string x, .string u] 9)).t (pair0 _ _ _ _) (pair1 _ _ _ _)).mono ?_
      rintro _ w14 ⟨rfl, hb⟩
      have hs := ((HS.out.alloc (.cells #[.string x, .string u] 9))).next hb
      obtain ⟨c0, c1, hlt⟩ : w14.cell? ⟨w.heap.size, 0, none⟩ = some (.slice pf nf cf) ∧ w14.cell? ⟨w.heap.size, 1, none⟩ = some (.slice pl nla cl) ∧ w.heap.size < w14.heap.size := ⟨hs.c0, hs.c1, hs.lt⟩
      clear HS
      have HS := Lib.hid hs
      clear hs hb
      by_cases z1 : cut < 0
      · go_wp2_with fail
        go_ret
        exact ⟨rfl, HS.out.x.below⟩
      · by_cases z2 : (nl : Int) < cut
        · go_wp2_with fail
          go_ret
          exact ⟨rfl, HS.out.x.below⟩
        · obtain ⟨c, rfl⟩ := Int.eq_ofNat_of_zero_le (show 0 ≤ cut by omega)
          have hcl : c ≤ nl := by omega
          go_wp2_with fail
          refine (K13.out c hcl _ (HS.out).i (HS.out).t).mono ?_
          rintro _ w15 ⟨rfl, hb⟩
          have hs := (HS.out).next hb
          obtain ⟨c0, c1, hlt⟩ : w15.cell? ⟨w.heap.size, 0, none⟩ = some (.slice pf nf cf) ∧ w15.cell? ⟨w.heap.size, 1, none⟩ = some (.slice pl nla cl) ∧ w.heap.size < w15.heap.size := ⟨hs.c0, hs.c1, hs.lt⟩
          clear HS
          have HS := Lib.hid hs
          clear hs hb
          go_wp2_with fail
          refine (K14.out c hcl _ (HS.out).i (HS.out).t).mono ?_
          rintro _ w16 ⟨rfl, hb⟩
          have hs := (HS.out).next hb
          obtain ⟨c0, c1, hlt⟩ : w16.cell? ⟨w.heap.size, 0, none⟩ = some (.slice pf nf cf) ∧ w16.cell? ⟨w.heap.size, 1, none⟩ = some (.slice pl nla cl) ∧ w.heap.size < w16.heap.size := ⟨hs.c0, hs.c1, hs.lt⟩
          clear HS
          have HS := Lib.hid hs
          clear hs hb
          go_wp2_with fail
          refine (K15.out c _ _ (HS.out.alloc (.cells #[.string (pt c), .string (qt c)] 9)).i (HS.out.alloc (.cells #[.string (pt c), .string (qt c)] 9)).t (pair0 _ _ _ _) (pair1 _ _ _ _)).mono ?_
          rintro _ w17 ⟨rfl, hb⟩
          have hs := ((HS.out.alloc (.cells #[.string (pt c), .string (qt c)] 9))).next hb
          obtain ⟨c0, c1, hlt⟩ : w17.cell? ⟨w.heap.size, 0, none⟩ = some (.slice pf nf cf) ∧ w17.cell? ⟨w.heap.size, 1, none⟩ = some (.slice pl nla cl) ∧ w.heap.size < w17.heap.size := ⟨hs.c0, hs.c1, hs.lt⟩
          clear HS
          have HS := Lib.hid hs
          clear hs hb
          go_wp2_with fail
          go_ret
          exact ⟨rfl, HS.out.x.below⟩
    · have h64z : ¬ (nl : Int) + (nm : Int) ≤ 64 := by omega
      by_cases z1 : cut < 0
      · go_wp2_with fail
        go_ret
        exact ⟨rfl, HS.out.x.below⟩
      · by_cases z2 : (nl : Int) < cut
        · go_wp2_with fail
          go_ret
          exact ⟨rfl, HS.out.x.below⟩
        · obtain ⟨c, rfl⟩ := Int.eq_ofNat_of_zero_le (show 0 ≤ cut by omega)
          have hcl : c ≤ nl := by omega
          go_wp2_with fail
          refine (K13.out c hcl _ (HS.out).i (HS.out).t).mono ?_
          rintro _ w15 ⟨rfl, hb⟩
          have hs := (HS.out).next hb
          obtain ⟨c0, c1, hlt⟩ : w15.cell? ⟨w.heap.size, 0, none⟩ = some (.slice pf nf cf) ∧ w15.cell? ⟨w.heap.size, 1, none⟩ = some (.slice pl nla cl) ∧ w.heap.size < w15.heap.size := ⟨hs.c0, hs.c1, hs.lt⟩
          clear HS
          have HS := Lib.hid hs
          clear hs hb
          go_wp2_with fail
          refine (K14.out c hcl _ (HS.out).i (HS.out).t).mono ?_
          rintro _ w16 ⟨rfl, hb⟩
          have hs := (HS.out).next hb
          obtain ⟨c0, c1, hlt⟩ : w16.cell? ⟨w.heap.size, 0, none⟩ = some (.slice pf nf cf) ∧ w16.cell? ⟨w.heap.size, 1, none⟩ = some (.slice pl nla cl) ∧ w.heap.size < w16.heap.size := ⟨hs.c0, hs.c1, hs.lt⟩
          clear HS
          have HS := Lib.hid hs
          clear hs hb
          go_wp2_with fail
          refine (K15.out c _ _ (HS.out.alloc (.cells #[.string (pt c), .string (qt c)] 9)).i (HS.out.alloc (.cells #[.string (pt c), .string (qt c)] 9)).t (pair0 _ _ _ _) (pair1 _ _ _ _)).mono ?_
          rintro _ w17 ⟨rfl, hb⟩
          have hs := ((HS.out.alloc (.cells #[.string (pt c), .string (qt c)] 9))).next hb
          obtain ⟨c0, c1, hlt⟩ : w17.cell? ⟨w.heap.size, 0, none⟩ = some (.slice pf nf cf) ∧ w17.cell? ⟨w.heap.size, 1, none⟩ = some (.slice pl nla cl) ∧ w.heap.size < w17.heap.size := ⟨hs.c0, hs.c1, hs.lt⟩
          clear HS
          have HS := Lib.hid hs
          clear hs hb
          go_wp2_with fail
          go_ret
          exact ⟨rfl, HS.out.x.below⟩

/-- 'cognatelaw03.WordParts' answers true, whatever the input. -/
theorem lawParts (A : Al) (s v : ByteArray) (cut : Int) (w : World) (hA : A.In w) (hT : Tabs w) :
    Calls Tryd.prog 7 #[A.v, .string s, .string v, .int .i64 cut] w fun e w' => e = .returned (.bool true) ∧ Below w.heap.size w w' := by
  by_cases h1 : letE A s = 0
  · by_cases h2 : letE A v = 0
    · exact parts_yes A s v cut w hA hT h1 h2
    · exact parts_no2 A s v cut w hA hT h1 h2
  · exact parts_no1 A s v cut w hA hT h1
end Go.Proofs.YtcibjgkifafohaaDoor
