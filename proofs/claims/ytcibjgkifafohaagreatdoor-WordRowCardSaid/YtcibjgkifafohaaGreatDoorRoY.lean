/-
  WALKS: cognatelaw03.WordRow, true for every input.
  WordRow's law, of what came in.
-/
import Derived.Test.YtcibjgkifafohaaGreatDoorRoX
import Derived.Deep.Cut
import Derived.Test.YtcibjgkifafohaaGreatDoorOpenS
namespace Go.Proofs.YtcibjgkifafohaaGreatDoor
open Go.RowKit Go.Lib
set_option linter.unusedVariables false

/-- What both sorts make of a list: its row, or nothing. -/
def SrtAll (A : Al) (l T : List ByteArray) : Prop := (srtE A l = 0 → SrtOf (rowL A) l T) ∧ (¬ srtE A l = 0 → T = [])
theorem SrtAll.one {A : Al} {l T U : List ByteArray} (h : SrtAll A l T) (h' : SrtAll A l U) : T = U := by
  by_cases e : srtE A l = 0
  · exact srt_one (h.1 e) (h'.1 e)
  · rw [h.2 e, h'.2 e]
theorem SrtAll.len {A : Al} {l T : List ByteArray} (h : SrtAll A l T) : T.length ≤ 4096 := by
  by_cases e : srtE A l = 0
  · have h1 := (h.1 e).len
    have h2 : rdaE (rowL A) l = 0 := by
      unfold srtE at e
      split at e
      · exact e
      · exact absurd e (by decide)
    have := rdaE_len h2
    omega
  · rw [h.2 e]; decide
def SaPost (A : Al) (l : List ByteArray) (w : World) (e : Ending) (w' : World) : Prop :=
  ∃ v T, e = .returned (.tuple #[v, .int .i64 (srtE A l)]) ∧ SrtAll A l T ∧ w'.ownsRow w.heap.size 9 1 v T.length (T.map Value.string) ∧ Below w.heap.size w w'
theorem wsort_all (A : Al) (sr : Option Addr) (ur s0 cs : Nat) (l : List ByteArray) (w : World) (hA : A.In w) (hT : Tabs w) (hS : SsIn sr ur s0 l w) : Calls Tryz.prog 10 #[A.v, .slice sr l.length cs] w (SaPost A l w) := by
  by_cases h : srtE A l = 0
  · refine (wsort_yes A sr ur s0 cs l w hA hT hS h).mono ?_
    rintro e w' ⟨v, T, he, h1, h2, h3⟩
    exact ⟨v, T, by rw [h]; exact he, ⟨fun _ => h1, fun h' => absurd h h'⟩, h2, h3⟩
  · refine (wsort_no A sr ur s0 cs l w hA hT hS h).mono ?_
    rintro e w' ⟨he, h3⟩
    exact ⟨_, [], he, ⟨fun h' => absurd h' h, fun _ => rfl⟩, World.ownsRow_nil _ _ _ _, h3⟩
theorem rsort_all (A : Al) (sr : Option Addr) (ur s0 cs : Nat) (l : List ByteArray) (w : World) (hA : A.In w) (hT : Tabs w) (hS : SsIn sr ur s0 l w) (hz : SizesIn l) : Calls Tryz.prog 11 #[A.v, .slice sr l.length cs] w (SaPost A l w) := by
  by_cases h : srtE A l = 0
  · refine (rsort_yes A sr ur s0 cs l w hA hT hS hz h).mono ?_
    rintro e w' ⟨v, T, he, h1, h2, h3⟩
    exact ⟨v, T, by rw [h]; exact he, ⟨fun _ => h1, fun h' => absurd h h'⟩, h2, h3⟩
  · refine (rsort_no A sr ur s0 cs l w hA hT hS hz h).mono ?_
    rintro e w' ⟨he, h3⟩
    exact ⟨_, [], he, ⟨fun h' => absurd h' h, fun _ => rfl⟩, World.ownsRow_nil _ _ _ _, h3⟩
theorem SsIn.other {pr : Option Addr} {br r0 q : Nat} {l : List ByteArray} {w w' : World} (h : SsIn pr br r0 l w) (hg : w.grownBy w' (some q)) (hne : 0 < l.length → br ≠ q) : SsIn pr br r0 l w' :=
  ⟨h.at_, fun j hj => by
    have h1 := h.cells j hj
    rw [World.cell?_of_block (hg.block br (lt_of_cell h1) (by intro e; exact hne (by omega) (Option.some.inj e)))]
    exact h1, h.big⟩
/-- The row that the document's sort made stands while the other one is written over. -/
theorem row_kept {B : Nat} {v v2 : Value} {T : List ByteArray} {w w' : World} (h : w.ownsRow B 9 1 v T.length (T.map Value.string)) (hB : ∀ q, v2.ownBlock = some q → q < B) (hg : w.grownBy w' v2.ownBlock) (hT : T.length ≤ 4096) :
    ∃ pr br cr, v = .slice pr T.length cr ∧ SsIn pr br 0 T w' := by
  rcases h.2 with ⟨rfl, h0⟩ | ⟨g, cap, cur, rfl, h1, _⟩
  · exact ⟨none, 0, 0, by rw [h0], ⟨fun h => absurd h (by omega), fun j hj => absurd hj (by omega), by omega⟩⟩
  · refine ⟨some ⟨g, 0, none⟩, g, cap, rfl, ⟨fun _ => rfl, fun j hj => ?_, by omega⟩⟩
    have hlt : g < w.heap.size := (h.lt g rfl).2
    rw [Nat.zero_add, World.cell?_of_block (hg.block g hlt (fun e => by have := hB g e.symm; omega)), h.cellAt j (by omega), List.getElem?_map, getS_at hj, List.getElem?_eq_getElem hj]
    rfl

set_option maxHeartbeats 8000000 in
set_option maxRecDepth 100000 in
theorem wrow_mid (A : Al) (x y : ByteArray) (sr : Option Addr) (ur s0 cs : Nat) (l : List ByteArray) (w : World) (hA : A.In w) (hT : Tabs w) (h1 : 200 < l.length) (h2 : l.length ≤ 4096) :
    Calls Tryz.prog 3 #[A.v, .string x, .string y, .slice sr l.length cs] w fun e w' => e = .returned (.bool true) ∧ Below w.heap.size w w' := by
  have k0 := awake_w A
  obtain ⟨n, hn⟩ : ∃ n, n = l.length := ⟨_, rfl⟩
  rw [← hn] at h1 h2 ⊢
  obtain ⟨pf, pl, nf, cf, nl, cl, hv, hnf, hnl, hpl, hcl, hpf, hcf⟩ := A.parts
  rw [hv]
  have hs := Wx.start (F := .slice pf nf cf) (L := .slice pl nl cl) hA hT
  have HS := Lib.hid hs; have K0 := Lib.hid k0
  have z1 : (200 : Int) < (n : Int) := by omega
  have z2 : (n : Int) ≤ 4096 := by omega
  have z3 : decide (200 < n) = true := by simpa using h1
  have z4 : decide (n ≤ 4096) = true := by simpa using h2
  clear hs hA hT k0 hn hv hnf hnl hpl hcl hpf hcf
  go_enter Tryz.func3, Tryz.ntmps3
  go_wp2_with fail
  refine (K0.out _ (HS.out).i (HS.out).t).mono ?_
  rintro _ w1 ⟨rfl, hb⟩
  have HB := Lib.hid ((HS.out).next hb).below
  clear HS hb
  go_wp2_with fail
  go_ret
  exact ⟨rfl, HB.out⟩

set_option maxHeartbeats 8000000 in
set_option maxRecDepth 100000 in
theorem wrow_main (A : Al) (x y : ByteArray) (sr : Option Addr) (ur s0 cs : Nat) (l : List ByteArray) (w : World) (hA : A.In w) (hT : Tabs w) (hx : x.size ≤ 9223372036854775807) (hy : y.size ≤ 9223372036854775807) (hS : SsIn sr ur s0 l w) (hz : SizesIn l)
    (hnil : sr = none → l.length = 0 ∧ cs = 0) (hroom : l.length ≤ cs) (hbig : (l.length + 1) * 16 ≤ 140737488355328) (hcase : l.length ≤ 200 ∨ 4096 < l.length) :
    Calls Tryz.prog 3 #[A.v, .string x, .string y, .slice sr l.length cs] w fun e w' => e = .returned (.bool true) ∧ Below w.heap.size w w' := by
  have k0 := awake_w A
  have klent := fun W (h : SsIn sr ur s0 l W) => lent_any sr ur s0 cs l W h hnil hroom hbig
  unfold LentPost at klent
  have kc1 := fun W h1 h2 => wcmp_any A x y W h1 h2
  have kc2 := fun W h1 h2 => rcmp_any A x y W h1 h2 hx hy
  unfold CmpPost at kc1 kc2
  have kn1 := fun W h1 h2 => wcommon_any A x y W h1 h2
  have kn2 := fun W h1 h2 => rcommon_any A x y W h1 h2 hx hy
  unfold ComPost at kn1
  have ks1 := fun g cap W h1 h2 h3 => wsort_all A (some ⟨g, 0, none⟩) g 0 cap l W h1 h2 h3
  have ks2 := fun W h1 h2 h3 => rsort_all A sr ur s0 cs l W h1 h2 h3 hz
  unfold SaPost at ks1 ks2
  have kj1 := fun g cap W h1 h2 h3 => join_any A (some ⟨g, 0, none⟩) g 0 cap l W h1 h2 h3
  have kj2 := fun W h1 h2 h3 => rjoin_any A sr ur s0 cs l W h1 h2 h3 hz
  unfold JoinPost at kj1 kj2
  have ksame := fun g cap W h1 h2 => samew_any (some ⟨g, 0, none⟩) sr g 0 cap ur s0 cs l W h1 h2
  obtain ⟨C, hC⟩ : ∃ C, C = cmpR A x y := ⟨_, rfl⟩
  obtain ⟨E, hE⟩ : ∃ C, C = bothE A x y := ⟨_, rfl⟩
  obtain ⟨M, hM⟩ : ∃ C, C = comN A x y := ⟨_, rfl⟩
  obtain ⟨SE, hSE⟩ : ∃ C, C = srtE A l := ⟨_, rfl⟩
  obtain ⟨JE, hJE⟩ : ∃ C, C = joinE A l := ⟨_, rfl⟩
  obtain ⟨JR, hJR⟩ : ∃ C, C = joinR A l := ⟨_, rfl⟩
  rw [← hC, ← hE] at kc1 kc2
  rw [← hM, ← hE] at kn1 kn2
  rw [← hSE] at ks1 ks2
  rw [← hJE, ← hJR] at kj1 kj2
  obtain ⟨n, hn⟩ : ∃ n, n = l.length := ⟨_, rfl⟩
  rw [← hn] at klent ks1 ks2 kj1 kj2 ksame hcase hbig ⊢
  obtain ⟨pf, pl, nf, cf, nl, cl, hv, hnf, hnl, hpl, hcl, hpf, hcf⟩ := A.parts
  rw [hv] at kc1 kc2 kn1 kn2 ks1 ks2 kj1 kj2 ⊢
  have hst := Wx.start (F := .slice pf nf cf) (L := .slice pl nl cl) hA hT
  have HS := Lib.hid hst; have HL := Lib.hid (hS.next ((Below.refl _ _).alloc (Nat.le_refl _) (.cells #[.slice pf nf cf, .slice pl nl cl] 25)))
  have K0 := Lib.hid k0; have KLENT := Lib.hid klent; have KC1 := Lib.hid kc1; have KC2 := Lib.hid kc2; have KN1 := Lib.hid kn1; have KN2 := Lib.hid kn2; have KS1 := Lib.hid ks1; have KS2 := Lib.hid ks2; have KJ1 := Lib.hid kj1; have KJ2 := Lib.hid kj2; have KSAME := Lib.hid ksame
  have HN := Lib.hid hn
  have hnb : n ≤ 140737488355328 := by omega
  clear hst hA hT hS k0 klent kc1 kc2 kn1 kn2 ks1 ks2 kj1 kj2 ksame hC hE hM hSE hJE hJR hn hv hnf hnl hpl hcl hpf hcf hx hy hz hnil hroom hbig
  rcases hcase with hcs | hcs
  · have z3 : decide (200 < n) = false := by simp; omega
    have z1 : ¬ (200 : Int) < (n : Int) := by omega
    go_enter Tryz.func3, Tryz.ntmps3
    go_wp2_with fail
    refine (K0.out _ (HS.out).i (HS.out).t).mono ?_
    rintro _ w1 ⟨rfl, hb⟩
    have hs := (HS.out).next hb
    have hl := (HL.out).next hb
    obtain ⟨c0, c1, hlt⟩ : w1.cell? ⟨w.heap.size, 0, none⟩ = some (.slice pf nf cf) ∧ w1.cell? ⟨w.heap.size, 1, none⟩ = some (.slice pl nl cl) ∧ w.heap.size < w1.heap.size := ⟨hs.c0, hs.c1, hs.lt⟩
    clear HS HL
    have HS := Lib.hid hs
    have HL := Lib.hid hl
    clear hs hl hb
    go_wp2_with fail
    refine (KLENT.out _ HL.out).mono ?_
    rintro _ w2 ⟨g, cap, rfl, hc1, hc2, hm, hk, hb⟩
    have hs := (HS.out).next hb
    have hl := (HL.out).next hb
    obtain ⟨c0, c1, hlt⟩ : w2.cell? ⟨w.heap.size, 0, none⟩ = some (.slice pf nf cf) ∧ w2.cell? ⟨w.heap.size, 1, none⟩ = some (.slice pl nl cl) ∧ w.heap.size < w2.heap.size := ⟨hs.c0, hs.c1, hs.lt⟩
    clear HS HL
    have HS := Lib.hid hs
    have HL := Lib.hid hl
    have hgl : g < w2.heap.size := lt_of_cell hk
    have hk2 : w2.cell? ⟨g, n, none⟩ = some (.string markS) := hk
    have HM := Lib.hid hm
    have HMK := Lib.hid hk2
    have HGL := Lib.hid hgl
    have hc3 : n + 1 ≤ cap := by have := HN.out; omega
    clear hs hl hb hm hk hk2 hgl hc1
    go_wp2_with fail
    refine (KC1.out _ (HS.out).i (HS.out).t).mono ?_
    rintro _ w3 ⟨rfl, hb⟩
    have hs := (HS.out).next hb
    have hl := (HL.out).next hb
    have hm := (HM.out).next hb
    have hk := (hb.cell (p := ⟨g, n, none⟩) HGL.out).trans HMK.out
    have hgl := Nat.lt_of_lt_of_le HGL.out hb.size
    obtain ⟨c0, c1, hlt⟩ : w3.cell? ⟨w.heap.size, 0, none⟩ = some (.slice pf nf cf) ∧ w3.cell? ⟨w.heap.size, 1, none⟩ = some (.slice pl nl cl) ∧ w.heap.size < w3.heap.size := ⟨hs.c0, hs.c1, hs.lt⟩
    clear HS HL HM HMK HGL
    have HS := Lib.hid hs
    have HL := Lib.hid hl
    have HM := Lib.hid hm
    have HMK := Lib.hid hk
    have HGL := Lib.hid hgl
    clear hm hk hgl
    clear hs hl hb
    go_wp2_with fail
    refine (KC2.out _ (HS.out).i (HS.out).t).mono ?_
    rintro _ w4 ⟨rfl, hb⟩
    have hs := (HS.out).next hb
    have hl := (HL.out).next hb
    have hm := (HM.out).next hb
    have hk := (hb.cell (p := ⟨g, n, none⟩) HGL.out).trans HMK.out
    have hgl := Nat.lt_of_lt_of_le HGL.out hb.size
    obtain ⟨c0, c1, hlt⟩ : w4.cell? ⟨w.heap.size, 0, none⟩ = some (.slice pf nf cf) ∧ w4.cell? ⟨w.heap.size, 1, none⟩ = some (.slice pl nl cl) ∧ w.heap.size < w4.heap.size := ⟨hs.c0, hs.c1, hs.lt⟩
    clear HS HL HM HMK HGL
    have HS := Lib.hid hs
    have HL := Lib.hid hl
    have HM := Lib.hid hm
    have HMK := Lib.hid hk
    have HGL := Lib.hid hgl
    clear hm hk hgl
    clear hs hl hb
    go_wp2_with fail
    refine (KN1.out _ (HS.out).i (HS.out).t).mono ?_
    rintro _ w5 ⟨rfl, hb⟩
    have hs := (HS.out).next hb
    have hl := (HL.out).next hb
    have hm := (HM.out).next hb
    have hk := (hb.cell (p := ⟨g, n, none⟩) HGL.out).trans HMK.out
    have hgl := Nat.lt_of_lt_of_le HGL.out hb.size
    obtain ⟨c0, c1, hlt⟩ : w5.cell? ⟨w.heap.size, 0, none⟩ = some (.slice pf nf cf) ∧ w5.cell? ⟨w.heap.size, 1, none⟩ = some (.slice pl nl cl) ∧ w.heap.size < w5.heap.size := ⟨hs.c0, hs.c1, hs.lt⟩
    clear HS HL HM HMK HGL
    have HS := Lib.hid hs
    have HL := Lib.hid hl
    have HM := Lib.hid hm
    have HMK := Lib.hid hk
    have HGL := Lib.hid hgl
    clear hm hk hgl
    clear hs hl hb
    go_wp2_with fail
    refine (KN2.out _ (HS.out).i (HS.out).t).mono ?_
    rintro _ w6 ⟨rfl, hb⟩
    have hs := (HS.out).next hb
    have hl := (HL.out).next hb
    have hm := (HM.out).next hb
    have hk := (hb.cell (p := ⟨g, n, none⟩) HGL.out).trans HMK.out
    have hgl := Nat.lt_of_lt_of_le HGL.out hb.size
    obtain ⟨c0, c1, hlt⟩ : w6.cell? ⟨w.heap.size, 0, none⟩ = some (.slice pf nf cf) ∧ w6.cell? ⟨w.heap.size, 1, none⟩ = some (.slice pl nl cl) ∧ w.heap.size < w6.heap.size := ⟨hs.c0, hs.c1, hs.lt⟩
    clear HS HL HM HMK HGL
    have HS := Lib.hid hs
    have HL := Lib.hid hl
    have HM := Lib.hid hm
    have HMK := Lib.hid hk
    have HGL := Lib.hid hgl
    clear hm hk hgl
    clear hs hl hb
    go_wp2_with fail
    refine (KS1.out g cap _ (HS.out).i (HS.out).t HM.out).mono ?_
    rintro _ w7 ⟨v1, T, rfl, hT1, ho1, hb⟩
    have hv1 : ∀ q, v1.ownBlock = some q → q < w7.heap.size := fun q hq => (ho1.lt q hq).2
    have hv1b : ∀ q, v1.ownBlock = some q → w6.heap.size ≤ q := fun q hq => (ho1.lt q hq).1
    have hz6 : w.heap.size ≤ w6.heap.size ∧ g < w6.heap.size ∧ w.heap.size < w6.heap.size := ⟨HS.out.below.size, HGL.out, hlt⟩
    have HG6 := Lib.hid hz6
    have HS6 := HS; have HL6 := HL; have HM6 := HM; have HMK6 := HMK; have HGL6 := HGL
    have hs := (HS.out).next hb
    have hl := (HL.out).next hb
    have hm := (HM.out).next hb
    have hk := (hb.cell (p := ⟨g, n, none⟩) HGL.out).trans HMK.out
    have hgl := Nat.lt_of_lt_of_le HGL.out hb.size
    obtain ⟨c0, c1, hlt⟩ : w7.cell? ⟨w.heap.size, 0, none⟩ = some (.slice pf nf cf) ∧ w7.cell? ⟨w.heap.size, 1, none⟩ = some (.slice pl nl cl) ∧ w.heap.size < w7.heap.size := ⟨hs.c0, hs.c1, hs.lt⟩
    clear HS HL HM HMK HGL
    have HS := Lib.hid hs
    have HL := Lib.hid hl
    have HM := Lib.hid hm
    have HMK := Lib.hid hk
    have HGL := Lib.hid hgl
    clear hm hk hgl
    have HT1 := Lib.hid hT1; have HO1 := Lib.hid ho1; have HV1 := Lib.hid hv1; have HV1B := Lib.hid hv1b
    have HB6 := Lib.hid hb
    clear hs hl hb hT1 ho1 hv1 hv1b hz6
    go_wp2_with fail
    refine (KS2.out _ (HS.out).i (HS.out).t HL.out).mono ?_
    rintro _ w8 ⟨v2, T', rfl, hT2, ho2, hb⟩
    obtain rfl := HT1.out.one hT2
    have ho1' := own_below HO1.out hb
    have hs := (HS.out).next hb
    have hl := (HL.out).next hb
    have hm := (HM.out).next hb
    have hk := (hb.cell (p := ⟨g, n, none⟩) HGL.out).trans HMK.out
    have hgl := Nat.lt_of_lt_of_le HGL.out hb.size
    obtain ⟨c0, c1, hlt⟩ : w8.cell? ⟨w.heap.size, 0, none⟩ = some (.slice pf nf cf) ∧ w8.cell? ⟨w.heap.size, 1, none⟩ = some (.slice pl nl cl) ∧ w.heap.size < w8.heap.size := ⟨hs.c0, hs.c1, hs.lt⟩
    clear HS HL HM HMK HGL
    have HS := Lib.hid hs
    have HL := Lib.hid hl
    have HM := Lib.hid hm
    have HMK := Lib.hid hk
    have HGL := Lib.hid hgl
    clear hm hk hgl
    have HO2 := Lib.hid ho2; have HO1 := Lib.hid ho1'
    have hz7 : w7.heap.size ≤ w8.heap.size := hb.size
    have HZ7 := Lib.hid hz7
    have hb6 := HB6.out.trans (hb.mono HB6.out.size)
    clear HB6
    have HB6 := Lib.hid hb6
    clear hb6 hs hl hb hT2 ho2 ho1' hz7
    go_wp2_with fail
    refine (KJ1.out g cap _ (HS.out).i (HS.out).t HM.out).mono ?_
    rintro _ w9 ⟨rfl, hb⟩
    have ho1' := own_below HO1.out hb
    have ho2' := own_below HO2.out hb
    have hs := (HS.out).next hb
    have hl := (HL.out).next hb
    have hm := (HM.out).next hb
    have hk := (hb.cell (p := ⟨g, n, none⟩) HGL.out).trans HMK.out
    have hgl := Nat.lt_of_lt_of_le HGL.out hb.size
    obtain ⟨c0, c1, hlt⟩ : w9.cell? ⟨w.heap.size, 0, none⟩ = some (.slice pf nf cf) ∧ w9.cell? ⟨w.heap.size, 1, none⟩ = some (.slice pl nl cl) ∧ w.heap.size < w9.heap.size := ⟨hs.c0, hs.c1, hs.lt⟩
    clear HS HL HM HMK HGL
    have HS := Lib.hid hs
    have HL := Lib.hid hl
    have HM := Lib.hid hm
    have HMK := Lib.hid hk
    have HGL := Lib.hid hgl
    clear hm hk hgl
    have HO1 := Lib.hid ho1'; have HO2 := Lib.hid ho2'
    have hb6 := HB6.out.trans (hb.mono HB6.out.size)
    clear HB6
    have HB6 := Lib.hid hb6
    clear hb6 hs hl hb ho1' ho2'
    go_wp2_with fail
    refine (KJ2.out _ (HS.out).i (HS.out).t HL.out).mono ?_
    rintro _ w10 ⟨rfl, hb⟩
    have ho1' := own_below HO1.out hb
    have ho2' := own_below HO2.out hb
    have hs := (HS.out).next hb
    have hl := (HL.out).next hb
    have hm := (HM.out).next hb
    have hk := (hb.cell (p := ⟨g, n, none⟩) HGL.out).trans HMK.out
    have hgl := Nat.lt_of_lt_of_le HGL.out hb.size
    obtain ⟨c0, c1, hlt⟩ : w10.cell? ⟨w.heap.size, 0, none⟩ = some (.slice pf nf cf) ∧ w10.cell? ⟨w.heap.size, 1, none⟩ = some (.slice pl nl cl) ∧ w.heap.size < w10.heap.size := ⟨hs.c0, hs.c1, hs.lt⟩
    clear HS HL HM HMK HGL
    have HS := Lib.hid hs
    have HL := Lib.hid hl
    have HM := Lib.hid hm
    have HMK := Lib.hid hk
    have HGL := Lib.hid hgl
    clear hm hk hgl
    have HO1 := Lib.hid ho1'; have HO2 := Lib.hid ho2'
    have hb6 := HB6.out.trans (hb.mono HB6.out.size)
    clear HB6
    have HB6 := Lib.hid hb6
    clear hb6 hs hl hb ho1' ho2'
    obtain ⟨m, hm⟩ : ∃ m, m = T.length := ⟨_, rfl⟩
    have hm4 : m ≤ 4096 := by rw [hm]; exact HT1.out.len
    obtain ⟨p1, b1, d1, rfl, hs1⟩ := own_ss HO1.out (by omega)
    obtain ⟨p2, b2, d2, rfl, hs2⟩ := own_ss HO2.out (by omega)
    have ksm := samew_any p1 p2 b1 0 d1 b2 0 d2 T w10 hs1 hs2
    rw [← hm] at ksm ⊢
    have KSM := Lib.hid ksm; have HMT := Lib.hid hm
    clear ksm hm hs1 hs2
    go_wp2_with fail
    refine KSM.out.mono ?_
    rintro _ w11 ⟨rfl, hq⟩
    have hb := hq.below
    have ho1' := own_below HO1.out hb
    have ho2' := own_below HO2.out hb
    have hs := (HS.out).next hb
    have hl := (HL.out).next hb
    have hm := (HM.out).next hb
    have hk := (hb.cell (p := ⟨g, n, none⟩) HGL.out).trans HMK.out
    have hgl := Nat.lt_of_lt_of_le HGL.out hb.size
    obtain ⟨c0, c1, hlt⟩ : w11.cell? ⟨w.heap.size, 0, none⟩ = some (.slice pf nf cf) ∧ w11.cell? ⟨w.heap.size, 1, none⟩ = some (.slice pl nl cl) ∧ w.heap.size < w11.heap.size := ⟨hs.c0, hs.c1, hs.lt⟩
    clear HS HL HM HMK HGL
    have HS := Lib.hid hs
    have HL := Lib.hid hl
    have HM := Lib.hid hm
    have HMK := Lib.hid hk
    have HGL := Lib.hid hgl
    clear hm hk hgl
    have HO1 := Lib.hid ho1'; have HO2 := Lib.hid ho2'
    have hb6 := HB6.out.trans (hb.mono HB6.out.size)
    clear HB6
    have HB6 := Lib.hid hb6
    clear hb6 hs hl hb hq ho1' ho2' KSM
    go_wp2_with fail
    have ksp := spoil_any w6.heap.size (.slice p1 T.length d1) T.length (T.map Value.string) w11 HO1.out (by rw [← HMT.out]; exact hm4) HB6.out.size
    rw [← HMT.out] at ksp
    have KSP := Lib.hid ksp
    clear ksp
    refine KSP.out.mono ?_
    rintro _ w12 ⟨rfl, hg⟩
    have hgT : w11.grownBy w12 (Value.slice p1 T.length d1).ownBlock := by rw [← HMT.out]; exact hg
    have hbw : Below w6.heap.size w11 w12 := grown_below hgT HB6.out.size HV1B.out
    have hb12 := HB6.out.trans hbw
    obtain ⟨p3, b3, d3, he3, hr12⟩ := row_kept HO2.out HV1.out hgT (by rw [← HMT.out]; exact hm4)
    simp only [Value.slice.injEq, true_and] at he3
    obtain ⟨rfl, rfl⟩ := he3
    have hs := HS6.out.next hb12
    have hl := HL6.out.next hb12
    have hm := HM6.out.next hb12
    have hk := (hb12.cell (p := ⟨g, n, none⟩) HGL6.out).trans HMK6.out
    have hgl := Nat.lt_of_lt_of_le HGL6.out hb12.size
    clear c0 c1 hlt
    obtain ⟨c0, c1, hlt⟩ : w12.cell? ⟨w.heap.size, 0, none⟩ = some (.slice pf nf cf) ∧ w12.cell? ⟨w.heap.size, 1, none⟩ = some (.slice pl nl cl) ∧ w.heap.size < w12.heap.size := ⟨hs.c0, hs.c1, hs.lt⟩
    clear HS HL HM HMK HGL HO1 HO2 HB6 HV1 HV1B HS6 HL6 HM6 HMK6 HGL6 HG6 HZ7 KSP
    have HS := Lib.hid hs
    have HL := Lib.hid hl
    have HM := Lib.hid hm
    have HMK := Lib.hid hk
    have HGL := Lib.hid hgl
    have HR := Lib.hid hr12
    clear hs hl hm hk hgl hr12 hg hgT hbw hb12
    go_wp2_with fail
    refine (KS1.out g cap _ (HS.out).i (HS.out).t HM.out).mono ?_
    rintro _ w13 ⟨v4, T4, rfl, hT4, ho4, hb⟩
    obtain rfl := HT1.out.one hT4
    have hr13 := HR.out.next hb
    have hs := (HS.out).next hb
    have hl := (HL.out).next hb
    have hm := (HM.out).next hb
    have hk := (hb.cell (p := ⟨g, n, none⟩) HGL.out).trans HMK.out
    have hgl := Nat.lt_of_lt_of_le HGL.out hb.size
    obtain ⟨c0, c1, hlt⟩ : w13.cell? ⟨w.heap.size, 0, none⟩ = some (.slice pf nf cf) ∧ w13.cell? ⟨w.heap.size, 1, none⟩ = some (.slice pl nl cl) ∧ w.heap.size < w13.heap.size := ⟨hs.c0, hs.c1, hs.lt⟩
    clear HS HL HM HMK HGL
    have HS := Lib.hid hs
    have HL := Lib.hid hl
    have HM := Lib.hid hm
    have HMK := Lib.hid hk
    have HGL := Lib.hid hgl
    clear hm hk hgl
    obtain ⟨p4, b4, d4, rfl, hs4⟩ := own_ss ho4 (by have := HMT.out; omega)
    have ksm := samew_any p4 p2 b4 0 d4 b3 0 d2 T
    rw [← HMT.out] at ksm ⊢
    have KSM := Lib.hid ksm; have HS4 := Lib.hid hs4; have HR13 := Lib.hid hr13
    clear hs hl hb hT4 ho4 hs4 hr13 ksm HR
    go_wp2_with fail
    refine (KSAME.out g cap _ HM.out HL.out).mono ?_
    rintro _ w14 ⟨rfl, hq⟩
    have hb := hq.below
    have hk2 : w14.cell? ⟨g, n, none⟩ = some (.string ⟨#[109, 97, 114, 107]⟩) := (hb.cell (p := ⟨g, n, none⟩) HGL.out).trans HMK.out
    have HS14 := Lib.hid (HS4.out.next hb); have HR14 := Lib.hid (HR13.out.next hb)
    have HBF := Lib.hid ((HS.out).next hb).below
    clear hb hq c0 c1 hlt
    go_wp2_with fail
    refine (KSM.out _ HS14.out HR14.out).mono ?_
    rintro _ w15 ⟨rfl, hq⟩
    have HBG := Lib.hid (HBF.out.trans (hq.below.mono HBF.out.size))
    clear hq hk2
    go_wp2_with fail
    go_ret
    exact ⟨rfl, HBG.out⟩
  · have z3 : decide (200 < n) = true := by simp; omega
    have z4 : decide (n ≤ 4096) = false := by simp; omega
    have z1 : (200 : Int) < (n : Int) := by omega
    have z2 : ¬ (n : Int) ≤ 4096 := by omega
    go_enter Tryz.func3, Tryz.ntmps3
    go_wp2_with fail
    refine (K0.out _ (HS.out).i (HS.out).t).mono ?_
    rintro _ w1 ⟨rfl, hb⟩
    have hs := (HS.out).next hb
    have hl := (HL.out).next hb
    obtain ⟨c0, c1, hlt⟩ : w1.cell? ⟨w.heap.size, 0, none⟩ = some (.slice pf nf cf) ∧ w1.cell? ⟨w.heap.size, 1, none⟩ = some (.slice pl nl cl) ∧ w.heap.size < w1.heap.size := ⟨hs.c0, hs.c1, hs.lt⟩
    clear HS HL
    have HS := Lib.hid hs
    have HL := Lib.hid hl
    clear hs hl hb
    go_wp2_with fail
    refine (KLENT.out _ HL.out).mono ?_
    rintro _ w2 ⟨g, cap, rfl, hc1, hc2, hm, hk, hb⟩
    have hs := (HS.out).next hb
    have hl := (HL.out).next hb
    obtain ⟨c0, c1, hlt⟩ : w2.cell? ⟨w.heap.size, 0, none⟩ = some (.slice pf nf cf) ∧ w2.cell? ⟨w.heap.size, 1, none⟩ = some (.slice pl nl cl) ∧ w.heap.size < w2.heap.size := ⟨hs.c0, hs.c1, hs.lt⟩
    clear HS HL
    have HS := Lib.hid hs
    have HL := Lib.hid hl
    have hgl : g < w2.heap.size := lt_of_cell hk
    have hk2 : w2.cell? ⟨g, n, none⟩ = some (.string markS) := hk
    have HM := Lib.hid hm
    have HMK := Lib.hid hk2
    have HGL := Lib.hid hgl
    have hc3 : n + 1 ≤ cap := by have := HN.out; omega
    clear hs hl hb hm hk hk2 hgl hc1
    go_wp2_with fail
    refine (KC1.out _ (HS.out).i (HS.out).t).mono ?_
    rintro _ w3 ⟨rfl, hb⟩
    have hs := (HS.out).next hb
    have hl := (HL.out).next hb
    have hm := (HM.out).next hb
    have hk := (hb.cell (p := ⟨g, n, none⟩) HGL.out).trans HMK.out
    have hgl := Nat.lt_of_lt_of_le HGL.out hb.size
    obtain ⟨c0, c1, hlt⟩ : w3.cell? ⟨w.heap.size, 0, none⟩ = some (.slice pf nf cf) ∧ w3.cell? ⟨w.heap.size, 1, none⟩ = some (.slice pl nl cl) ∧ w.heap.size < w3.heap.size := ⟨hs.c0, hs.c1, hs.lt⟩
    clear HS HL HM HMK HGL
    have HS := Lib.hid hs
    have HL := Lib.hid hl
    have HM := Lib.hid hm
    have HMK := Lib.hid hk
    have HGL := Lib.hid hgl
    clear hm hk hgl
    clear hs hl hb
    go_wp2_with fail
    refine (KC2.out _ (HS.out).i (HS.out).t).mono ?_
    rintro _ w4 ⟨rfl, hb⟩
    have hs := (HS.out).next hb
    have hl := (HL.out).next hb
    have hm := (HM.out).next hb
    have hk := (hb.cell (p := ⟨g, n, none⟩) HGL.out).trans HMK.out
    have hgl := Nat.lt_of_lt_of_le HGL.out hb.size
    obtain ⟨c0, c1, hlt⟩ : w4.cell? ⟨w.heap.size, 0, none⟩ = some (.slice pf nf cf) ∧ w4.cell? ⟨w.heap.size, 1, none⟩ = some (.slice pl nl cl) ∧ w.heap.size < w4.heap.size := ⟨hs.c0, hs.c1, hs.lt⟩
    clear HS HL HM HMK HGL
    have HS := Lib.hid hs
    have HL := Lib.hid hl
    have HM := Lib.hid hm
    have HMK := Lib.hid hk
    have HGL := Lib.hid hgl
    clear hm hk hgl
    clear hs hl hb
    go_wp2_with fail
    refine (KN1.out _ (HS.out).i (HS.out).t).mono ?_
    rintro _ w5 ⟨rfl, hb⟩
    have hs := (HS.out).next hb
    have hl := (HL.out).next hb
    have hm := (HM.out).next hb
    have hk := (hb.cell (p := ⟨g, n, none⟩) HGL.out).trans HMK.out
    have hgl := Nat.lt_of_lt_of_le HGL.out hb.size
    obtain ⟨c0, c1, hlt⟩ : w5.cell? ⟨w.heap.size, 0, none⟩ = some (.slice pf nf cf) ∧ w5.cell? ⟨w.heap.size, 1, none⟩ = some (.slice pl nl cl) ∧ w.heap.size < w5.heap.size := ⟨hs.c0, hs.c1, hs.lt⟩
    clear HS HL HM HMK HGL
    have HS := Lib.hid hs
    have HL := Lib.hid hl
    have HM := Lib.hid hm
    have HMK := Lib.hid hk
    have HGL := Lib.hid hgl
    clear hm hk hgl
    clear hs hl hb
    go_wp2_with fail
    refine (KN2.out _ (HS.out).i (HS.out).t).mono ?_
    rintro _ w6 ⟨rfl, hb⟩
    have hs := (HS.out).next hb
    have hl := (HL.out).next hb
    have hm := (HM.out).next hb
    have hk := (hb.cell (p := ⟨g, n, none⟩) HGL.out).trans HMK.out
    have hgl := Nat.lt_of_lt_of_le HGL.out hb.size
    obtain ⟨c0, c1, hlt⟩ : w6.cell? ⟨w.heap.size, 0, none⟩ = some (.slice pf nf cf) ∧ w6.cell? ⟨w.heap.size, 1, none⟩ = some (.slice pl nl cl) ∧ w.heap.size < w6.heap.size := ⟨hs.c0, hs.c1, hs.lt⟩
    clear HS HL HM HMK HGL
    have HS := Lib.hid hs
    have HL := Lib.hid hl
    have HM := Lib.hid hm
    have HMK := Lib.hid hk
    have HGL := Lib.hid hgl
    clear hm hk hgl
    clear hs hl hb
    go_wp2_with fail
    refine (KS1.out g cap _ (HS.out).i (HS.out).t HM.out).mono ?_
    rintro _ w7 ⟨v1, T, rfl, hT1, ho1, hb⟩
    have hv1 : ∀ q, v1.ownBlock = some q → q < w7.heap.size := fun q hq => (ho1.lt q hq).2
    have hv1b : ∀ q, v1.ownBlock = some q → w6.heap.size ≤ q := fun q hq => (ho1.lt q hq).1
    have hz6 : w.heap.size ≤ w6.heap.size ∧ g < w6.heap.size ∧ w.heap.size < w6.heap.size := ⟨HS.out.below.size, HGL.out, hlt⟩
    have HG6 := Lib.hid hz6
    have HS6 := HS; have HL6 := HL; have HM6 := HM; have HMK6 := HMK; have HGL6 := HGL
    have hs := (HS.out).next hb
    have hl := (HL.out).next hb
    have hm := (HM.out).next hb
    have hk := (hb.cell (p := ⟨g, n, none⟩) HGL.out).trans HMK.out
    have hgl := Nat.lt_of_lt_of_le HGL.out hb.size
    obtain ⟨c0, c1, hlt⟩ : w7.cell? ⟨w.heap.size, 0, none⟩ = some (.slice pf nf cf) ∧ w7.cell? ⟨w.heap.size, 1, none⟩ = some (.slice pl nl cl) ∧ w.heap.size < w7.heap.size := ⟨hs.c0, hs.c1, hs.lt⟩
    clear HS HL HM HMK HGL
    have HS := Lib.hid hs
    have HL := Lib.hid hl
    have HM := Lib.hid hm
    have HMK := Lib.hid hk
    have HGL := Lib.hid hgl
    clear hm hk hgl
    have HT1 := Lib.hid hT1; have HO1 := Lib.hid ho1; have HV1 := Lib.hid hv1; have HV1B := Lib.hid hv1b
    have HB6 := Lib.hid hb
    clear hs hl hb hT1 ho1 hv1 hv1b hz6
    go_wp2_with fail
    refine (KS2.out _ (HS.out).i (HS.out).t HL.out).mono ?_
    rintro _ w8 ⟨v2, T', rfl, hT2, ho2, hb⟩
    obtain rfl := HT1.out.one hT2
    have ho1' := own_below HO1.out hb
    have hs := (HS.out).next hb
    have hl := (HL.out).next hb
    have hm := (HM.out).next hb
    have hk := (hb.cell (p := ⟨g, n, none⟩) HGL.out).trans HMK.out
    have hgl := Nat.lt_of_lt_of_le HGL.out hb.size
    obtain ⟨c0, c1, hlt⟩ : w8.cell? ⟨w.heap.size, 0, none⟩ = some (.slice pf nf cf) ∧ w8.cell? ⟨w.heap.size, 1, none⟩ = some (.slice pl nl cl) ∧ w.heap.size < w8.heap.size := ⟨hs.c0, hs.c1, hs.lt⟩
    clear HS HL HM HMK HGL
    have HS := Lib.hid hs
    have HL := Lib.hid hl
    have HM := Lib.hid hm
    have HMK := Lib.hid hk
    have HGL := Lib.hid hgl
    clear hm hk hgl
    have HO2 := Lib.hid ho2; have HO1 := Lib.hid ho1'
    have hz7 : w7.heap.size ≤ w8.heap.size := hb.size
    have HZ7 := Lib.hid hz7
    have hb6 := HB6.out.trans (hb.mono HB6.out.size)
    clear HB6
    have HB6 := Lib.hid hb6
    clear hb6 hs hl hb hT2 ho2 ho1' hz7
    go_wp2_with fail
    refine (KJ1.out g cap _ (HS.out).i (HS.out).t HM.out).mono ?_
    rintro _ w9 ⟨rfl, hb⟩
    have ho1' := own_below HO1.out hb
    have ho2' := own_below HO2.out hb
    have hs := (HS.out).next hb
    have hl := (HL.out).next hb
    have hm := (HM.out).next hb
    have hk := (hb.cell (p := ⟨g, n, none⟩) HGL.out).trans HMK.out
    have hgl := Nat.lt_of_lt_of_le HGL.out hb.size
    obtain ⟨c0, c1, hlt⟩ : w9.cell? ⟨w.heap.size, 0, none⟩ = some (.slice pf nf cf) ∧ w9.cell? ⟨w.heap.size, 1, none⟩ = some (.slice pl nl cl) ∧ w.heap.size < w9.heap.size := ⟨hs.c0, hs.c1, hs.lt⟩
    clear HS HL HM HMK HGL
    have HS := Lib.hid hs
    have HL := Lib.hid hl
    have HM := Lib.hid hm
    have HMK := Lib.hid hk
    have HGL := Lib.hid hgl
    clear hm hk hgl
    have HO1 := Lib.hid ho1'; have HO2 := Lib.hid ho2'
    have hb6 := HB6.out.trans (hb.mono HB6.out.size)
    clear HB6
    have HB6 := Lib.hid hb6
    clear hb6 hs hl hb ho1' ho2'
    go_wp2_with fail
    refine (KJ2.out _ (HS.out).i (HS.out).t HL.out).mono ?_
    rintro _ w10 ⟨rfl, hb⟩
    have ho1' := own_below HO1.out hb
    have ho2' := own_below HO2.out hb
    have hs := (HS.out).next hb
    have hl := (HL.out).next hb
    have hm := (HM.out).next hb
    have hk := (hb.cell (p := ⟨g, n, none⟩) HGL.out).trans HMK.out
    have hgl := Nat.lt_of_lt_of_le HGL.out hb.size
    obtain ⟨c0, c1, hlt⟩ : w10.cell? ⟨w.heap.size, 0, none⟩ = some (.slice pf nf cf) ∧ w10.cell? ⟨w.heap.size, 1, none⟩ = some (.slice pl nl cl) ∧ w.heap.size < w10.heap.size := ⟨hs.c0, hs.c1, hs.lt⟩
    clear HS HL HM HMK HGL
    have HS := Lib.hid hs
    have HL := Lib.hid hl
    have HM := Lib.hid hm
    have HMK := Lib.hid hk
    have HGL := Lib.hid hgl
    clear hm hk hgl
    have HO1 := Lib.hid ho1'; have HO2 := Lib.hid ho2'
    have hb6 := HB6.out.trans (hb.mono HB6.out.size)
    clear HB6
    have HB6 := Lib.hid hb6
    clear hb6 hs hl hb ho1' ho2'
    obtain ⟨m, hm⟩ : ∃ m, m = T.length := ⟨_, rfl⟩
    have hm4 : m ≤ 4096 := by rw [hm]; exact HT1.out.len
    obtain ⟨p1, b1, d1, rfl, hs1⟩ := own_ss HO1.out (by omega)
    obtain ⟨p2, b2, d2, rfl, hs2⟩ := own_ss HO2.out (by omega)
    have ksm := samew_any p1 p2 b1 0 d1 b2 0 d2 T w10 hs1 hs2
    rw [← hm] at ksm ⊢
    have KSM := Lib.hid ksm; have HMT := Lib.hid hm
    clear ksm hm hs1 hs2
    go_wp2_with fail
    refine KSM.out.mono ?_
    rintro _ w11 ⟨rfl, hq⟩
    have hb := hq.below
    have ho1' := own_below HO1.out hb
    have ho2' := own_below HO2.out hb
    have hs := (HS.out).next hb
    have hl := (HL.out).next hb
    have hm := (HM.out).next hb
    have hk := (hb.cell (p := ⟨g, n, none⟩) HGL.out).trans HMK.out
    have hgl := Nat.lt_of_lt_of_le HGL.out hb.size
    obtain ⟨c0, c1, hlt⟩ : w11.cell? ⟨w.heap.size, 0, none⟩ = some (.slice pf nf cf) ∧ w11.cell? ⟨w.heap.size, 1, none⟩ = some (.slice pl nl cl) ∧ w.heap.size < w11.heap.size := ⟨hs.c0, hs.c1, hs.lt⟩
    clear HS HL HM HMK HGL
    have HS := Lib.hid hs
    have HL := Lib.hid hl
    have HM := Lib.hid hm
    have HMK := Lib.hid hk
    have HGL := Lib.hid hgl
    clear hm hk hgl
    have HO1 := Lib.hid ho1'; have HO2 := Lib.hid ho2'
    have hb6 := HB6.out.trans (hb.mono HB6.out.size)
    clear HB6
    have HB6 := Lib.hid hb6
    clear hb6 hs hl hb hq ho1' ho2' KSM
    go_wp2_with fail
    have ksp := spoil_any w6.heap.size (.slice p1 T.length d1) T.length (T.map Value.string) w11 HO1.out (by rw [← HMT.out]; exact hm4) HB6.out.size
    rw [← HMT.out] at ksp
    have KSP := Lib.hid ksp
    clear ksp
    refine KSP.out.mono ?_
    rintro _ w12 ⟨rfl, hg⟩
    have hgT : w11.grownBy w12 (Value.slice p1 T.length d1).ownBlock := by rw [← HMT.out]; exact hg
    have hbw : Below w6.heap.size w11 w12 := grown_below hgT HB6.out.size HV1B.out
    have hb12 := HB6.out.trans hbw
    obtain ⟨p3, b3, d3, he3, hr12⟩ := row_kept HO2.out HV1.out hgT (by rw [← HMT.out]; exact hm4)
    simp only [Value.slice.injEq, true_and] at he3
    obtain ⟨rfl, rfl⟩ := he3
    have hs := HS6.out.next hb12
    have hl := HL6.out.next hb12
    have hm := HM6.out.next hb12
    have hk := (hb12.cell (p := ⟨g, n, none⟩) HGL6.out).trans HMK6.out
    have hgl := Nat.lt_of_lt_of_le HGL6.out hb12.size
    clear c0 c1 hlt
    obtain ⟨c0, c1, hlt⟩ : w12.cell? ⟨w.heap.size, 0, none⟩ = some (.slice pf nf cf) ∧ w12.cell? ⟨w.heap.size, 1, none⟩ = some (.slice pl nl cl) ∧ w.heap.size < w12.heap.size := ⟨hs.c0, hs.c1, hs.lt⟩
    clear HS HL HM HMK HGL HO1 HO2 HB6 HV1 HV1B HS6 HL6 HM6 HMK6 HGL6 HG6 HZ7 KSP
    have HS := Lib.hid hs
    have HL := Lib.hid hl
    have HM := Lib.hid hm
    have HMK := Lib.hid hk
    have HGL := Lib.hid hgl
    have HR := Lib.hid hr12
    clear hs hl hm hk hgl hr12 hg hgT hbw hb12
    go_wp2_with fail
    refine (KS1.out g cap _ (HS.out).i (HS.out).t HM.out).mono ?_
    rintro _ w13 ⟨v4, T4, rfl, hT4, ho4, hb⟩
    obtain rfl := HT1.out.one hT4
    have hr13 := HR.out.next hb
    have hs := (HS.out).next hb
    have hl := (HL.out).next hb
    have hm := (HM.out).next hb
    have hk := (hb.cell (p := ⟨g, n, none⟩) HGL.out).trans HMK.out
    have hgl := Nat.lt_of_lt_of_le HGL.out hb.size
    obtain ⟨c0, c1, hlt⟩ : w13.cell? ⟨w.heap.size, 0, none⟩ = some (.slice pf nf cf) ∧ w13.cell? ⟨w.heap.size, 1, none⟩ = some (.slice pl nl cl) ∧ w.heap.size < w13.heap.size := ⟨hs.c0, hs.c1, hs.lt⟩
    clear HS HL HM HMK HGL
    have HS := Lib.hid hs
    have HL := Lib.hid hl
    have HM := Lib.hid hm
    have HMK := Lib.hid hk
    have HGL := Lib.hid hgl
    clear hm hk hgl
    obtain ⟨p4, b4, d4, rfl, hs4⟩ := own_ss ho4 (by have := HMT.out; omega)
    have ksm := samew_any p4 p2 b4 0 d4 b3 0 d2 T
    rw [← HMT.out] at ksm ⊢
    have KSM := Lib.hid ksm; have HS4 := Lib.hid hs4; have HR13 := Lib.hid hr13
    clear hs hl hb hT4 ho4 hs4 hr13 ksm HR
    go_wp2_with fail
    refine (KSAME.out g cap _ HM.out HL.out).mono ?_
    rintro _ w14 ⟨rfl, hq⟩
    have hb := hq.below
    have hk2 : w14.cell? ⟨g, n, none⟩ = some (.string ⟨#[109, 97, 114, 107]⟩) := (hb.cell (p := ⟨g, n, none⟩) HGL.out).trans HMK.out
    have HS14 := Lib.hid (HS4.out.next hb); have HR14 := Lib.hid (HR13.out.next hb)
    have HBF := Lib.hid ((HS.out).next hb).below
    clear hb hq c0 c1 hlt
    go_wp2_with fail
    refine (KSM.out _ HS14.out HR14.out).mono ?_
    rintro _ w15 ⟨rfl, hq⟩
    have HBG := Lib.hid (HBF.out.trans (hq.below.mono HBF.out.size))
    clear hq hk2
    go_wp2_with fail
    go_ret
    exact ⟨rfl, HBG.out⟩
end Go.Proofs.YtcibjgkifafohaaGreatDoor
namespace Go.Proofs.YtcibjgkifafohaaGreatDoor
open Go.RowKit Go.Lib
theorem lawRow (A : Al) (x y : ByteArray) (sr : Option Addr) (ur s0 cs : Nat) (l : List ByteArray) (w : World) (hA : A.In w) (hx : x.size ≤ maxLen) (hy : y.size ≤ maxLen) (hF : FsX sr ur s0 cs l w) (hT : Tabs w) :
    Calls Tryz.prog 3 #[A.v, .string x, .string y, .slice sr l.length cs] w fun e w' => e = .returned (.bool true) ∧ Below w.heap.size w w' := by
  have hx' : x.size ≤ 9223372036854775807 := by unfold maxLen at hx; omega
  have hy' : y.size ≤ 9223372036854775807 := by unfold maxLen at hy; omega
  have hS : SsIn sr ur s0 l w := hF.fs.ss
  have hz : SizesIn l := fun j hj => by have := hF.fs.small j hj; omega
  by_cases h1 : 200 < l.length ∧ l.length ≤ 4096
  · exact wrow_mid A x y sr ur s0 cs l w hA hT h1.1 h1.2
  · exact wrow_main A x y sr ur s0 cs l w hA hT hx' hy' hS hz hF.nil hF.fs.room hF.room (by omega)
end Go.Proofs.YtcibjgkifafohaaGreatDoor
