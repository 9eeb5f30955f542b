/-
  WALKS: cognatelaw02.FeatureTexts.
-/
import Derived.Test.YtmbekgfbnapelaaFsm
import Derived.Test.YtmbekgfbnapelaaRfL
import Derived.Test.YtmbekgfbnapelaaAppR
import Derived.Test.YtmbekgfbnapelaaAlv2
namespace Go.Proofs.Ytmbekgfbnapelaa
open Go.RowKit Go.Lib
set_option linter.unusedVariables false

set_option maxHeartbeats 4000000 in
set_option maxRecDepth 100000 in
theorem texts_long (A : Al) (pr : Option Addr) (cr n : Nat) (s : ByteArray) (p m : Nat) (w : World) (h : 300 < n ∨ (5000 < s.size ∧ s.size ≤ 65536) ∨ 200000 < s.size) :
    Calls Try.prog 5 #[A.v, .slice pr n cr, .string s, .int .u32 p, .int .u32 m] w fun e w' => e = .returned (.bool true) ∧ Below w.heap.size w w' := by
  have kal := fun W => alive_any W
  have KAL := Lib.hid kal
  obtain ⟨pf, pl, nf, cf, nl, cl, hv, hnf, hnl, hpl, hcl, hpf, hcf⟩ := A.parts
  rw [hv]
  have hcase : (300 : Int) < (n : Int) ∨ (¬ (300 : Int) < (n : Int) ∧ (5000 : Int) < (s.size : Int) ∧ (s.size : Int) ≤ 65536) ∨ (¬ (300 : Int) < (n : Int) ∧ (5000 : Int) < (s.size : Int) ∧ ¬ (s.size : Int) ≤ 65536 ∧ (200000 : Int) < (s.size : Int)) := by omega
  clear kal hv hnf hnl hpl hcl hpf hcf h
  rcases hcase with h1 | ⟨h1, h2, h3⟩ | ⟨h1, h2, h3, h4⟩
  all_goals
    go_enter Try.func5, Try.ntmps5
    go_wp2_with fail
    refine (KAL.out _).mono ?_
    rintro _ w1 ⟨rfl, hb⟩
    have HB := Lib.hid (((Below.refl w.heap.size w).alloc (Nat.le_refl _) (.cells #[.slice pf nf cf, .slice pl nl cl] 26)).trans (hb.mono (by simp)))
    clear hb
    go_wp2_with fail
    go_ret
    exact ⟨rfl, HB.out⟩

set_option maxHeartbeats 32000000 in
set_option maxRecDepth 100000 in
theorem texts_short (A : Al) (pr : Option Addr) (br r0 cr : Nat) (l : List Int) (s : ByteArray) (p m : Nat) (w : World) (hA : AlX A w) (hR : RsX pr br r0 cr l w) (hp : p < 4294967296) (hm : m < 4294967296) (hl : l.length ≤ 300) (hss : s.size ≤ 5000 ∨ (65536 < s.size ∧ s.size ≤ 200000)) :
    Calls Try.prog 5 #[A.v, .slice pr l.length cr, .string s, .int .u32 p, .int .u32 m] w fun e w' => e = .returned (.bool true) ∧ Below w.heap.size w w' := by
  have kal := fun W => alive_any W
  have ktw := fun W (h : A.In W) => twin_any A W ⟨h, hA.nilF, hA.nilL, hA.roomF, hA.roomL⟩
  have kpl := fun (A' : Al) pr' br' cr' W h hr => least_any A' pr' br' 0 cr' l W h hr
  have kpt := fun (A' : Al) W h => textF_any A' p m W h hp hm
  have kpp := fun (A' : Al) W h => parse_any A' s W h
  have kpb := fun (A' : Al) W h => bit_any A' s W h
  have krl := fun W h (hb : Below w.heap.size w W) => rleast_any A pr br r0 cr l W h (hR.rs.next hb)
  have krt := fun W h => rtext2_any A p m W h hp hm
  have krp := fun W h => rparse_any A s W h
  have krb := fun W h => rbit_any A s W h
  have kak := fun (A' : Al) W h1 h2 e1 e2 => alike_any A A' W h1 h2 e1 e2
  have hcl0 := fun W (hb : Below w.heap.size w W) => (hR.rs.next hb).cells
  have hrs := fun W (hb : Below w.heap.size w W) => hR.rs.next hb
  have hat := hR.rs.at_
  have hnil := hR.nil
  unfold LstPost at kpl krl
  unfold TextPost at kpt krt
  unfold ParPost at kpp krp
  obtain ⟨⟨l1, l2, l3⟩, hO⟩ : ∃ v, v = leastR A l := ⟨_, rfl⟩
  obtain ⟨⟨t1, t2⟩, hH⟩ : ∃ v, v = textR A p m := ⟨_, rfl⟩
  obtain ⟨⟨p1, p2, p3, p4⟩, hF⟩ : ∃ v, v = parR A s := ⟨_, rfl⟩
  obtain ⟨⟨b1, b2⟩, hN⟩ : ∃ v, v = bitR A s := ⟨_, rfl⟩
  rw [← hO] at krl
  rw [← hH] at krt
  rw [← hF] at krp
  rw [← hN] at krb
  simp only [] at krl krt krp krb
  obtain ⟨pf, pl, nf, cf, nl, cl, hv, hnf, hnl, hpl, hcl, hpf, hcf⟩ := A.parts
  rw [hv] at ktw krl krt krp krb kak ⊢
  have hs : Bx A (.slice pf nf cf) (.slice pl nl cl) w w.heap.size (w.alloc (.cells #[.slice pf nf cf, .slice pl nl cl] 26)) := Bx.start hA.i
  obtain ⟨n, hn⟩ : ∃ n, n = l.length := ⟨_, rfl⟩
  rw [← hn] at kpl krl hl hcl0 hat hnil ⊢
  have KAL := Lib.hid kal; have KTW := Lib.hid ktw; have KPL := Lib.hid kpl; have KPT := Lib.hid kpt; have KPP := Lib.hid kpp; have KPB := Lib.hid kpb
  have KRL := Lib.hid krl; have KRT := Lib.hid krt; have KRP := Lib.hid krp; have KRB := Lib.hid krb; have KAK := Lib.hid kak
  have HX := Lib.hid hs; have HO := Lib.hid hO; have HH := Lib.hid hH; have HF := Lib.hid hF; have HNN := Lib.hid hN; have HN := Lib.hid hn; have HCL := Lib.hid hcl0; have HRS := Lib.hid hrs; have HAT := Lib.hid hat; have HNIL := Lib.hid hnil
  have z1 : ¬ (300 : Int) < (n : Int) := by omega
  have z2 : ¬ (200000 : Int) < (s.size : Int) := by omega
  have z3 : (n : Int) ≤ 300 := by omega
  have hcase : ¬ (5000 : Int) < (s.size : Int) ∨ ((5000 : Int) < (s.size : Int) ∧ ¬ (s.size : Int) ≤ 65536) := by omega
  clear kal ktw kpl kpt kpp kpb krl krt krp krb kak hO hH hF hN hv hnf hnl hpl hcl hpf hcf hs hA hn hcl0 hrs hat hnil hR hss
  rcases hcase with h5 | ⟨h5, h6⟩
  all_goals
    go_enter Try.func5, Try.ntmps5
    go_wp2_with fail
    refine (KAL.out _).mono ?_
    rintro _ w1 ⟨rfl, hb⟩
    replace HX := Lib.hid (HX.out.next hb)
    clear hb
    obtain ⟨c0, c1, hlt⟩ : w1.cell? ⟨w.heap.size, 0, none⟩ = some (.slice pf nf cf) ∧ w1.cell? ⟨w.heap.size, 1, none⟩ = some (.slice pl nl cl) ∧ w.heap.size < w1.heap.size := ⟨HX.out.c0, HX.out.c1, HX.out.lt⟩
    go_wp2_with fail
    refine (KTW.out _ HX.out.i).mono ?_
    rintro _ w2 ⟨A', rfl, e1, e2, hin, hb⟩
    replace HX := Lib.hid (HX.out.next hb)
    obtain ⟨pf', pl', nf', cf', nl', cl', hv', q1, q2, q3, q4, q5, q6⟩ := A'.parts
    clear q1 q2 q3 q4 q5 q6
    rw [hv']
    have kpl := KPL.out A'; have kpt := KPT.out A'; have kpp := KPP.out A'; have kpb := KPB.out A'; have kak := fun W h1 h2 => KAK.out A' W h1 h2 e1 e2
    rw [leastR_same e1 e2, ← HO.out, hv'] at kpl
    rw [textR_same e1 e2, ← HH.out, hv'] at kpt
    rw [parR_same e1 e2, ← HF.out, hv'] at kpp
    rw [bitR_same e1 e2, ← HNN.out, hv'] at kpb
    rw [hv'] at kak
    simp only [] at kpl kpt kpp kpb kak
    have HY0 := Lib.hid (Bx.made (F := .slice pf' nf' cf') (L := .slice pl' nl' cl') hin HX.out.below)
    replace KPL := Lib.hid kpl; replace KPT := Lib.hid kpt; replace KPP := Lib.hid kpp; replace KPB := Lib.hid kpb; replace KAK := Lib.hid kak
    have hz2 := HX.out.below.size
    clear kpl kpt kpp kpb kak hv' hin e1 e2 c0 c1 hlt hb
    replace HX := Lib.hid (HX.out.alloc (.cells #[.slice pf' nf' cf', .slice pl' nl' cl'] 26))
    have HY := HY0
    clear HY0
    have hzb := HX.out.below.size
    have hrd : ∀ ad, pr = some ad → ∀ j, j < n → (w2.alloc (.cells #[.slice pf' nf' cf', .slice pl' nl' cl'] 26)).cell? (ad.add j) = some (.int .i32 (l.getD j 0)) := fun ad had j hj => by
      have e0 := HAT.out (by omega)
      rw [had] at e0
      cases e0
      have := HCL.out _ HX.out.below j hj
      rw [show (⟨br, r0, none⟩ : Addr).add j = ⟨br, r0 + j, none⟩ from by simp [Addr.add]]
      exact this
    have HRD := Lib.hid hrd
    have hwz : w.heap.size ≤ w2.heap.size + 1 := by omega
    clear hrd hzb
    go_wp2_with (at_builtin; refine app_rs rfl (.tmp 60) (.tmp 61) rfl (w2.heap.size + 1) _ 0 [] rfl (World.ownsRow_nil _ _ _ _) pr n cr l rfl HN.out (fun h => HNIL.out h) HRD.out ?_ ?_ ?_)
    any_goals (first | omega | (simp; done) | skip)
    intro v3 w3 hown3 hgrow3 hblk3
    have hb3 : Below (w2.alloc (.cells #[.slice pf' nf' cf', .slice pl' nl' cl'] 26)).heap.size (w2.alloc (.cells #[.slice pf' nf' cf', .slice pl' nl' cl'] 26)) w3 := (Below.refl _ _).grown hgrow3 (Nat.le_refl _) (fun q hq => by cases hq)
    replace HX := Lib.hid (HX.out.next hb3)
    replace HY := Lib.hid (HY.out.next hb3)
    obtain ⟨om, cm, rfl⟩ := ownF_shape hown3
    have HM := Lib.hid (show Rw (w2.heap.size + 1) (.slice om l.length cm) l w3 from by
      unfold Rw
      have h := hown3
      first
        | (rw [Nat.zero_add, List.nil_append] at h; rw [HN.out] at h; exact h)
        | (rw [HN.out] at h; exact h))
    clear hown3 hgrow3 hblk3 hb3
    obtain ⟨d0, d1, hltd⟩ : w3.cell? ⟨w2.heap.size, 0, none⟩ = some (.slice pf' nf' cf') ∧ w3.cell? ⟨w2.heap.size, 1, none⟩ = some (.slice pl' nl' cl') ∧ w2.heap.size < w3.heap.size := ⟨HY.out.c0, HY.out.c1, HY.out.lt⟩
    go_wp2_with fail
    have hLm := fun W (hr : Rw (w2.heap.size + 1) (.slice om l.length cm) l W) => own_rs hr (by have := HN.out; omega)
    have HLM := Lib.hid (show ∀ W, Rw (w2.heap.size + 1) (.slice om l.length cm) l W → ∃ br', RsIn om br' 0 l W from fun W hr => by
      obtain ⟨r1, r2, r3, e1, h1⟩ := hLm W hr
      cases e1
      exact ⟨r2, h1⟩)
    clear hLm
    obtain ⟨bm, hbm⟩ := HLM.out w3 HM.out
    refine (KPL.out om bm cm _ HY.out.i hbm).mono ?_
    rintro _ w4 ⟨rfl, hb⟩
    replace HX := Lib.hid (HX.out.next hb)
    replace HY := Lib.hid (HY.out.next hb)
    replace HM := Lib.hid (HM.out.next hb)
    clear hb hbm d0 d1 hltd
    obtain ⟨d0, d1, hltd⟩ : w4.cell? ⟨w2.heap.size, 0, none⟩ = some (.slice pf' nf' cf') ∧ w4.cell? ⟨w2.heap.size, 1, none⟩ = some (.slice pl' nl' cl') ∧ w2.heap.size < w4.heap.size := ⟨HY.out.c0, HY.out.c1, HY.out.lt⟩
    go_wp2_with fail
    refine (KPT.out _ HY.out.i).mono ?_
    rintro _ w5 ⟨rfl, hb⟩
    replace HX := Lib.hid (HX.out.next hb)
    replace HY := Lib.hid (HY.out.next hb)
    replace HM := Lib.hid (HM.out.next hb)
    clear hb d0 d1 hltd
    obtain ⟨d0, d1, hltd⟩ : w5.cell? ⟨w2.heap.size, 0, none⟩ = some (.slice pf' nf' cf') ∧ w5.cell? ⟨w2.heap.size, 1, none⟩ = some (.slice pl' nl' cl') ∧ w2.heap.size < w5.heap.size := ⟨HY.out.c0, HY.out.c1, HY.out.lt⟩
    go_wp2_with fail
    refine (KPP.out _ HY.out.i).mono ?_
    rintro _ w6 ⟨rfl, hb⟩
    replace HX := Lib.hid (HX.out.next hb)
    replace HY := Lib.hid (HY.out.next hb)
    replace HM := Lib.hid (HM.out.next hb)
    clear hb d0 d1 hltd
    obtain ⟨d0, d1, hltd⟩ : w6.cell? ⟨w2.heap.size, 0, none⟩ = some (.slice pf' nf' cf') ∧ w6.cell? ⟨w2.heap.size, 1, none⟩ = some (.slice pl' nl' cl') ∧ w2.heap.size < w6.heap.size := ⟨HY.out.c0, HY.out.c1, HY.out.lt⟩
    go_wp2_with fail
    refine (KPB.out _ HY.out.i).mono ?_
    rintro _ w7 ⟨rfl, hb⟩
    replace HX := Lib.hid (HX.out.next hb)
    replace HY := Lib.hid (HY.out.next hb)
    replace HM := Lib.hid (HM.out.next hb)
    clear hb d0 d1 hltd
    obtain ⟨c0, c1, hlt⟩ : w7.cell? ⟨w.heap.size, 0, none⟩ = some (.slice pf nf cf) ∧ w7.cell? ⟨w.heap.size, 1, none⟩ = some (.slice pl nl cl) ∧ w.heap.size < w7.heap.size := ⟨HX.out.c0, HX.out.c1, HX.out.lt⟩
    go_wp2_with fail
    refine (KRL.out _ HX.out.i HX.out.below).mono ?_
    rintro _ w8 ⟨rfl, hb⟩
    replace HX := Lib.hid (HX.out.next hb)
    replace HY := Lib.hid (HY.out.next hb)
    replace HM := Lib.hid (HM.out.next hb)
    clear hb c0 c1 hlt
    obtain ⟨c0, c1, hlt⟩ : w8.cell? ⟨w.heap.size, 0, none⟩ = some (.slice pf nf cf) ∧ w8.cell? ⟨w.heap.size, 1, none⟩ = some (.slice pl nl cl) ∧ w.heap.size < w8.heap.size := ⟨HX.out.c0, HX.out.c1, HX.out.lt⟩
    go_wp2_with fail
    refine (KRT.out _ HX.out.i).mono ?_
    rintro _ w9 ⟨rfl, hb⟩
    replace HX := Lib.hid (HX.out.next hb)
    replace HY := Lib.hid (HY.out.next hb)
    replace HM := Lib.hid (HM.out.next hb)
    clear hb c0 c1 hlt
    obtain ⟨c0, c1, hlt⟩ : w9.cell? ⟨w.heap.size, 0, none⟩ = some (.slice pf nf cf) ∧ w9.cell? ⟨w.heap.size, 1, none⟩ = some (.slice pl nl cl) ∧ w.heap.size < w9.heap.size := ⟨HX.out.c0, HX.out.c1, HX.out.lt⟩
    go_wp2_with fail
    refine (KRP.out _ HX.out.i).mono ?_
    rintro _ w10 ⟨rfl, hb⟩
    replace HX := Lib.hid (HX.out.next hb)
    replace HY := Lib.hid (HY.out.next hb)
    replace HM := Lib.hid (HM.out.next hb)
    clear hb c0 c1 hlt
    obtain ⟨c0, c1, hlt⟩ : w10.cell? ⟨w.heap.size, 0, none⟩ = some (.slice pf nf cf) ∧ w10.cell? ⟨w.heap.size, 1, none⟩ = some (.slice pl nl cl) ∧ w.heap.size < w10.heap.size := ⟨HX.out.c0, HX.out.c1, HX.out.lt⟩
    go_wp2_with fail
    refine (KRB.out _ HX.out.i).mono ?_
    rintro _ w11 ⟨rfl, hb⟩
    replace HX := Lib.hid (HX.out.next hb)
    replace HY := Lib.hid (HY.out.next hb)
    replace HM := Lib.hid (HM.out.next hb)
    clear hb c0 c1 hlt
    obtain ⟨c0, c1, hlt⟩ : w11.cell? ⟨w.heap.size, 0, none⟩ = some (.slice pf nf cf) ∧ w11.cell? ⟨w.heap.size, 1, none⟩ = some (.slice pl nl cl) ∧ w.heap.size < w11.heap.size := ⟨HX.out.c0, HX.out.c1, HX.out.lt⟩
    obtain ⟨d0, d1, hltd⟩ : w11.cell? ⟨w2.heap.size, 0, none⟩ = some (.slice pf' nf' cf') ∧ w11.cell? ⟨w2.heap.size, 1, none⟩ = some (.slice pl' nl' cl') ∧ w2.heap.size < w11.heap.size := ⟨HY.out.c0, HY.out.c1, HY.out.lt⟩
    go_wp2_with fail
    refine (KAK.out _ HX.out.i HY.out.i).mono ?_
    rintro _ w12 ⟨rfl, hb⟩
    replace HX := Lib.hid (HX.out.next hb)
    replace HY := Lib.hid (HY.out.next hb)
    replace HM := Lib.hid (HM.out.next hb)
    clear hb c0 c1 hlt d0 d1 hltd
    have KS := Lib.hid (show Calls Try.prog 22 #[.slice pr n cr, .slice om n cm] w12 fun e w' => e = .returned (.bool true) ∧ Below w12.heap.size w12 w' from by
      obtain ⟨bm2, hbm2⟩ := HLM.out w12 HM.out
      have := rsame2_any pr om br r0 cr bm2 0 cm l w12 (HRS.out _ HX.out.below) hbm2
      rw [← HN.out] at this
      exact this)
    go_wp2_with fail
    refine KS.out.mono ?_
    rintro _ w13 ⟨rfl, hb⟩
    have HB9 := Lib.hid (HX.out.below.trans (hb.mono HX.out.below.size))
    clear hb
    go_wp2_with fail
    go_ret
    exact ⟨rfl, HB9.out⟩
theorem texts_walk (A : Al) (pr : Option Addr) (br r0 cr : Nat) (l : List Int) (s : ByteArray) (p m : Nat) (w : World) (hA : AlX A w) (hR : RsX pr br r0 cr l w) (hp : p < 4294967296) (hm : m < 4294967296) :
    Calls Try.prog 5 #[A.v, .slice pr l.length cr, .string s, .int .u32 p, .int .u32 m] w fun e w' => e = .returned (.bool true) ∧ Below w.heap.size w w' := by
  by_cases h : 300 < l.length ∨ (5000 < s.size ∧ s.size ≤ 65536) ∨ 200000 < s.size
  · exact texts_long A pr cr l.length s p m w h
  · exact texts_short A pr br r0 cr l s p m w hA hR hp hm (by omega) (by omega)
end Go.Proofs.Ytmbekgfbnapelaa
