/-
  WALKS OF THE DOCUMENT's ANSWER: cognateref03.Has, Peaks.
-/
import Derived.Test.YtcibjgkifafohaaDoorRwB
import Derived.Test.YtcibjgkifafohaaDoorRfC
import Derived.Test.YtcibjgkifafohaaDoorSyB
namespace Go.Proofs.YtcibjgkifafohaaDoor
open Go.RowKit Go.Lib
set_option linter.unusedVariables false

set_option maxHeartbeats 2000000 in
set_option maxRecDepth 100000 in
theorem rhas3_any (A : Al) (r : Int) (p m j : Nat) (w : World) (hA : A.In w) (hp : p < 4294967296) (hm : m < 4294967296) (hj : j < A.ls.length) (hf : fnd A.ls r 0 = (j : Int)) :
    Calls Tryd.prog 56 #[A.v, .int .i32 r, .int .u32 p, .int .u32 m] w fun e w' => e = .returned (.bool (hasB (A.ls.getD j default) p m)) ∧ Below w.heap.size w w' := by
  have kn := fun W h => number_any A r W h
  rw [hf] at kn
  obtain ⟨b1, b2, _, _⟩ := hA.L.get j hj
  have hLc := fun (wk : World) (h : A.In wk) => And.intro (h.L.cp j hj) (h.L.cm j hj)
  have hat := hA.L.at_ (by omega)
  have e1 := u32_and_nat (A.ls.getD j default).p p b1 hp
  have e2 := u32_and_nat (A.ls.getD j default).m m b2 hm
  have hh : hasB (A.ls.getD j default) p m = (decide ((A.ls.getD j default).p &&& p = p) && decide ((A.ls.getD j default).m &&& m = m)) := rfl
  obtain ⟨X, hX⟩ : ∃ X, X = hasB (A.ls.getD j default) p m := ⟨_, rfl⟩
  rw [← hX] at hh ⊢
  obtain ⟨P, hP⟩ : ∃ X, X = (A.ls.getD j default).p := ⟨_, rfl⟩
  obtain ⟨M, hM⟩ : ∃ X, X = (A.ls.getD j default).m := ⟨_, rfl⟩
  rw [← hP] at e1 hh
  rw [← hM] at e2 hh
  simp only [← hP, ← hM] at hLc
  obtain ⟨Z1, hZ1⟩ : ∃ Z, Z = P &&& p := ⟨_, rfl⟩
  obtain ⟨Z2, hZ2⟩ : ∃ Z, Z = M &&& m := ⟨_, rfl⟩
  rw [← hZ1] at e1 hh
  rw [← hZ2] at e2 hh
  obtain ⟨pf, pl, nf, cf, nl, cl, hv, hnf, hnl, hpl, hcl, hpf, hcf⟩ := A.parts
  rw [hv] at kn ⊢
  rw [← hpl] at hat
  rw [← hnl] at hj
  obtain ⟨bl, hbl⟩ : ∃ l, l = A.bl := ⟨_, rfl⟩
  obtain ⟨l0, hl0⟩ : ∃ l, l = A.l0 := ⟨_, rfl⟩
  rw [← hbl, ← hl0] at hat
  simp only [← hbl, ← hl0] at hLc
  subst hat
  have hs := Bx.start (F := .slice pf nf cf) (L := .slice (some ⟨bl, l0, none⟩) nl cl) hA
  have KN := Lib.hid kn; have HS := Lib.hid hs; have HLC := Lib.hid hLc; have HH := Lib.hid hh
  have hjz : (j : Int) < (nl : Int) := by omega
  clear kn hs hLc hh hX hP hM hZ1 hZ2 hA hv hnf hnl hpl hcl hpf hcf hbl hl0 hf b1 b2 hp hm
  have hcase : (((Z1 : Int) == (p : Int)) = true ∧ X = ((Z2 : Int) == (m : Int))) ∨ (((Z1 : Int) == (p : Int)) = false ∧ X = false) := by
    by_cases h1 : Z1 = p
    · exact Or.inl ⟨by simp [h1], by rw [HH.out, decide_eq_true h1, Bool.true_and, Bool.eq_iff_iff]; simp; omega⟩
    · exact Or.inr ⟨by simp; omega, by rw [HH.out, decide_eq_false h1, Bool.false_and]⟩
  clear HH
  rcases hcase with ⟨i1, rfl⟩ | ⟨i1, rfl⟩
  all_goals
    go_enter Tryd.func56, Tryd.ntmps56
    go_wp2_with fail
    refine (KN.out _ HS.out.i).mono ?_
    rintro e w1 ⟨rfl, hb1⟩
    have hx := HS.out.next hb1
    obtain ⟨c0, c1, hlt⟩ : w1.cell? ⟨w.heap.size, 0, none⟩ = some (.slice pf nf cf) ∧ w1.cell? ⟨w.heap.size, 1, none⟩ = some (.slice (some ⟨bl, l0, none⟩) nl cl) ∧ w.heap.size < w1.heap.size := ⟨hx.c0, hx.c1, hx.lt⟩
    obtain ⟨a1, a2⟩ := HLC.out w1 hx.i
    have HX := Lib.hid hx
    clear hx hb1
    go_wp2_with fail
    go_ret
    exact ⟨rfl, HX.out.below⟩
theorem r_has {A : Al} {r : Int} {p m : Nat} {W : World} (hp : p < 4294967296) (hm : m < 4294967296) (hr : r ∈ rowL A) (hc : aacR A p m = 0) (hA : A.In W) :
    Calls Tryd.prog 56 #[A.v, .int .i32 r, .int .u32 p, .int .u32 m] W fun e w' => e = .returned (.bool (decide (r ∈ clsR A p m))) ∧ Below W.heap.size W w' := by
  rcases fnd_findL A.ls r with ⟨h1, h2⟩ | ⟨j, hj, h1, h2⟩
  · have := fnd_neg A r
    rw [h2, decide_eq_true hr] at this
    exact absurd this (by decide)
  · have hh := has_mem hr hc
    have hok := aacR_ok0 hc
    have ho : ofR A r = (A.ls.getD j default, 0) := by unfold ofR lofR; rw [hok, h1]; rfl
    have hcl : clsB A.fs.length p m = true := by
      rw [aacR_ok hok] at hc
      cases h : clsB A.fs.length p m with
      | true => rfl
      | false => rw [h] at hc; simp at hc
    rw [hasR_ok (by rw [lacR_ok (by rw [ho]) hcl]), lacR_ok (by rw [ho]) hcl, ho] at hh
    have h3 := congrArg Prod.fst hh
    simp only [] at h3
    have := rhas3_any A r p m j W hA hp hm hj h2
    rw [h3] at this
    exact this

set_option maxHeartbeats 4000000 in
set_option maxRecDepth 100000 in
theorem rpeaks_any (A : Al) (s : ByteArray) (p m : Nat) (w : World) (hA : A.In w) (hT : Tabs w) (hp : p < 4294967296) (hm : m < 4294967296) (hs : s.size ≤ 9223372036854775807) :
    Calls Tryd.prog 29 #[A.v, .string s, .int .u32 p, .int .u32 m] w (PksPost (pkL A s p m) (pkE A s p m) w) := by
  unfold PksPost
  have k1 := fun W hA hT => rletters_any A s W hA hT hs
  unfold LetPost at k1
  have k2 := fun W hA (_ : Tabs W) => rclass_any A p m W hA hp hm
  unfold ClsPost at k2
  by_cases h : letE A s = 0
  · rw [h] at k1
    by_cases hc : aacR A p m = 0
    · have he : pkE A s p m = 0 := by unfold pkE; rw [if_pos h, hc]
      have hl : pkL A s p m = pkT (letL A s) (clsR A p m) (letL A s).length := by unfold pkL; rw [if_pos he]
      rw [he, hl]
      rw [hc] at k2
      have f1 := let_word h
      have h260 := letL_len A s
      have hors := fun (W : World) (B : Nat) (v : Value) (h : W.ownsRow B 21 1 v (letL A s).length ((letL A s).map E32)) => own_rs h (by omega)
      obtain ⟨l, hl'⟩ : ∃ l, l = letL A s := ⟨_, rfl⟩
      rw [← hl'] at k1 hors h260 f1 ⊢
      have k3 : ∀ i, i < l.length → ∀ W, A.In W → Calls Tryd.prog 56 #[A.v, .int .i32 (l.getD i 0), .int .u32 p, .int .u32 m] W fun e w' => e = .returned (.bool (decide (l.getD i 0 ∈ clsR A p m))) ∧ Below W.heap.size W w' := fun i hi W hA =>
        r_has (W := W) hp hm (r := l.getD i 0) (f1.wd.mem _ (by rw [getD_at hi]; exact List.getElem_mem hi)) hc hA
      obtain ⟨C, hC⟩ : ∃ C, C = clsR A p m := ⟨_, rfl⟩
      rw [← hC] at k2 k3 ⊢
      obtain ⟨n, hn'⟩ : ∃ n, n = l.length := ⟨_, rfl⟩
      obtain ⟨nc, hnc⟩ : ∃ n, n = C.length := ⟨_, rfl⟩
      rw [← hn'] at k1 k3 hors h260 ⊢
      rw [← hnc] at k2
      obtain ⟨pf, pl, nf, cf, nl, cl, hv, hnf, hnl, hpl, hcl, hpf, hcf⟩ := A.parts
      rw [hv] at k1 k2 k3 ⊢
      obtain ⟨i0, hi, hz0, hz1, hz2⟩ := info_parts int_info
      have HI0 := Lib.hid hi; have HZ0 := Lib.hid hz0; have HZ1 := Lib.hid hz1; have HZ2 := Lib.hid hz2
      have K1 := Lib.hid k1; have K2 := Lib.hid k2; have K3 := Lib.hid k3; have HORS := Lib.hid hors; have HN := Lib.hid hn'
      have hsx := Wx.start (F := .slice pf nf cf) (L := .slice pl nl cl) hA hT
      have HS := Lib.hid hsx
      clear k1 k2 k3 hors hn' hnc hl' hC he hl f1 hA hT hv hnf hnl hpl hcl hpf hcf h hc hsx hi hz0 hz1 hz2 hp hm hs
      go_enter Tryd.func29, Tryd.ntmps29
      go_wp2_with fail
      refine (K1.out _ (HS.out).i (HS.out).t).mono ?_
      rintro _ w1 ⟨v, rfl, ho, hb⟩
      have hs := (HS.out).next hb
      obtain ⟨c0, c1, hlt⟩ : w1.cell? ⟨w.heap.size, 0, none⟩ = some (.slice pf nf cf) ∧ w1.cell? ⟨w.heap.size, 1, none⟩ = some (.slice pl nl cl) ∧ w.heap.size < w1.heap.size := ⟨hs.c0, hs.c1, hs.lt⟩
      clear HS
      have HS := Lib.hid hs
      obtain ⟨lp, lb, lc, rfl, hrl⟩ := HORS.out _ _ _ ho
      have HRL := Lib.hid hrl
      clear hs hb ho hrl HORS
      go_wp2_with fail
      refine (K2.out _ (HS.out).i (HS.out).t).mono ?_
      rintro _ w2 ⟨v2, rfl, ho, hb⟩
      have hs := (HS.out).next hb
      obtain ⟨c0, c1, hlt⟩ : w2.cell? ⟨w.heap.size, 0, none⟩ = some (.slice pf nf cf) ∧ w2.cell? ⟨w.heap.size, 1, none⟩ = some (.slice pl nl cl) ∧ w.heap.size < w2.heap.size := ⟨hs.c0, hs.c1, hs.lt⟩
      clear HS
      have HS := Lib.hid hs
      obtain ⟨o2, c2, rfl⟩ := own_shape ho
      have HRL2 := Lib.hid (HRL.out.next hb)
      clear hs hb ho HRL c0 c1 hlt
      go_wp2_with fail
      go_loopw [12, 13] (fun v iv wr => ∃ k : Nat, iv = .int .i64 k ∧ k ≤ n ∧ Hid (wr.ownsRow w2.heap.size 3 1 v (pkT l C k).length ((pkT l C k).map E64)) ∧ Hid (Below w2.heap.size w2 wr)) (fun _ iv _ => n - (intOf iv).toNat)
      case atStart => exact ⟨0, rfl, Nat.zero_le _, World.ownsRow_nil _ _ _ _, Below.refl _ _⟩
      case round =>
        obtain ⟨k, rfl, hk, HO, HBr⟩ := hrel
        have hszr := HBr.out.size
        have hx := HS.out.next HBr.out
        obtain ⟨c0, c1, hlt⟩ : wr.cell? ⟨w.heap.size, 0, none⟩ = some (.slice pf nf cf) ∧ wr.cell? ⟨w.heap.size, 1, none⟩ = some (.slice pl nl cl) ∧ w.heap.size < wr.heap.size := ⟨hx.c0, hx.c1, hx.lt⟩
        have HX := Lib.hid hx
        clear hx
        obtain ⟨oo, co, rfl⟩ := own_shape HO.out
        by_cases hkn : k < n
        · have hkl : k < l.length := by rw [← HN.out]; exact hkn
          obtain rfl := HRL2.out.at_ (by omega)
          have a0 := (HRL2.out.next HBr.out).cells k hkl
          rw [Nat.zero_add] at a0
          have hle := pkT_le l C k
          have hy := pkT_yes (l := l) (C := C) (k := k)
          have hno := pkT_no (l := l) (C := C) (k := k)
          have k3 := K3.out k hkn
          obtain ⟨q, hq⟩ : ∃ q, q = l.getD k 0 := ⟨_, rfl⟩
          rw [← hq] at a0 hy hno k3
          obtain ⟨b, hb0⟩ : ∃ b, b = decide (q ∈ C) := ⟨_, rfl⟩
          rw [← hb0] at k3
          have K3k := Lib.hid k3
          have hy' : b = true → pkT l C (k + 1) = pkT l C k ++ [k] := fun h => hy (of_decide_eq_true (by rw [← hb0, h]))
          have hno' : b = false → pkT l C (k + 1) = pkT l C k := fun h => hno (of_decide_eq_false (by rw [← hb0, h]))
          have HY := Lib.hid hy'; have HNo := Lib.hid hno'
          obtain ⟨len, hlen⟩ : ∃ x, x = (pkT l C k).length := ⟨_, rfl⟩
          rw [← hlen] at HO hle ⊢
          have HLEN := Lib.hid hlen
          clear k3 hy hno hy' hno' hq hb0 hkl hlen
          go_upto_region 11 with fail
          go_cut [46] from 33 to 50 (fun s46 wc => s46 = .bool b ∧ Hid (Below wr.heap.size wr wc))
          case first =>
            go_region_with (go_at_call 56; refine (K3k.out _ (HX.out.i.next (by first | exact Below.refl _ _ | exact (Below.refl _ _).drew))).mono ?_; rintro e w' ⟨rfl, hb⟩; have HBq := Lib.hid hb; clear hb)
            all_goals
              go_wp2_with fail
              go_meet
              exact ⟨rfl, by first | exact HBq.out | exact (Below.refl _ _).drew.trans HBq.out⟩
          case rest =>
            obtain ⟨rfl, HBc⟩ := hcut
            have HO2 := Lib.hid (own_below HO.out HBc.out)
            have HB2 := Lib.hid (HBr.out.trans (HBc.out.mono hszr))
            have hszc := HB2.out.size
            clear HO HX HBc c0 c1 hlt a0 K3k
            cases b with
            | true =>
              go_wp2_with (at_builtin; refine wpList_append_own _ rfl (.tmp 47) (.tmp 49) 45 rfl w2.heap.size 3 i0 (.int .i64 0) 1 8 Tryd.underlying45 HI0.out HZ0.out HZ1.out HZ2.out rfl (by decide) _ _ _ rfl (HO2.out.alloc _) ⟨wc.heap.size, 0, none⟩ 1 1 [.int .i64 k] rfl rfl ?c1 ?c2 ?c3 ?c4 ?c5 ?_)
              case c2 => first | rfl | (intro u hu; simp at hu; subst hu; rfl)
              case c3 => unfold maxLen; omega
              case c4 => omega
              case c5 => first | omega | (simp; omega)
              intro v3 w4 hown3 hgrow3 hnil3
              have hob : ∀ q, (Value.slice oo len co).ownBlock = some q → w2.heap.size ≤ q := fun q hq => (HO2.out.lt q hq).1
              have hB3 : Below w2.heap.size w2 w4 := (HB2.out.alloc (by omega) _).grown hgrow3 (by simp; omega) hob
              have hO3 : w4.ownsRow w2.heap.size 3 1 v3 (pkT l C (k + 1)).length ((pkT l C (k + 1)).map E64) := by
                rw [HY.out trivial, List.length_append, ← HLEN.out, List.map_append]
                exact hown3
              have HB3 := Lib.hid hB3; have HO3 := Lib.hid hO3
              clear hob hB3 hown3 hgrow3 hnil3 hO3
              go_wp2_with fail
              go_roundw
              case rel => exact ⟨k + 1, by go_num, by omega, HO3, HB3⟩
              case measure => simp [intOf]; omega
            | false =>
              go_wp2_with fail
              go_roundw
              case rel => exact ⟨k + 1, by go_num, by omega, (show World.ownsRow _ _ _ _ _ _ _ by rw [HNo.out rfl, ← HLEN.out]; exact HO2.out), HB2⟩
              case measure => simp [intOf]; omega
        · have hkn' : k = n := by omega
          go_wp2_with fail
          go_ret2
          refine ⟨_, rfl, ?_, HX.out.below⟩
          rw [← hkn']
          exact own_base HO.out HS.out.below.size
    · have he : pkE A s p m = aacR A p m := by unfold pkE; rw [if_pos h]
      have hl : pkL A s p m = [] := by unfold pkL; rw [he, if_neg hc]
      rw [he, hl]
      obtain ⟨n, hn'⟩ : ∃ n, n = (letL A s).length := ⟨_, rfl⟩
      obtain ⟨E, hE⟩ : ∃ E, E = aacR A p m := ⟨_, rfl⟩
      obtain ⟨C, hC⟩ : ∃ C, C = clsR A p m := ⟨_, rfl⟩
      rw [← hn'] at k1
      rw [← hE, ← hC] at k2
      rw [← hE] at hc ⊢
      have e1 : (E == 0) = false := by simp [hc]
      have e2 : (E != 0) = true := by simp [hc]
      obtain ⟨pf, pl, nf, cf, nl, cl, hv, hnf, hnl, hpl, hcl, hpf, hcf⟩ := A.parts
      rw [hv] at k1 k2 ⊢
      have K1 := Lib.hid k1; have K2 := Lib.hid k2
      have hsx := Wx.start (F := .slice pf nf cf) (L := .slice pl nl cl) hA hT
      have HS := Lib.hid hsx
      clear k1 k2 hn' hE hC he hl hA hT hv hnf hnl hpl hcl hpf hcf h hc hsx hp hm hs
      go_enter Tryd.func29, Tryd.ntmps29
      go_wp2_with fail
      refine (K1.out _ (HS.out).i (HS.out).t).mono ?_
      rintro _ w1 ⟨v, rfl, ho, hb⟩
      have hs := (HS.out).next hb
      obtain ⟨c0, c1, hlt⟩ : w1.cell? ⟨w.heap.size, 0, none⟩ = some (.slice pf nf cf) ∧ w1.cell? ⟨w.heap.size, 1, none⟩ = some (.slice pl nl cl) ∧ w.heap.size < w1.heap.size := ⟨hs.c0, hs.c1, hs.lt⟩
      clear HS
      have HS := Lib.hid hs
      obtain ⟨o, c, rfl⟩ := own_shape ho
      clear hs hb ho
      go_wp2_with fail
      refine (K2.out _ (HS.out).i (HS.out).t).mono ?_
      rintro _ w2 ⟨v2, rfl, ho, hb⟩
      have hs := (HS.out).next hb
      obtain ⟨c0, c1, hlt⟩ : w2.cell? ⟨w.heap.size, 0, none⟩ = some (.slice pf nf cf) ∧ w2.cell? ⟨w.heap.size, 1, none⟩ = some (.slice pl nl cl) ∧ w.heap.size < w2.heap.size := ⟨hs.c0, hs.c1, hs.lt⟩
      clear HS
      have HS := Lib.hid hs
      obtain ⟨o2, c2, rfl⟩ := own_shape ho
      clear hs hb ho
      go_wp2_with fail
      go_ret2
      exact ⟨.slice none 0 0, rfl, World.ownsRow_nil _ _ _ _, HS.out.below⟩
  · have he : pkE A s p m = letE A s := by unfold pkE; rw [if_neg h]
    have hl : pkL A s p m = [] := by unfold pkL; rw [he, if_neg h]
    rw [he, hl]
    rw [letL_no h] at k1
    obtain ⟨E, hE⟩ : ∃ E, E = letE A s := ⟨_, rfl⟩
    obtain ⟨pf, pl, nf, cf, nl, cl, hv, hnf, hnl, hpl, hcl, hpf, hcf⟩ := A.parts
    rw [hv] at k1 ⊢
    rw [← hE] at k1 h ⊢
    have e1 : (E == 0) = false := by simp [h]
    have e2 : (E != 0) = true := by simp [h]
    have K1 := Lib.hid k1
    have hsx := Wx.start (F := .slice pf nf cf) (L := .slice pl nl cl) hA hT
    have HS := Lib.hid hsx
    clear k1 k2 hA hT hv hnf hnl hpl hcl hpf hcf hE h he hl hsx hs hp hm
    go_enter Tryd.func29, Tryd.ntmps29
    go_wp2_with fail
    refine (K1.out _ (HS.out).i (HS.out).t).mono ?_
    rintro _ w1 ⟨v, rfl, ho, hb⟩
    have hs := (HS.out).next hb
    obtain ⟨c0, c1, hlt⟩ : w1.cell? ⟨w.heap.size, 0, none⟩ = some (.slice pf nf cf) ∧ w1.cell? ⟨w.heap.size, 1, none⟩ = some (.slice pl nl cl) ∧ w.heap.size < w1.heap.size := ⟨hs.c0, hs.c1, hs.lt⟩
    clear HS
    have HS := Lib.hid hs
    obtain ⟨o, c, rfl⟩ := own_shape ho
    clear hs hb ho
    go_wp2_with fail
    go_ret2
    exact ⟨.slice none 0 0, rfl, World.ownsRow_nil _ _ _ _, HS.out.below⟩
end Go.Proofs.YtcibjgkifafohaaDoor
