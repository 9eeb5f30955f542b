/-
  WALKS: cognateref02.asked of no letters, Class.
-/
import Derived.Test.YtmbekgfbnapelaaRfB
namespace Go.Proofs.Ytmbekgfbnapelaa
open Go.RowKit Go.Lib
set_option linter.unusedVariables false

theorem Bx.grown {A : Al} {F L : Value} {w : World} {b : Nat} {wk w' : World} {r : Option Nat} (h : Bx A F L w b wk) (hg : wk.grownBy w' r) (hr : ∀ q, r = some q → w.heap.size ≤ q ∧ q ≠ b) (hA : ∀ W, Below w.heap.size w W → A.In W) : Bx A F L w b w' := by
  have hB : Below w.heap.size w w' := h.below.grown hg h.below.size (fun q hq => (hr q hq).1)
  have hne : some b ≠ r := fun e => (hr b e.symm).2 rfl
  exact ⟨hA w' hB, hg.cell h.c0 hne, hg.cell h.c1 hne, hB, Nat.lt_of_lt_of_le h.lt hg.size⟩
theorem grownF_step {a b c : World} {r r' : Option Nat} (h : a.grownBy b r) (k : b.grownBy c r') (hr : ∀ q, r' = some q → r = some q) : a.grownBy c r :=
  ⟨k.os.trans h.os, k.tape.trans h.tape, k.output.trans h.output, Nat.le_trans h.size k.size, fun i hi hne => (k.block i (Nat.lt_of_lt_of_le hi h.size) (fun e => hne (hr i e.symm).symm)).trans (h.block i hi hne)⟩
theorem ownF_base {w : World} {B B' e size n : Nat} {v : Value} {xs : List Value} (h : w.ownsRow B' e size v n xs) (hB : B ≤ B') : w.ownsRow B e size v n xs :=
  ⟨h.1, h.2.imp id (fun ⟨g, cap, cur, a, b, c⟩ => ⟨g, cap, cur, a, Nat.le_trans hB b, c⟩)⟩

set_option maxHeartbeats 1000000 in
set_option maxRecDepth 100000 in
theorem rasked_nil (A : Al) (w : World) (hA : A.In w) : Calls Try.prog 65 #[A.v, .slice none 0 0] w (RchkPost (chk A) w) := by
  have kc := fun W h => rcheck_any A W h
  unfold RchkPost at kc ⊢
  have h70 : chk A = 0 ∨ chk A = 7 := by
    cases hok : A.ok with
    | true => exact Or.inl (chk_ok hok)
    | false => exact Or.inr (chk_no hok)
  obtain ⟨C, hC⟩ : ∃ C, C = chk A := ⟨_, rfl⟩
  rw [← hC] at kc h70 ⊢
  obtain ⟨pf, pl, nf, cf, nl, cl, hv, hnf, hnl, hpl, hcl, hpf, hcf⟩ := A.parts
  rw [hv] at kc ⊢
  have KC := Lib.hid kc; have HA := Lib.hid hA
  clear kc hA hv hnf hnl hpl hcl hpf hcf hC
  rcases h70 with rfl | rfl
  · go_enter Try.func65, Try.ntmps65
    go_wp2_with fail
    refine (KC.out _ (HA.out.alloc _)).mono ?_
    rintro e w1 ⟨rfl, hb1⟩
    have HB := Lib.hid (show Below w.heap.size w w1 from ((Below.refl _ _).alloc (Nat.le_refl _) _).trans (hb1.mono (by simp)))
    clear hb1
    go_wp2_with fail
    go_loop [5] (fun iv => iv = .int .i64 0) (fun _ => 0)
    case atStart => rfl
    case round =>
      obtain rfl := hrel
      go_wp2_with fail
      go_ret
      exact ⟨rfl, HB.out⟩
  · go_enter Try.func65, Try.ntmps65
    go_wp2_with fail
    refine (KC.out _ (HA.out.alloc _)).mono ?_
    rintro e w1 ⟨rfl, hb1⟩
    have HB := Lib.hid (show Below w.heap.size w w1 from ((Below.refl _ _).alloc (Nat.le_refl _) _).trans (hb1.mono (by simp)))
    clear hb1
    go_wp2_with fail
    go_ret
    exact ⟨rfl, HB.out⟩

set_option maxHeartbeats 4000000 in
set_option maxRecDepth 100000 in
theorem rclass_any (A : Al) (p m : Nat) (w : World) (hA : A.In w) (hp : p < 4294967296) (hm : m < 4294967296) :
    Calls Try.prog 19 #[A.v, .int .u32 p, .int .u32 m] w (ClsPost A p m w) := by
  unfold ClsPost
  have ka := fun W h => rasked_nil A W h
  unfold RchkPost at ka
  cases hok : A.ok with
  | false =>
    have hc : aacR A p m = 7 := aacR_no hok
    have hr : clsR A p m = [] := by unfold clsR; rw [hc, if_neg (by decide)]
    rw [hc, hr]
    rw [chk_no hok] at ka
    obtain ⟨pf, pl, nf, cf, nl, cl, hv, hnf, hnl, hpl, hcl, hpf, hcf⟩ := A.parts
    rw [hv] at ka ⊢
    have KA := Lib.hid ka; have HA := Lib.hid hA
    clear ka hA hv hnf hnl hpl hcl hpf hcf hc hr hok
    go_enter Try.func19, Try.ntmps19
    go_wp2_with fail
    refine (KA.out _ (HA.out.alloc _)).mono ?_
    rintro e w1 ⟨rfl, hb1⟩
    have HB := Lib.hid (show Below w.heap.size w w1 from ((Below.refl _ _).alloc (Nat.le_refl _) _).trans (hb1.mono (by simp)))
    clear hb1
    go_wp2_with fail
    go_ret2
    exact ⟨.slice none 0 0, rfl, World.ownsRow_nil _ _ _ _, HB.out⟩
  | true =>
    rw [chk_ok hok] at ka
    have h24 := Al.ok24 hok
    have km : ∀ W, Calls Try.prog 67 #[A.v, .int .u32 p, .int .u32 m] W fun e w' => e = .returned (.bool (clsB A.fs.length p m)) ∧ Below W.heap.size W w' := fun W => rmay_any A.pf A.pl A.cf A.fs.length A.ls.length A.cl p m W h24 hp hm
    have haac := aacR_ok (p := p) (m := m) hok
    cases hcb : clsB A.fs.length p m with
    | false =>
      rw [hcb] at km
      have hc : aacR A p m = 20 := by rw [haac, hcb]; rfl
      have hr : clsR A p m = [] := by unfold clsR; rw [hc, if_neg (by decide)]
      rw [hc, hr]
      obtain ⟨pf, pl, nf, cf, nl, cl, hv, hnf, hnl, hpl, hcl, hpf, hcf⟩ := A.parts
      rw [hv] at ka km ⊢
      have hs := Bx.start (F := .slice pf nf cf) (L := .slice pl nl cl) hA
      have KA := Lib.hid ka; have KM := Lib.hid km; have HS := Lib.hid hs
      clear ka km hA hs hv hnf hnl hpl hcl hpf hcf hc hr hok h24 haac hcb
      go_enter Try.func19, Try.ntmps19
      go_wp2_with fail
      refine (KA.out _ HS.out.i).mono ?_
      rintro e w1 ⟨rfl, hb1⟩
      have hx := HS.out.next hb1
      obtain ⟨c0, c1, hlt⟩ : w1.cell? ⟨w.heap.size, 0, none⟩ = some (.slice pf nf cf) ∧ w1.cell? ⟨w.heap.size, 1, none⟩ = some (.slice pl nl cl) ∧ w.heap.size < w1.heap.size := ⟨hx.c0, hx.c1, hx.lt⟩
      have HX := Lib.hid hx
      clear hx hb1
      go_wp2_with fail
      refine (KM.out _).mono ?_
      rintro e w2 ⟨rfl, hb2⟩
      have HB := Lib.hid (HX.out.below.trans (hb2.mono HX.out.below.size))
      clear hb2
      go_wp2_with fail
      go_ret2
      exact ⟨.slice none 0 0, rfl, World.ownsRow_nil _ _ _ _, HB.out⟩
    | true =>
      rw [hcb] at km
      have hc : aacR A p m = 0 := by rw [haac, hcb]; rfl
      have hr : clsR A p m = clsL A.ls p m := by unfold clsR; rw [if_pos hc]
      rw [hc, hr]
      have hlen := Al.ok_ltrs hok
      have hLc := fun (wk : World) (h : A.In wk) => h.L
      have hbits := fun j hj => hA.L.get j hj
      obtain ⟨pf, pl, nf, cf, nl, cl, hv, hnf, hnl, hpl, hcl, hpf, hcf⟩ := A.parts
      rw [hv] at ka km ⊢
      obtain ⟨ls, hls⟩ : ∃ l, l = A.ls := ⟨_, rfl⟩
      obtain ⟨bl, hbl⟩ : ∃ l, l = A.bl := ⟨_, rfl⟩
      obtain ⟨l0, hl0⟩ : ∃ l, l = A.l0 := ⟨_, rfl⟩
      rw [← hpl, ← hbl, ← hl0, ← hls] at hLc
      rw [← hls] at hbits hlen hnl ⊢
      rw [← hnl] at hlen hbits
      have kl := fun i (hi : i < nl) w => rlike_any (ls.getD i default) p m w ⟨(hbits i hi).1, (hbits i hi).2.1⟩ hp hm
      obtain ⟨i0, hi, hz0, hz1, hz2⟩ := info_parts rune_info
      have HI0 := Lib.hid hi; have HZ0 := Lib.hid hz0; have HZ1 := Lib.hid hz1; have HZ2 := Lib.hid hz2
      have hbase : ∀ W, Below w.heap.size w W → A.In W := fun W hb => hA.next hb
      have hs := Bx.start (F := .slice pf nf cf) (L := .slice pl nl cl) hA
      have KA := Lib.hid ka; have KM := Lib.hid km; have HS := Lib.hid hs; have HLc := Lib.hid hLc; have KL := Lib.hid kl; have HNL := Lib.hid hnl; have HBASE := Lib.hid hbase
      obtain ⟨hl1, hl128⟩ := hlen
      clear ka km hA hs hLc kl hnl hbase hv hnf hpl hcl hpf hcf hc hr hok h24 haac hcb hls hbl hl0 hbits hi hz0 hz1 hz2
      go_enter Try.func19, Try.ntmps19
      go_wp2_with fail
      refine (KA.out _ HS.out.i).mono ?_
      rintro e w1 ⟨rfl, hb1⟩
      have hx := HS.out.next hb1
      obtain ⟨c0, c1, hlt⟩ : w1.cell? ⟨w.heap.size, 0, none⟩ = some (.slice pf nf cf) ∧ w1.cell? ⟨w.heap.size, 1, none⟩ = some (.slice pl nl cl) ∧ w.heap.size < w1.heap.size := ⟨hx.c0, hx.c1, hx.lt⟩
      have HX := Lib.hid hx
      clear hx hb1
      go_wp2_with fail
      refine (KM.out _).mono ?_
      rintro e w2 ⟨rfl, hb2⟩
      have HX2 := Lib.hid (HX.out.next hb2)
      clear hb2 HX HS KA KM c0 c1 hlt
      go_wp2_with fail
      go_loopw [9, 10] (fun v iv wr => ∃ k : Nat, iv = .int .i64 k ∧ k ≤ nl ∧ Hid (wr.ownsRow (w.heap.size + 1) 21 1 v (clsL (ls.take k) p m).length ((clsL (ls.take k) p m).map E32)) ∧ Hid (Bx A (.slice pf nf cf) (.slice pl nl cl) w w.heap.size wr)) (fun _ iv _ => nl - (intOf iv).toNat)
      case atStart => exact ⟨0, rfl, Nat.zero_le _, World.ownsRow_nil _ _ _ _, HX2⟩
      case round =>
        clear HX2
        obtain ⟨k, rfl, hk, HO, HX⟩ := hrel
        obtain ⟨c0, c1, hlt⟩ : wr.cell? ⟨w.heap.size, 0, none⟩ = some (.slice pf nf cf) ∧ wr.cell? ⟨w.heap.size, 1, none⟩ = some (.slice pl nl cl) ∧ w.heap.size < wr.heap.size := ⟨HX.out.c0, HX.out.c1, HX.out.lt⟩
        obtain ⟨oo, co, rfl⟩ := ownF_shape HO.out
        by_cases hkn : k < nl
        · have hll : k < ls.length := by rw [← HNL.out]; exact hkn
          obtain rfl := (HLc.out wr HX.out.i).at_ (by omega)
          have a0 := (HLc.out wr HX.out.i).cr k hll
          have a1 := (HLc.out wr HX.out.i).cp k hll
          have a2 := (HLc.out wr HX.out.i).cm k hll
          have kl := KL.out k hkn
          have hlk := clsL_le ls p m k
          have hyes := clsL_snoc_yes ls p m k hll
          have hno := clsL_snoc_no ls p m k hll
          have hcr2 := fun wq (h : A.In wq) => (HLc.out wq h).cr k hll
          obtain ⟨len, hlenn⟩ : ∃ x, x = (clsL (ls.take k) p m).length := ⟨_, rfl⟩
          rw [← hlenn] at HO hlk ⊢
          obtain ⟨R, hR⟩ : ∃ q, q = (ls.getD k default).r := ⟨_, rfl⟩
          obtain ⟨Pp, hPp⟩ : ∃ q, q = (ls.getD k default).p := ⟨_, rfl⟩
          obtain ⟨Mm, hMm⟩ : ∃ q, q = (ls.getD k default).m := ⟨_, rfl⟩
          rw [← hR] at a0 kl hyes
          rw [← hPp] at a1 kl
          rw [← hMm] at a2 kl
          simp only [← hR] at hcr2
          obtain ⟨b, hb⟩ : ∃ b, b = hasB (ls.getD k default) p m := ⟨_, rfl⟩
          rw [← hb] at kl hyes hno
          have KLk := Lib.hid kl; have HY := Lib.hid hyes; have HNo := Lib.hid hno; have HCR := Lib.hid hcr2; have HLEN := Lib.hid hlenn
          clear kl hyes hno hcr2 hlenn hR hPp hMm hb hll
          cases b with
          | false =>
            go_wp2_with fail
            refine (KLk.out _).mono ?_
            rintro e w3 ⟨rfl, hb3⟩
            have HO3 := Lib.hid (ownF_below HO.out hb3)
            have HX3 := Lib.hid (HX.out.next hb3)
            clear hb3
            go_wp2_with fail
            go_roundw
            case rel => exact ⟨k + 1, by go_num, by omega, (show World.ownsRow _ _ _ _ _ _ _ by rw [HNo.out trivial, ← HLEN.out]; exact HO3.out), HX3⟩
            case measure => simp [intOf]; omega
          | true =>
            go_wp2_with fail
            refine (KLk.out _).mono ?_
            rintro e w3 ⟨rfl, hb3⟩
            have HO3 := Lib.hid (ownF_below HO.out hb3)
            have hx3 := HX.out.next hb3
            have HX3 := Lib.hid hx3
            obtain ⟨c0', c1', hlt'⟩ : w3.cell? ⟨w.heap.size, 0, none⟩ = some (.slice pf nf cf) ∧ w3.cell? ⟨w.heap.size, 1, none⟩ = some (.slice (some ⟨bl, l0, none⟩) nl cl) ∧ w.heap.size < w3.heap.size := ⟨hx3.c0, hx3.c1, hx3.lt⟩
            have a0' := HCR.out w3 hx3.i
            clear hb3 hx3
            go_wp2_with (at_builtin; refine wpList_append_own _ rfl (.tmp 36) (.tmp 43) 33 rfl (w.heap.size + 1) 21 i0 (.int .i32 0) 1 4 Try.underlying33 HI0.out HZ0.out HZ1.out HZ2.out rfl (by decide) _ _ _ rfl (HO3.out.alloc _) ⟨w3.heap.size, 0, none⟩ 1 1 [.int .i32 R] rfl rfl ?c1 ?c2 ?c3 ?c4 ?c5 ?_)
            case c1 =>
              intro j u hj
              match j, hj with
              | 0, hj => simp at hj; subst hj; simp [Addr.add]
              | j + 1, hj => simp at hj
            case c2 => intro u hu; simp at hu; subst hu; rfl
            case c3 => unfold maxLen; omega
            case c4 => omega
            case c5 => simp; omega
            intro v4 w4 hown4 hgrow4 hnil4
            have hgb := grownF_step (World.grownBy_alloc w3 (.cells #[.int .i32 R] 21) (Value.slice oo len co).ownBlock) hgrow4 (fun q hq => hq)
            have hX4 := HX3.out.grown hgb (fun q hq => by have := (HO3.out.lt q hq).1; omega) HBASE.out
            have hO4 : w4.ownsRow (w.heap.size + 1) 21 1 v4 (clsL (ls.take (k + 1)) p m).length ((clsL (ls.take (k + 1)) p m).map E32) := by
              rw [HY.out trivial, List.length_append, ← HLEN.out, List.map_append]
              exact hown4
            have HX4 := Lib.hid hX4; have HO4 := Lib.hid hO4
            clear hgb hX4 hO4 hown4 hgrow4 hnil4
            go_wp2_with fail
            go_roundw
            case rel => exact ⟨k + 1, by go_num, by omega, HO4, HX4⟩
            case measure => simp [intOf]; omega
        · have hall : ls.take k = ls := List.take_of_length_le (by rw [← HNL.out]; omega)
          rw [hall] at HO
          rw [hall]
          go_wp2_with fail
          go_ret2
          exact ⟨_, rfl, ownF_base HO.out (Nat.le_succ _), HX.out.below⟩
end Go.Proofs.Ytmbekgfbnapelaa
