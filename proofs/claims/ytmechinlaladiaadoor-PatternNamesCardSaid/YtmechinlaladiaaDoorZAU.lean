/-
  WALKS of pattern's reader: bare.
  WALKS of pattern's reader: the closure of whole, by induction on the fuel.
  WALKS: pattern.rowOf, whole, Parse.
-/
import Derived.Test.YtmechinlaladiaaDoorZAT
import Derived.Test.YtmechinlaladiaaDoorZAQ
import Derived.Test.YtmechinlaladiaaDoorZAG
namespace Go.Proofs.YtmechinlaladiaaDoor
open Go.RowKit Go.Lib
set_option linter.unusedVariables false

/-- A node that a call answered, put into the caller's own box. -/
def LiftPost (C : RdC) (R : Rs) (v : Value) (ms : List NdM) (w : World) (e : Ending) (w' : World) : Prop :=
  ∃ (k r p m : Int) (o : Option Addr) (n c : Nat) (bb : Bool), e = .returned (.tuple #[.agg #[.int .u8 k, .int .i32 r, .int .u32 p, .int .u32 m, .slice o n c], .bool bb]) ∧ ZNode w.heap.size w' ∧
    ∀ u0 u1 u2 u3 u4, NodPost C R v ms w (.returned (.tuple #[.agg #[.int .u8 k, .int .i32 r, .int .u32 p, .int .u32 m, .slice o n c], .bool bb])) (((((w'.setCell ⟨w.heap.size, 0, none⟩ u0).setCell ⟨w.heap.size, 1, none⟩ u1).setCell ⟨w.heap.size, 2, none⟩ u2).setCell ⟨w.heap.size, 3, none⟩ u3).setCell ⟨w.heap.size, 4, none⟩ u4)
theorem Fresh.keep {C : RdC} {lo : Nat} {v' : Value} {M : NdM} {W W' : World} {X : Nat → Prop} (h : Fresh C lo v' M W) (hb : But X W W') (hx : ∀ k, X k → k < lo) : Fresh C lo v' M W' :=
  ⟨h.ks.keep hb (fun h0 e => by have := hx _ e; have := (h.fr h0).1; omega), h.ap, h.fr.keep hb (fun h0 e => by have := hx _ e; have := (h.fr h0).1; omega), h.ok⟩
theorem Fresh.mono {C : RdC} {lo lo' : Nat} {v' : Value} {M : NdM} {W : World} (h : Fresh C lo v' M W) (hl : lo' ≤ lo) : Fresh C lo' v' M W := ⟨h.ks, h.ap, h.fr.mono hl, h.ok⟩
theorem NodPost.lift {C : RdC} (ok : C.Ok) {R : Rs} {a : Nat} {v : Value} {ms : List NdM} {w W : World} {e : Ending} {w' : World} (h : RdAt C a v w) (hn : RdN C v ms w) (hb : Below w.heap.size w W) (hz : ZNode w.heap.size W) (hp : NodPost C R v ms W e w') : LiftPost C R v ms w e w' := by
  have hlt := blk_of_cell hz.c0
  have hS := RdS.start ok h hn hb (hi := w.heap.size + 1) (by omega) hlt
  have hx : ¬ (w.heap.size = C.RB ∨ v.ownBlock = some w.heap.size) := fun e => by
    rcases e with e | e
    · have := h.rlt; omega
    · have := (hn.out.own.lt _ e).2; omega
  cases R with
  | error b =>
    obtain ⟨he, v', hA, hB⟩ := hp
    refine ⟨0, 0, 0, 0, none, 0, 0, false, he, hz.keep hB hx, fun u0 u1 u2 u3 u4 => ?_⟩
    have hbt := but5 w.heap.size w' u0 u1 u2 u3 u4
    exact ⟨rfl, v', hA.keep ok hbt (fun k e => by
      have e' : k = w.heap.size := e
      have := hS.lo1
      exact ⟨by omega, fun f => by have := hS.loF k f; omega⟩), ((hS.but.trans hB (fun i hi e => e))).trans hbt (fun i hi e => by have e' : i = w.heap.size := e; omega)⟩
  | ok q =>
    obtain ⟨t, b⟩ := q
    obtain ⟨M, v', ms', he, hA, hG, hd, hl, hf⟩ := hp
    refine ⟨_, _, _, _, _, _, _, true, he, hz.keep hG.but hx, fun u0 u1 u2 u3 u4 => ?_⟩
    have hbt := but5 w.heap.size w' u0 u1 u2 u3 u4
    have hS2 := (hS.grow hA (by rw [List.append_nil]; exact hG)).loc ok hbt (fun k e => by omega)
    rw [List.nil_append] at hS2
    exact ⟨M, v', ms', rfl, hS2.at_, hS2.fin, hd, hl, (hf.keep hbt (fun k e => by have e' : k = w.heap.size := e; omega)).mono (by omega)⟩
theorem tak_nod {C : RdC} (ok : C.Ok) {a : Nat} {v : Value} {ms : List NdM} {W : World} (h : RdAt C a v W) (hn : RdN C v ms W) (ha : a < (starts C.s).length) (k : Nat) (kz r : Int) (hkz : kz = (k : Int)) (hk : k < 256) (hr : -2147483648 ≤ r ∧ r ≤ 2147483647) {R : Rs} (hR : R = .ok (.nd k r 0 0 .nil, a + 1)) :
    Calls Tryd.prog 50 #[.pointer (some ⟨C.RB, 0, none⟩), .agg #[.int .u8 kz, .int .i32 r, .int .u32 0, .int .u32 0, .slice none 0 0]] W (NodPost C R v ms W) := by
  subst hkz
  have hbig := starts_most C.s
  have hsize := ok.size
  have hS := RdS.start ok h hn (Below.refl _ _) (hi := W.heap.size) (Nat.le_refl _) (Nat.le_refl _)
  refine (taken_any C ok a v k r 0 0 none 0 0 W h (by omega)).mono ?_
  rintro e w' ⟨he, hA, hB⟩
  subst he
  exact NodPost.leaf k r 0 0 hk hr (by decide) (by decide) hR (hS.boxR hA hB)
theorem NodeIH.less {C : RdC} {F G : Nat} (h : NodeIH C F) (hg : G ≤ F) : NodeIH C G := fun f hf => h f (Nat.lt_of_lt_of_le hf hg)
set_option maxHeartbeats 4000000 in
set_option maxRecDepth 100000 in
theorem rbare_any (C : RdC) (ok : C.Ok) (F a : Nat) (ih : NodeIH C F) (v : Value) (ms : List NdM) (w : World) (h : RdAt C a v w) (hn : RdN C v ms w) (hl : ms.length ≤ a) (ha : a ≤ (starts C.s).length) (hF : 2 * ((starts C.s).length - a) + 1 ≤ F + 1) :
    Calls Tryd.prog 31 #[.pointer (some ⟨C.RB, 0, none⟩), C.fn] w (NodPost C (bareR C.A C.s (rdF C.A C.s F) a) v ms w) := by
  obtain ⟨R, hR⟩ : ∃ R, R = bareR C.A C.s (rdF C.A C.s F) a := ⟨_, rfl⟩
  rw [← hR]
  obtain ⟨W0, hW0⟩ : ∃ W0, W0 = w.alloc (.cells #[.int .u8 0, .int .i32 0, .int .u32 0, .int .u32 0, .slice none 0 0] 36) := ⟨_, rfl⟩
  have hB0 : Below w.heap.size w W0 := by rw [hW0]; exact (Below.refl _ _).alloc (Nat.le_refl _) _
  have hZ0 : ZNode w.heap.size W0 := by rw [hW0]; exact ZNode.new w _
  have hnx := next_any C ok a v W0 (h.next ok hB0) ha
  have hlift := fun W (hb : Below W0.heap.size W0 W) (f : FuncId) (args : Array Value) (hc : Calls Tryd.prog f args W (NodPost C R v ms W)) => hc.mono (fun e w' hp => NodPost.lift ok h hn (hB0.trans (hb.mono hB0.size)) (hZ0.next hb) hp)
  have hA := fun W (hb : Below W0.heap.size W0 W) => h.next ok (hB0.trans (hb.mono hB0.size))
  have hN := fun W (hb : Below W0.heap.size W0 W) => hn.next (hB0.trans (hb.mono hB0.size))
  have hbits := nxR_bits C.s a
  have htak : ∀ (k : Nat) (kz r : Int), kz = (k : Int) → k < 256 → (-2147483648 ≤ r ∧ r ≤ 2147483647) → a < (starts C.s).length → R = .ok (.nd k r 0 0 .nil, a + 1) → ∀ W, Below W0.heap.size W0 W → Calls Tryd.prog 50 #[.pointer (some ⟨C.RB, 0, none⟩), .agg #[.int .u8 kz, .int .i32 r, .int .u32 0, .int .u32 0, .slice none 0 0]] W (LiftPost C R v ms w) := fun k kz r h1 h2 h3 h4 h5 W hb => hlift W hb _ _ (tak_nod ok (hA W hb) (hN W hb) h4 k kz r h1 h2 h3 h5)
  have hseq : a < (starts C.s).length → R = rdF C.A C.s F (.seq []) (a + 1) → ∀ W, Below W0.heap.size W0 W → Calls Tryd.prog 47 #[.pointer (some ⟨C.RB, 0, none⟩), C.fn] W (LiftPost C R v ms w) := fun h1 h2 W hb => hlift W hb _ _ (by rw [h2]; exact rdseq_any C ok F a ih v ms W (hA W hb) (hN W hb) hl h1 (by omega))
  have hor : a < (starts C.s).length → R = orR C F a → ∀ W, Below W0.heap.size W0 W → Calls Tryd.prog 48 #[.pointer (some ⟨C.RB, 0, none⟩), C.fn] W (LiftPost C R v ms w) := fun h1 h2 W hb => hlift W hb _ _ (by rw [h2]; exact rdor_any C ok F a ih v ms W (hA W hb) (hN W hb) hl h1 (by omega))
  have hcls : a < (starts C.s).length → R = clsRd C.A C.s a → ∀ W, Below W0.heap.size W0 W → Calls Tryd.prog 49 #[.pointer (some ⟨C.RB, 0, none⟩)] W (LiftPost C R v ms w) := fun h1 h2 W hb => hlift W hb _ _ (by rw [h2]; exact rclass_rd C ok a v ms W (hA W hb) (hN W hb) h1)
  have hrow := fun W (hb : Below W0.heap.size W0 W) => has_rune C.rp C.rb 0 C.rc (clsR C.A 0 0) (nxR C.s a) W ((hA W hb).ro ok)
  have hc2 := fun W (hb : Below W0.heap.size W0 W) => (hA W hb).c2
  have hlt := h.rlt
  have hbad : R = .error a → ∀ W, Below W0.heap.size W0 W → ZNode w.heap.size W ∧ ∀ u0 u1 u2 u3 u4, NodPost C R v ms w (.returned (.tuple #[noNode, .bool false])) (((((W.setCell ⟨w.heap.size, 0, none⟩ u0).setCell ⟨w.heap.size, 1, none⟩ u1).setCell ⟨w.heap.size, 2, none⟩ u2).setCell ⟨w.heap.size, 3, none⟩ u3).setCell ⟨w.heap.size, 4, none⟩ u4) := fun hE W hb => by
    have hb2 := hB0.trans (hb.mono hB0.size)
    have hz := hZ0.next hb
    have hS := RdS.start ok h hn hb2 (hi := w.heap.size + 1) (by omega) (blk_of_cell hz.c0)
    exact ⟨hz, fun u0 u1 u2 u3 u4 => NodPost.bad hE (hS.loc ok (but5 w.heap.size W u0 u1 u2 u3 u4) (fun k e => by omega))⟩
  have hfn : C.fn = .func (.func 30) #[] #[.pointer (some ⟨C.PB, 0, none⟩), .pointer (some ⟨C.NB, 0, none⟩)] := rfl
  rw [hfn] at hseq hor ⊢
  have hnl : nxR C.s a ≠ -1 → a < (starts C.s).length := fun e => nxR_lt e
  have hpos : nxR C.s a ∈ clsR C.A 0 0 → a < (starts C.s).length := fun e => hnl (by have := clsR_pos e; omega)
  unfold bareR at hR
  obtain ⟨RB, hRB⟩ : ∃ b, b = C.RB := ⟨_, rfl⟩
  obtain ⟨x, hx⟩ : ∃ x, x = nxR C.s a := ⟨_, rfl⟩
  obtain ⟨nr, hnr⟩ : ∃ x, x = (clsR C.A 0 0).length := ⟨_, rfl⟩
  have horR : orR C F a = (if nxR C.s (a + 1) = 125 then .ok (.nd 7 0 0 0 .nil, a + 2) else rdF C.A C.s F (.or []) (a + 1)) := rfl
  rw [← hRB] at hnx htak hseq hor hcls hlt hc2 ⊢
  rw [← hx] at hnx hR hrow hbits hnl hpos
  rw [← hnr] at hrow hc2
  have HNX := Lib.hid hnx; have HR := Lib.hid hR; have HTAK := Lib.hid htak; have HSEQ := Lib.hid hseq; have HOR := Lib.hid hor; have HCLS := Lib.hid hcls; have HROW := Lib.hid hrow; have HC2 := Lib.hid hc2; have HBAD := Lib.hid hbad; have HNL := Lib.hid hnl; have HPOS := Lib.hid hpos; have HORR := Lib.hid horR; have HW0 := Lib.hid hW0; have HBITS := Lib.hid hbits
  clear hnx hR htak hseq hor hcls hrow hc2 hbad hnl hpos horR hlift hA hN hB0 hZ0 hW0 h hn hl ha hF hfn hRB hx hnr ih hbits
  by_cases c40 : x = 40
  · subst c40
    have HK := Lib.hid (HSEQ.out (HNL.out (by decide)) (by rw [HR.out, if_pos rfl]))
    clear HR HTAK HSEQ HOR HCLS HROW HC2 HBAD HNL HPOS HORR HBITS
    go_enter Tryd.func31, Tryd.ntmps31
    go_wp2_with fail
    rw [← HW0.out]
    (with_reducible refine (HNX.out).mono ?_)
    rintro e W ⟨rfl, hb1⟩
    have HC := Lib.hid (HK.out W hb1)
    clear hb1 HNX HK HW0
    go_wp2_with fail
    (with_reducible refine (HC.out).mono ?_)
    rintro e W2 ⟨k, r, p, m, o, n, c, bb, rfl, hz, hfin⟩
    obtain ⟨z0, z1, z2, z3, z4, f0, f1, f2, f3, f4⟩ := hz
    have HFIN := Lib.hid hfin
    clear hfin HC
    go_wp2_with fail
    refine bodyPost_ret (v := .tuple #[.agg #[.int .u8 k, .int .i32 r, .int .u32 p, .int .u32 m, .slice o n c], .bool bb]) (by simp [results, Tryd.results31, go_sem, *]) rfl ?_
    exact HFIN.out _ _ _ _ _
  by_cases c123 : x = 123
  · subst c123
    have HK := Lib.hid (HOR.out (HNL.out (by decide)) (by rw [HR.out, if_neg (by decide), if_pos rfl]; exact HORR.out.symm))
    clear HR HTAK HSEQ HOR HCLS HROW HC2 HBAD HNL HPOS HORR HBITS
    go_enter Tryd.func31, Tryd.ntmps31
    go_wp2_with fail
    rw [← HW0.out]
    (with_reducible refine (HNX.out).mono ?_)
    rintro e W ⟨rfl, hb1⟩
    have HC := Lib.hid (HK.out W hb1)
    clear hb1 HNX HK HW0
    go_wp2_with fail
    (with_reducible refine (HC.out).mono ?_)
    rintro e W2 ⟨k, r, p, m, o, n, c, bb, rfl, hz, hfin⟩
    obtain ⟨z0, z1, z2, z3, z4, f0, f1, f2, f3, f4⟩ := hz
    have HFIN := Lib.hid hfin
    clear hfin HC
    go_wp2_with fail
    refine bodyPost_ret (v := .tuple #[.agg #[.int .u8 k, .int .i32 r, .int .u32 p, .int .u32 m, .slice o n c], .bool bb]) (by simp [results, Tryd.results31, go_sem, *]) rfl ?_
    exact HFIN.out _ _ _ _ _
  by_cases c91 : x = 91
  · subst c91
    have HK := Lib.hid (HCLS.out (HNL.out (by decide)) (by rw [HR.out, if_neg (by decide), if_neg (by decide), if_pos rfl]))
    clear HR HTAK HSEQ HOR HCLS HROW HC2 HBAD HNL HPOS HORR HBITS
    go_enter Tryd.func31, Tryd.ntmps31
    go_wp2_with fail
    rw [← HW0.out]
    (with_reducible refine (HNX.out).mono ?_)
    rintro e W ⟨rfl, hb1⟩
    have HC := Lib.hid (HK.out W hb1)
    clear hb1 HNX HK HW0
    go_wp2_with fail
    (with_reducible refine (HC.out).mono ?_)
    rintro e W2 ⟨k, r, p, m, o, n, c, bb, rfl, hz, hfin⟩
    obtain ⟨z0, z1, z2, z3, z4, f0, f1, f2, f3, f4⟩ := hz
    have HFIN := Lib.hid hfin
    clear hfin HC
    go_wp2_with fail
    refine bodyPost_ret (v := .tuple #[.agg #[.int .u8 k, .int .i32 r, .int .u32 p, .int .u32 m, .slice o n c], .bool bb]) (by simp [results, Tryd.results31, go_sem, *]) rfl ?_
    exact HFIN.out _ _ _ _ _
  by_cases c126 : x = 126
  · subst c126
    have HK := Lib.hid (HTAK.out 1 1 0 rfl (by decide) (by decide) (HNL.out (by decide)) (by rw [HR.out, if_neg (by decide), if_neg (by decide), if_neg (by decide), if_pos rfl]))
    clear HR HTAK HSEQ HOR HCLS HROW HC2 HBAD HNL HPOS HORR HBITS
    go_enter Tryd.func31, Tryd.ntmps31
    go_wp2_with fail
    rw [← HW0.out]
    (with_reducible refine (HNX.out).mono ?_)
    rintro e W ⟨rfl, hb1⟩
    have HC := Lib.hid (HK.out W hb1)
    clear hb1 HNX HK HW0
    go_wp2_with fail
    (with_reducible refine (HC.out).mono ?_)
    rintro e W2 ⟨k, r, p, m, o, n, c, bb, rfl, hz, hfin⟩
    obtain ⟨z0, z1, z2, z3, z4, f0, f1, f2, f3, f4⟩ := hz
    have HFIN := Lib.hid hfin
    clear hfin HC
    go_wp2_with fail
    refine bodyPost_ret (v := .tuple #[.agg #[.int .u8 k, .int .i32 r, .int .u32 p, .int .u32 m, .slice o n c], .bool bb]) (by simp [results, Tryd.results31, go_sem, *]) rfl ?_
    exact HFIN.out _ _ _ _ _
  by_cases c46 : x = 46
  · subst c46
    have HK := Lib.hid (HTAK.out 4 4 0 rfl (by decide) (by decide) (HNL.out (by decide)) (by rw [HR.out, if_neg (by decide), if_neg (by decide), if_neg (by decide), if_neg (by decide), if_pos rfl]))
    clear HR HTAK HSEQ HOR HCLS HROW HC2 HBAD HNL HPOS HORR HBITS
    go_enter Tryd.func31, Tryd.ntmps31
    go_wp2_with fail
    rw [← HW0.out]
    (with_reducible refine (HNX.out).mono ?_)
    rintro e W ⟨rfl, hb1⟩
    have HC := Lib.hid (HK.out W hb1)
    clear hb1 HNX HK HW0
    go_wp2_with fail
    (with_reducible refine (HC.out).mono ?_)
    rintro e W2 ⟨k, r, p, m, o, n, c, bb, rfl, hz, hfin⟩
    obtain ⟨z0, z1, z2, z3, z4, f0, f1, f2, f3, f4⟩ := hz
    have HFIN := Lib.hid hfin
    clear hfin HC
    go_wp2_with fail
    refine bodyPost_ret (v := .tuple #[.agg #[.int .u8 k, .int .i32 r, .int .u32 p, .int .u32 m, .slice o n c], .bool bb]) (by simp [results, Tryd.results31, go_sem, *]) rfl ?_
    exact HFIN.out _ _ _ _ _
  by_cases c35 : x = 35
  · subst c35
    have HK := Lib.hid (HTAK.out 5 5 0 rfl (by decide) (by decide) (HNL.out (by decide)) (by rw [HR.out, if_neg (by decide), if_neg (by decide), if_neg (by decide), if_neg (by decide), if_neg (by decide), if_pos rfl]))
    clear HR HTAK HSEQ HOR HCLS HROW HC2 HBAD HNL HPOS HORR HBITS
    go_enter Tryd.func31, Tryd.ntmps31
    go_wp2_with fail
    rw [← HW0.out]
    (with_reducible refine (HNX.out).mono ?_)
    rintro e W ⟨rfl, hb1⟩
    have HC := Lib.hid (HK.out W hb1)
    clear hb1 HNX HK HW0
    go_wp2_with fail
    (with_reducible refine (HC.out).mono ?_)
    rintro e W2 ⟨k, r, p, m, o, n, c, bb, rfl, hz, hfin⟩
    obtain ⟨z0, z1, z2, z3, z4, f0, f1, f2, f3, f4⟩ := hz
    have HFIN := Lib.hid hfin
    clear hfin HC
    go_wp2_with fail
    refine bodyPost_ret (v := .tuple #[.agg #[.int .u8 k, .int .i32 r, .int .u32 p, .int .u32 m, .slice o n c], .bool bb]) (by simp [results, Tryd.results31, go_sem, *]) rfl ?_
    exact HFIN.out _ _ _ _ _
  have q40 : ((x : Int) == 40) = false := by simpa using c40
  have q123 : ((x : Int) == 123) = false := by simpa using c123
  have q91 : ((x : Int) == 91) = false := by simpa using c91
  have q126 : ((x : Int) == 126) = false := by simpa using c126
  have q46 : ((x : Int) == 46) = false := by simpa using c46
  have q35 : ((x : Int) == 35) = false := by simpa using c35
  by_cases hm : x ∈ clsR C.A 0 0
  · have HK := Lib.hid (HTAK.out 2 2 x rfl (by decide) (by have := HBITS.out; omega) (HPOS.out hm) (by rw [HR.out, if_neg c40, if_neg c123, if_neg c91, if_neg c126, if_neg c46, if_neg c35, if_pos hm]))
    have HM := Lib.hid (decide_eq_true hm)
    clear HR HTAK HSEQ HOR HCLS HBAD HNL HPOS HORR c40 c123 c91 c126 c46 c35 hm
    go_enter Tryd.func31, Tryd.ntmps31
    go_wp2_with fail
    rw [← HW0.out]
    (with_reducible refine (HNX.out).mono ?_)
    rintro e W ⟨rfl, hb1⟩
    have c2 := HC2.out W hb1
    have HCO := Lib.hid (HROW.out W hb1)
    rw [HM.out] at HCO
    have HC := Lib.hid (HK.out W hb1)
    clear hb1 HNX HK HROW HC2 HW0
    go_wp2_with fail
    (with_reducible refine (HCO.out).mono ?_)
    rintro e W1 ⟨rfl, hw⟩
    subst hw
    clear HCO
    go_wp2_with fail
    (with_reducible refine (HC.out).mono ?_)
    rintro e W2 ⟨k, r, p, m, o, n, c, bb, rfl, hz, hfin⟩
    obtain ⟨z0, z1, z2, z3, z4, f0, f1, f2, f3, f4⟩ := hz
    have HFIN := Lib.hid hfin
    clear hfin HC
    go_wp2_with fail
    refine bodyPost_ret (v := .tuple #[.agg #[.int .u8 k, .int .i32 r, .int .u32 p, .int .u32 m, .slice o n c], .bool bb]) (by simp [results, Tryd.results31, go_sem, *]) rfl ?_
    exact HFIN.out _ _ _ _ _
  · have HK := Lib.hid (HBAD.out (by rw [HR.out, if_neg c40, if_neg c123, if_neg c91, if_neg c126, if_neg c46, if_neg c35, if_neg hm]))
    have HM := Lib.hid (decide_eq_false hm)
    clear HR HTAK HSEQ HOR HCLS HBAD HNL HPOS HORR c40 c123 c91 c126 c46 c35 hm
    go_enter Tryd.func31, Tryd.ntmps31
    go_wp2_with fail
    rw [← HW0.out]
    (with_reducible refine (HNX.out).mono ?_)
    rintro e W ⟨rfl, hb1⟩
    have c2 := HC2.out W hb1
    have HCO := Lib.hid (HROW.out W hb1)
    rw [HM.out] at HCO
    obtain ⟨hz, hfin⟩ := HK.out W hb1
    have HFIN := Lib.hid hfin
    clear hb1 HNX HK HROW HC2 HW0 hfin
    go_wp2_with fail
    (with_reducible refine (HCO.out).mono ?_)
    rintro e W1 ⟨rfl, hw⟩
    subst hw
    obtain ⟨z0, z1, z2, z3, z4, f0, f1, f2, f3, f4⟩ := hz
    clear HCO
    go_wp2_with fail
    refine bodyPost_ret (v := .tuple #[noNode, .bool false]) (by simp [results, Tryd.results31, go_sem, noNode, *]) rfl ?_
    exact HFIN.out _ _ _ _ _
end Go.Proofs.YtmechinlaladiaaDoor
namespace Go.Proofs.YtmechinlaladiaaDoor
open Go.RowKit Go.Lib
set_option linter.unusedVariables false

theorem RdS.kep {C : RdC} (ok : C.Ok) {b : Nat} {v : Value} {ms : List NdM} {w : World} {v' : Value} {ms' : List NdM} {W : World} (h : RdS C b v ms w w.heap.size v' ms' W) {M : NdM} {e : Ending} {w' : World} (hk : KepPost C b v' (ms ++ ms') M w.heap.size W e w') :
    e = .returned (.int .i64 (ms ++ ms').length) ∧ But (fun k => k = C.RB ∨ v'.ownBlock = some k) W w' ∧ ∃ v2, RdS C b v ms w w.heap.size v2 (ms' ++ [M]) w' := by
  obtain ⟨he, v2, hA, hN, hf, hB, hv⟩ := hk
  have hs := hB.size
  have hX : ∀ i, i < w.heap.size → (i = C.RB ∨ v'.ownBlock = some i) → (i = C.RB ∨ v.ownBlock = some i) := fun i hi e => by
    rcases e with e | e
    · exact Or.inl e
    · rcases h.vat with e2 | ⟨b, e2, hb⟩
      · exact Or.inr (e2 ▸ e)
      · rw [e2] at e; cases e; omega
  refine ⟨he, hB, v2, hA, by rw [← List.append_assoc]; exact hN, fun m hm => ?_, h.but.trans hB hX, ?_, h.lo1, h.loF, h.lov, h.lok, h.hi0, Nat.le_trans h.hiW hs⟩
  · rcases List.mem_append.1 hm with hm | hm
    · have hf := h.frk m hm
      refine hf.keep hB (fun h0 e => ?_)
      have h1 := h.n.out.apart m (List.mem_append_right _ hm) h0
      rcases e with e | e
      · exact h1.2 (Or.inl e)
      · exact h1.1 e
    · rw [List.mem_singleton.1 hm]; exact hf
  · rcases hv with e | ⟨b, e, hb⟩
    · rcases h.vat with e2 | ⟨b, e2, hb⟩
      · exact Or.inl (e.trans e2)
      · exact Or.inr ⟨b, e.trans e2, hb⟩
    · exact Or.inr ⟨b, e, by have := h.hiW; have := h.hi0; omega⟩
/-- What comes behind bare. -/
theorem kept_rep {C : RdC} (ok : C.Ok) {R : Rs} {a : Nat} {v : Value} {ms : List NdM} {w : World} (h : RdAt C a v w) (hn : RdN C v ms w) (hl : ms.length ≤ a) {t : Tr} {b : Nat} (hb1 : a + t.sz ≤ b) (hb2 : b ≤ (starts C.s).length) (hR : R = .ok (repF C.s (starts C.s).length t b)) {e : Ending} {W1 : World} (hp : NodPost C (.ok (t, b)) v ms w e W1) :
    ∃ (k r p m : Int) (o : Option Addr) (n c : Nat), e = .returned (.tuple #[.agg #[.int .u8 k, .int .i32 r, .int .u32 p, .int .u32 m, .slice o n c], .bool true]) ∧ W1.cell? ⟨C.PB, 0, none⟩ = some (.pointer (some ⟨C.RB, 0, none⟩)) ∧
      ∀ W, Below W1.heap.size W1 W → Calls Tryd.prog 33 #[.pointer (some ⟨C.RB, 0, none⟩), .agg #[.int .u8 k, .int .i32 r, .int .u32 p, .int .u32 m, .slice o n c]] W fun e w' => ∃ k : Nat, e = .returned (.int .i64 k) ∧ w'.cell? ⟨C.PB, 0, none⟩ = some (.pointer (some ⟨C.RB, 0, none⟩)) ∧
        ∀ W', Below w'.heap.size w' W' → Calls Tryd.prog 32 #[.pointer (some ⟨C.RB, 0, none⟩), .int .i64 k] W' fun e2 w2 => ∃ k2 : Nat, e2 = .returned (.int .i64 k2) ∧ NumPost C R v ms w (.returned (.tuple #[.int .i64 k2, .bool true])) w2 := by
  obtain ⟨M, v', ms', he, hA, hG, hd, hsz, hf⟩ := hp
  have hS0 := RdS.start ok h hn (Below.refl _ _) (hi := w.heap.size) (Nat.le_refl _) (Nat.le_refl _)
  have hS1 := hS0.grow hA (by rw [List.append_nil]; exact hG)
  rw [List.nil_append] at hS1
  have hbig := starts_most C.s
  have hsize := ok.size
  refine ⟨_, _, _, _, _, _, _, he, hA.cP, fun W hW => ?_⟩
  have hS2 := hS1.next ok hW
  have hf2 : Fresh C w.heap.size v' M W := hf.keep (But.of_below (X := fun _ => False) hW) (fun _ e => e.elim)
  have hml : (ms ++ ms').length = ms.length + ms'.length := List.length_append
  refine (keep_any C ok b v' (ms ++ ms') M w.heap.size W hS2.at_ hS2.n hf2 (by omega)).mono ?_
  intro e2 w' hk
  obtain ⟨he2, hB, v2, hS3⟩ := hS2.kep ok hk
  refine ⟨_, he2, hS3.at_.cP, fun W' hW' => ?_⟩
  have hS4 := hS3.next ok hW'
  have hat := Tr.Hd_At hd
  rw [nds_length] at hat
  have e3 : nds (ms ++ (ms' ++ [M])) = nds (ms ++ ms') ++ [M.nd] := by rw [← List.append_assoc, nds_app]; rfl
  rw [← e3] at hat
  have hl2 : (ms ++ (ms' ++ [M])).length = ms.length + ms'.length + 1 := by simp; omega
  refine (repeated_any C ok b (starts C.s).length v2 (ms ++ (ms' ++ [M])) t (ms ++ ms').length W' hS4.at_ hS4.n hat (by omega) (by omega) hb2 (by omega)).mono ?_
  rintro e4 w4 ⟨k2, v3, m3, he4, hA4, hG4, hat4, hsz4, hk4⟩
  refine ⟨k2, he4, ?_⟩
  have hS5 := hS4.grow hA4 hG4
  subst hR
  generalize repF C.s (starts C.s).length t b = q at hA4 hat4 hsz4 ⊢
  obtain ⟨Rt, Rb⟩ := q
  refine ⟨k2, v3, (ms' ++ [M]) ++ m3, rfl, hA4, hS5.fin, ?_, ?_, ?_⟩
  · rw [← List.append_assoc]; exact hat4
  · simp only [List.length_append, List.length_singleton] at hsz4 ⊢
    omega
  · rw [← List.append_assoc]; exact hk4
set_option maxHeartbeats 4000000 in
set_option maxRecDepth 100000 in
theorem rnode_step (C : RdC) (ok : C.Ok) (F a : Nat) (ih : NodeIH C F) (v : Value) (ms : List NdM) (w : World) (h : RdAt C a v w) (hn : RdN C v ms w) (hl : ms.length ≤ a) (ha : a ≤ (starts C.s).length) (hF : 2 * ((starts C.s).length - a) + 1 ≤ F + 1) :
    Calls Tryd.prog 30 #[.pointer (some ⟨C.PB, 0, none⟩), .pointer (some ⟨C.NB, 0, none⟩)] w (NumPost C (rdF C.A C.s (F + 1) .node a) v ms w) := by
  have hba := rbare_any C ok F a ih v ms w h hn hl ha hF
  have hfn : C.fn = .func (.func 30) #[] #[.pointer (some ⟨C.PB, 0, none⟩), .pointer (some ⟨C.NB, 0, none⟩)] := rfl
  have cP := h.cP; have cN := h.cN
  rw [hfn] at hba cN
  cases hq : bareR C.A C.s (rdF C.A C.s F) a with
  | error q =>
    rw [hq] at hba
    have hR : rdF C.A C.s (F + 1) .node a = .error q := by rw [rdF, hq]
    rw [hR]
    have hfin : ∀ e W1, NodPost C (.error q) v ms w e W1 → e = .returned (.tuple #[noNode, .bool false]) ∧ ∀ O, NumPost C (.error q) v ms w (.returned (.tuple #[.int .i64 0, .bool false])) (W1.alloc O) := by
      rintro e W1 ⟨he, v', hA, hB⟩
      exact ⟨he, fun O => ⟨rfl, v', hA.next ok ((Below.refl _ _).alloc (Nat.le_refl _) O), hB.alloc O⟩⟩
    obtain ⟨RB, hRB⟩ : ∃ b, b = C.RB := ⟨_, rfl⟩
    obtain ⟨PB, hPB⟩ : ∃ b, b = C.PB := ⟨_, rfl⟩
    obtain ⟨NB, hNB⟩ : ∃ b, b = C.NB := ⟨_, rfl⟩
    rw [← hRB, ← hPB, ← hNB] at hba
    rw [← hRB, ← hPB] at cP
    rw [← hPB, ← hNB] at cN ⊢
    have HBA := Lib.hid hba; have HFIN := Lib.hid hfin
    clear hba hfin hfn h hn hl ha hF hq hR hRB hPB hNB ih
    go_enter Tryd.func30, Tryd.ntmps30
    go_wp2_with fail
    (with_reducible refine (HBA.out).mono ?_)
    intro e W1 hp
    obtain ⟨rfl, hpost⟩ := HFIN.out e W1 hp
    have HP := Lib.hid hpost
    unfold noNode
    clear hp hpost HBA HFIN
    go_wp2_with fail
    go_ret2
    exact HP.out _
  | ok q =>
    obtain ⟨t, b⟩ := q
    rw [hq] at hba
    obtain ⟨hb2, hb0, hb1⟩ := bareR_sz C.A C.s F a t b ha hq
    have hR : rdF C.A C.s (F + 1) .node a = .ok (repF C.s (starts C.s).length t b) := by rw [rdF, hq]
    obtain ⟨R, hRR⟩ : ∃ R, R = rdF C.A C.s (F + 1) .node a := ⟨_, rfl⟩
    rw [← hRR] at hR ⊢
    have hfin := fun e W1 hp => kept_rep ok h hn hl hb1 hb2 hR (e := e) (W1 := W1) hp
    obtain ⟨RB, hRB⟩ : ∃ b, b = C.RB := ⟨_, rfl⟩
    obtain ⟨PB, hPB⟩ : ∃ b, b = C.PB := ⟨_, rfl⟩
    obtain ⟨NB, hNB⟩ : ∃ b, b = C.NB := ⟨_, rfl⟩
    rw [← hRB, ← hPB, ← hNB] at hba
    rw [← hRB, ← hPB] at cP hfin
    rw [← hPB, ← hNB] at cN ⊢
    have HBA := Lib.hid hba; have HFIN := Lib.hid hfin
    clear hba hfin hfn h hn hl ha hF hq hR hRB hPB hNB ih hRR hb0 hb1 hb2
    go_enter Tryd.func30, Tryd.ntmps30
    go_wp2_with fail
    (with_reducible refine (HBA.out).mono ?_)
    intro e W1 hp
    obtain ⟨k, r, p, m, o, n, c, rfl, cP1, hkeep⟩ := HFIN.out e W1 hp
    have HK := Lib.hid hkeep
    have hzP := blk_of_cell cP1
    clear hp hkeep HBA HFIN cP cN
    go_wp2_with fail
    obtain ⟨W2, hW2⟩ : ∃ W2, W2 = W1.alloc (.cells #[.int .u8 k, .int .i32 r, .int .u32 p, .int .u32 m, .slice o n c] 36) := ⟨_, rfl⟩
    have hB2 : Below W1.heap.size W1 W2 := by rw [hW2]; exact (Below.refl _ _).alloc (Nat.le_refl _) _
    obtain ⟨q0, q1, q2, q3, q4⟩ : W2.cell? ⟨W1.heap.size, 0, none⟩ = some (.int .u8 k) ∧ W2.cell? ⟨W1.heap.size, 1, none⟩ = some (.int .i32 r) ∧ W2.cell? ⟨W1.heap.size, 2, none⟩ = some (.int .u32 p) ∧ W2.cell? ⟨W1.heap.size, 3, none⟩ = some (.int .u32 m) ∧ W2.cell? ⟨W1.heap.size, 4, none⟩ = some (.slice o n c) := by rw [hW2]; simp
    have cP2 := (hB2.cell (p := ⟨PB, 0, none⟩) hzP).trans cP1
    rw [← hW2]
    have HK2 := Lib.hid (HK.out _ hB2.drew)
    clear hW2 hB2 cP1 hzP HK
    go_region_with (first | (go_at_call 33; with_reducible refine (HK2.out).mono ?_; rintro _ wq ⟨kk, rfl, cPq, hrep⟩; have HREP := Lib.hid hrep; clear hrep) | (go_at_call 32; with_reducible refine (HREP.out _ (Below.refl _ _)).mono ?_; rintro _ wr ⟨k2, rfl, hnum⟩; have HNUM := Lib.hid hnum; clear hnum))
    all_goals
      go_wp2_with fail
      go_ret2
      exact HNUM.out
theorem rnode_all (C : RdC) (ok : C.Ok) : ∀ F, NodeIH C F
  | 0 => fun f hf => absurd hf (Nat.not_lt_zero _)
  | F + 1 => fun f hf a v ms w h hn hl ha hF => by
    have ih := rnode_all C ok F
    obtain ⟨G, rfl⟩ : ∃ G, f = G + 1 := ⟨f - 1, by omega⟩
    exact rnode_step C ok G a (ih.less (by omega)) v ms w h hn hl ha hF
end Go.Proofs.YtmechinlaladiaaDoor
namespace Go.Proofs.YtmechinlaladiaaDoor
open Go.RowKit Go.Lib
set_option linter.unusedVariables false

set_option maxHeartbeats 2000000 in
set_option maxRecDepth 100000 in
theorem rowOf_any (A : Al) (w : World) (hA : A.In w) : Calls Tryd.prog 13 #[A.v] w (ClsPost A 0 0 w) := by
  have hv : A.v = .agg #[.slice A.pf A.fs.length A.cf, .slice A.pl A.ls.length A.cl] := rfl
  have hc : ∀ O, Calls Tryd.prog 26 #[A.v, .int .u32 0, .int .u32 0] (w.alloc O) fun e w' => ∃ o n c, e = .returned (.tuple #[.slice o n c, .int .i64 (aacR A 0 0)]) ∧ ClsPost A 0 0 w (.returned (.tuple #[.slice o n c, .int .i64 (aacR A 0 0)])) w' := fun O => by
    refine (class_any A 0 0 (w.alloc O) (hA.alloc O) (by decide) (by decide)).mono ?_
    rintro e w' ⟨v, he, ho, hb⟩
    obtain ⟨o, c, rfl⟩ := ownF_shape ho
    refine ⟨o, _, c, he, _, rfl, ?_, ((Below.refl _ _).alloc (Nat.le_refl _) O).trans (hb.mono (by simp))⟩
    exact own_base ho (by simp)
  rw [hv] at hc ⊢
  obtain ⟨nf, hnf⟩ : ∃ n, n = A.fs.length := ⟨_, rfl⟩
  obtain ⟨nl, hnl⟩ : ∃ n, n = A.ls.length := ⟨_, rfl⟩
  obtain ⟨E, hE⟩ : ∃ n, n = aacR A 0 0 := ⟨_, rfl⟩
  rw [← hnf, ← hnl, ← hE] at hc
  rw [← hnf, ← hnl]
  have HC := Lib.hid hc
  clear hc hv hA hnf hnl hE
  go_enter Tryd.func13, Tryd.ntmps13
  go_wp2_with fail
  (with_reducible refine (HC.out _).mono ?_)
  rintro e w1 ⟨o, n, c, rfl, hp⟩
  have HP := Lib.hid hp
  clear hp HC
  go_wp2_with fail
  go_ret2
  exact HP.out
/-- The reader's constants, its box the next one of W0. -/
def rcOf (A : Al) (s : ByteArray) (rp : Option Addr) (rb rc : Nat) (qv : Value) (qb : Nat) (W0 : World) : RdC := ⟨A, s, rp, rb, rc, qv, qb, W0.heap.size, W0.heap.size + 2, W0.heap.size + 1, W0.heap.size, W0⟩
def WhoPost (C : RdC) (R : Rs) (e : Ending) (w' : World) : Prop :=
  match R with
  | .error b => e = .returned (.tuple #[.int .i64 0, .bool false]) ∧ b ≤ (starts C.s).length ∧ ∃ v', RdAt C b v' w'
  | .ok (t, b) => ∃ (k : Nat) (v' : Value) (ms' : List NdM), e = .returned (.tuple #[.int .i64 k, .bool (decide (b = (starts C.s).length))]) ∧ b ≤ (starts C.s).length ∧ RdAt C b v' w' ∧ RdN C v' ms' w' ∧ t.At (nds ms') (k : Int) ∧ ms'.length = t.sz ∧ t.sz ≤ b
theorem nxR_iff {s : ByteArray} {b : Nat} (hb : b ≤ (starts s).length) : (nxR s b = -1) ↔ b = (starts s).length := by
  refine ⟨fun h => ?_, fun h => nxR_end (by omega)⟩
  by_cases hlt : b < (starts s).length
  · unfold nxR at h
    rw [List.getElem?_eq_getElem hlt] at h
    have h' : ((dR s (starts s)[b] : Nat) : Int) = -1 := h
    omega
  · omega
/-- Where something is wrong: at a piece, or behind the last. -/
theorem rdF_bad (A : Al) (s : ByteArray) : ∀ (f : Nat) (m : Md) (a b : Nat), a ≤ (starts s).length → rdF A s f m a = .error b → b ≤ (starts s).length
  | 0, m, a, b, ha, h => by injection h with h; omega
  | f + 1, .node, a, b, ha, h => by
    unfold rdF at h
    cases hb : bareR A s (rdF A s f) a with
    | ok q => rw [hb] at h; cases h
    | error e =>
      rw [hb] at h
      injection h with h
      subst h
      unfold bareR at hb
      by_cases c1 : nxR s a = 40
      · rw [if_pos c1] at hb
        exact rdF_bad A s f _ _ _ (nxR_lt (s := s) (k := a) (by rw [c1]; decide)) hb
      rw [if_neg c1] at hb
      by_cases c2 : nxR s a = 123
      · rw [if_pos c2] at hb
        by_cases c3 : nxR s (a + 1) = 125
        · rw [if_pos c3] at hb; cases hb
        · rw [if_neg c3] at hb
          exact rdF_bad A s f _ _ _ (nxR_lt (s := s) (k := a) (by rw [c2]; decide)) hb
      rw [if_neg c2] at hb
      by_cases c4 : nxR s a = 91
      · have hl := nxR_lt (s := s) (k := a) (by rw [c4]; decide)
        rw [if_pos c4] at hb
        unfold clsRd at hb
        split at hb
        · split at hb
          · cases hb
          · injection hb with hb; omega
        · injection hb with hb; omega
      rw [if_neg c4] at hb
      by_cases c5 : nxR s a = 126
      · rw [if_pos c5] at hb; cases hb
      rw [if_neg c5] at hb
      by_cases c6 : nxR s a = 46
      · rw [if_pos c6] at hb; cases hb
      rw [if_neg c6] at hb
      by_cases c7 : nxR s a = 35
      · rw [if_pos c7] at hb; cases hb
      rw [if_neg c7] at hb
      by_cases c8 : nxR s a ∈ clsR A 0 0
      · rw [if_pos c8] at hb; cases hb
      rw [if_neg c8] at hb
      injection hb with hb
      omega
  | f + 1, .seq l, a, b, ha, h => by
    unfold rdF at h
    by_cases c : nxR s a = 41
    · rw [if_pos c] at h; cases h
    · rw [if_neg c] at h
      cases hb : rdF A s f .node a with
      | error e => rw [hb] at h; injection h with h; subst h; exact rdF_bad A s f _ _ _ ha hb
      | ok q =>
        obtain ⟨t', b'⟩ := q
        rw [hb] at h
        exact rdF_bad A s f _ _ _ (rdF_sz A s f .node a t' b' ha hb).1 h
  | f + 1, .or l, a, b, ha, h => by
    unfold rdF at h
    cases hb : rdF A s f .node a with
    | error e => rw [hb] at h; injection h with h; subst h; exact rdF_bad A s f _ _ _ ha hb
    | ok q =>
      obtain ⟨t', b'⟩ := q
      have hle := (rdF_sz A s f .node a t' b' ha hb).1
      rw [hb] at h
      simp only at h
      by_cases c : nxR s b' = 125
      · rw [if_pos c] at h; cases h
      · rw [if_neg c] at h
        by_cases c2 : nxR s b' = 124
        · rw [if_pos c2] at h
          exact rdF_bad A s f _ _ _ (nxR_lt (s := s) (k := b') (by rw [c2]; decide)) h
        · rw [if_neg c2] at h
          injection h with h
          omega
set_option maxHeartbeats 4000000 in
set_option maxRecDepth 100000 in
theorem rwhole_any (A : Al) (s : ByteArray) (rp : Option Addr) (rb rc : Nat) (qv : Value) (qb : Nat) (W0 : World) (hA : A.In W0) (hrow : RsIn rp rb 0 (clsR A 0 0) W0) (hp : PiecesAt s qb W0 qv) (hs : s.size ≤ 65536) (w1 : World)
    (hw1 : w1 = W0.alloc (.cells #[.slice A.pf A.fs.length A.cf, .slice A.pl A.ls.length A.cl, .slice rp (clsR A 0 0).length rc, .string s, qv, .int .i64 0, .slice none 0 0] 53)) :
    Calls Tryd.prog 15 #[.pointer (some ⟨W0.heap.size, 0, none⟩)] w1 (WhoPost (rcOf A s rp rb rc qv qb W0) (rdF A s (2 * (starts s).length + 1) .node 0)) := by
  obtain ⟨C, hC⟩ : ∃ C, C = rcOf A s rp rb rc qv qb W0 := ⟨_, rfl⟩
  have ok : C.Ok := by
    rw [hC]
    exact ⟨hA, hrow, hp, hs, rfl, Nat.le_refl _, Nat.le_add_right _ _, Nat.le_add_right _ _, by simp [rcOf], by simp [rcOf], by simp [rcOf]⟩
  have hB1 : Below W0.heap.size W0 w1 := by rw [hw1]; exact (Below.refl _ _).alloc (Nat.le_refl _) _
  have hz1 : w1.heap.size = W0.heap.size + 1 := by rw [hw1]; simp
  have hcall : ∀ w3, Below w1.heap.size w1 w3 → w1.heap.size + 1 < w3.heap.size → w3.cell? ⟨w1.heap.size, 0, none⟩ = some (.pointer (some ⟨W0.heap.size, 0, none⟩)) → w3.cell? ⟨w1.heap.size + 1, 0, none⟩ = some (.func (.func 30) #[] #[.pointer (some ⟨w1.heap.size, 0, none⟩), .pointer (some ⟨w1.heap.size + 1, 0, none⟩)]) →
      Calls Tryd.prog 30 #[.pointer (some ⟨w1.heap.size, 0, none⟩), .pointer (some ⟨w1.heap.size + 1, 0, none⟩)] w3 fun e w' =>
        (∃ e', e = .returned (.tuple #[.int .i64 0, .bool false]) ∧ e' = e ∧ WhoPost C (rdF A s (2 * (starts s).length + 1) .node 0) e w') ∨
        (∃ (k b : Nat), e = .returned (.tuple #[.int .i64 k, .bool true]) ∧ w'.cell? ⟨w1.heap.size, 0, none⟩ = some (.pointer (some ⟨W0.heap.size, 0, none⟩)) ∧ Calls Tryd.prog 34 #[.pointer (some ⟨W0.heap.size, 0, none⟩)] w' (fun e2 w2 => e2 = .returned (.int .i32 (nxR s b)) ∧ WhoPost C (rdF A s (2 * (starts s).length + 1) .node 0) (.returned (.tuple #[.int .i64 k, .bool (decide (nxR s b = -1))])) w2)) := by
    intro w3 hb3 hz3 h0 h1
    have hz1' : w1.heap.size + 1 = W0.heap.size + 2 := by omega
    have hb03 : Below W0.heap.size W0 w3 := hB1.trans (hb3.mono hB1.size)
    have rc : ∀ i u, w1.cell? ⟨W0.heap.size, i, none⟩ = some u → w3.cell? ⟨W0.heap.size, i, none⟩ = some u := fun i u h => (hb3.cell (p := ⟨W0.heap.size, i, none⟩) (by show W0.heap.size < _; omega)).trans h
    have rf : ∀ o, w3.frozen? ⟨W0.heap.size, o, none⟩ = false := fun o => (hb3.frozen (p := ⟨W0.heap.size, o, none⟩) (by show W0.heap.size < _; omega)).trans (by rw [hw1]; simp [World.frozen?_alloc_at])
    have hat : RdAt C 0 (.slice none 0 0) w3 := by
      rw [hz1'] at h1
      rw [hz1] at h0 h1
      rw [hC]
      exact ⟨hb03, rc 0 _ (by rw [hw1]; simp [rcOf]), rc 1 _ (by rw [hw1]; simp [rcOf]), rc 2 _ (by rw [hw1]; simp [rcOf]), rc 3 _ (by rw [hw1]; simp [rcOf]), rc 4 _ (by rw [hw1]; simp [rcOf]), rc 5 _ (by rw [hw1]; simp), rc 6 _ (by rw [hw1]; simp), rf, h1, h0⟩
    have hn0 : RdN C (.slice none 0 0) [] w3 := ⟨OutN.nil _ _ _, fun k e => by cases e⟩
    have hsC : C.s = s := by rw [hC]; rfl
    have hAC : C.A = A := by rw [hC]; rfl
    have hih := rnode_all C ok (2 * (starts s).length + 2) (2 * (starts s).length + 1) (by omega) 0 (.slice none 0 0) [] w3 hat hn0 (Nat.le_refl _) (Nat.zero_le _) (by rw [hsC]; omega)
    rw [hsC, hAC] at hih
    have ePB : C.PB = w1.heap.size := by rw [hC, hz1]; rfl
    have eNB : C.NB = w1.heap.size + 1 := by rw [hC, hz1]; rfl
    have eRB : C.RB = W0.heap.size := by rw [hC]; rfl
    rw [ePB, eNB] at hih
    refine hih.mono ?_
    intro e w' hp
    cases hq : rdF A s (2 * (starts s).length + 1) .node 0 with
    | error b =>
      rw [hq] at hp
      obtain ⟨he, v', hA', hB'⟩ := hp
      exact Or.inl ⟨_, he, rfl, he, by rw [hsC]; exact rdF_bad A s _ _ _ _ (Nat.zero_le _) hq, v', hA'⟩
    | ok q =>
      obtain ⟨t, b⟩ := q
      rw [hq] at hp
      obtain ⟨k, v', ms', he, hA', hG, hat', hml, hk⟩ := hp
      obtain ⟨h1', h2', h3'⟩ := rdF_sz A s _ .node 0 t b (Nat.zero_le _) hq
      have hcP := hA'.cP
      rw [ePB, eRB] at hcP
      refine Or.inr ⟨k, b, he, hcP, ?_⟩
      have hnx := next_any C ok b v' w' hA' (by rw [hsC]; exact h1')
      rw [eRB, hsC] at hnx
      refine hnx.mono ?_
      rintro e2 w2 ⟨he2, hb2⟩
      refine ⟨he2, k, v', ms', ?_, by rw [hsC]; exact h1', hA'.next ok hb2, ?_, hat', hml, ?_⟩
      · rw [hsC]
        have : decide (nxR s b = -1) = decide (b = (starts s).length) := by rw [decide_eq_decide]; exact nxR_iff h1'
        rw [this]
      · exact hG.n.next hb2
      · simp only [mdSz, Nat.add_zero, Nat.zero_add] at h3'; exact h3'
  obtain ⟨R, hR⟩ : ∃ R, R = rdF A s (2 * (starts s).length + 1) .node 0 := ⟨_, rfl⟩
  rw [← hC, ← hR]
  rw [← hR] at hcall
  obtain ⟨RB, hRB⟩ : ∃ b, b = W0.heap.size := ⟨_, rfl⟩
  rw [← hRB] at hcall ⊢
  have HC := Lib.hid hcall
  clear hcall ok hB1 hz1 hA hrow hp hs hw1 hC hR hRB
  go_enter Tryd.func15, Tryd.ntmps15
  go_wp2_with fail
  (with_reducible refine (HC.out _ ?_ ?_ ?_ ?_).mono ?_)
  case refine_1 => exact ((Below.refl _ _).alloc (Nat.le_refl _) _).alloc (by simp) _
  case refine_2 => simp
  case refine_3 => simp
  case refine_4 =>
    have e : ∀ O, w1.heap.size + 1 = (w1.alloc O).heap.size := fun O => by simp
    simp
  intro e w' hcase
  rcases hcase with ⟨e', rfl, he', hpost⟩ | ⟨k, b, rfl, cP, hnx⟩
  · clear he'
    have HP := Lib.hid hpost
    clear hpost HC
    go_wp2_with fail
    go_ret2
    exact HP.out
  · obtain ⟨x, hx⟩ : ∃ x, x = nxR s b := ⟨_, rfl⟩
    rw [← hx] at hnx
    have HN := Lib.hid hnx
    clear hnx HC hx
    by_cases h1 : x = -1
    · subst h1
      have HN1 := Lib.hid HN.out
      clear HN
      go_wp2_with fail
      (with_reducible refine (HN1.out).mono ?_)
      rintro e w2 ⟨rfl, hpost⟩
      have HP := Lib.hid hpost
      clear hpost HN1
      go_wp2_with fail
      go_ret2
      exact HP.out
    · have q1 : ((x : Int) == -1) = false := by simpa using h1
      rw [decide_eq_false h1] at HN
      clear h1
      go_wp2_with fail
      (with_reducible refine (HN.out).mono ?_)
      rintro e w2 ⟨rfl, hpost⟩
      have HP := Lib.hid hpost
      clear hpost HN
      go_wp2_with fail
      go_ret2
      exact HP.out
end Go.Proofs.YtmechinlaladiaaDoor
