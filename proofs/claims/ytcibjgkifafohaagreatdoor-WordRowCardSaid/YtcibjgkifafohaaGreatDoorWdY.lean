/-
  PLAIN: what chapter 3 says of a word's letters, on lists.
  WALKS: word.putRead, read.
  WALKS: word.rowOf, read, Letters.
-/
import Derived.Test.YtcibjgkifafohaaGreatDoorWdX
import Derived.Test.YtcibjgkifafohaaGreatDoorFeatC
import Derived.Test.YtcibjgkifafohaaGreatDoorOutP
import Derived.Maps.AppendAt
namespace Go.Proofs.YtcibjgkifafohaaGreatDoor
open Go.RowKit Go.Lib
set_option linter.unusedVariables false

/-- An alphabet's runes in its order. -/
def rowL (A : Al) : List Int := A.ls.map Ltr.r
/-- The error of a text's pieces, k letters ahead of them. -/
def rdE (row : List Int) (s : ByteArray) : List Nat → Nat → Int
  | [], _ => 0
  | p :: l, k => if brk s p = true then 6 else if (dR s p : Int) ∈ row then (if k = 64 then 4 else rdE row s l (k + 1)) else 5
/-- What of a text is looked at. -/
def cutW (s : ByteArray) : ByteArray := s.extract 0 (if s.size ≤ 260 then s.size else 260)
def rdW (row : List Int) (s : ByteArray) : Int := rdE row (cutW s) (starts (cutW s)) 0
theorem cutW_size (s : ByteArray) : (cutW s).size ≤ 260 := by
  unfold cutW
  split <;> simp <;> omega
theorem starts_le (s : ByteArray) : (starts s).length ≤ s.size := by simpa [starts] using startsF_le s s.size 0

theorem rdE_brk {row : List Int} {s : ByteArray} {k p : Nat} (h : (starts s)[k]? = some p) (hb : brk s p = true) : rdE row s ((starts s).drop k) k = 6 := by
  obtain ⟨h1, rfl⟩ := List.getElem?_eq_some_iff.1 h
  rw [List.drop_eq_getElem_cons h1, rdE, if_pos hb]
theorem rdE_not {row : List Int} {s : ByteArray} {k p : Nat} (h : (starts s)[k]? = some p) (hb : brk s p = false) (hm : ¬ (dR s p : Int) ∈ row) : rdE row s ((starts s).drop k) k = 5 := by
  obtain ⟨h1, rfl⟩ := List.getElem?_eq_some_iff.1 h
  rw [List.drop_eq_getElem_cons h1, rdE, if_neg (by rw [hb]; decide), if_neg hm]
theorem rdE_many {row : List Int} {s : ByteArray} {p : Nat} (h : (starts s)[64]? = some p) (hb : brk s p = false) (hm : (dR s p : Int) ∈ row) : rdE row s ((starts s).drop 64) 64 = 4 := by
  obtain ⟨h1, rfl⟩ := List.getElem?_eq_some_iff.1 h
  rw [List.drop_eq_getElem_cons h1, rdE, if_neg (by rw [hb]; decide), if_pos hm, if_pos rfl]
theorem rdE_on {row : List Int} {s : ByteArray} {k p : Nat} (h : (starts s)[k]? = some p) (hb : brk s p = false) (hm : (dR s p : Int) ∈ row) (hk : ¬ k = 64) : rdE row s ((starts s).drop k) k = rdE row s ((starts s).drop (k + 1)) (k + 1) := by
  obtain ⟨h1, rfl⟩ := List.getElem?_eq_some_iff.1 h
  rw [List.drop_eq_getElem_cons h1, rdE, if_neg (by rw [hb]; decide), if_pos hm, if_neg hk]
theorem rdE_end {row : List Int} {s : ByteArray} {k : Nat} (h : (starts s).length ≤ k) : rdE row s ((starts s).drop k) k = 0 := by
  rw [List.drop_eq_nil_of_le h]; rfl
theorem runesL_snoc {s : ByteArray} {k p : Nat} (h : (starts s)[k]? = some p) : (runesL s).take (k + 1) = (runesL s).take k ++ [(dR s p : Int)] := by
  obtain ⟨h1, rfl⟩ := List.getElem?_eq_some_iff.1 h
  rw [List.take_succ_eq_append_getElem (by rw [runesL_length]; exact h1)]
  simp [runesL]

/-! ### the class without features -/
theorem hasB_zero (l : Ltr) : hasB l 0 0 = true := by unfold hasB; simp
theorem clsL_zero (ls : List Ltr) : clsL ls 0 0 = ls.map Ltr.r := by
  unfold clsL
  congr 1
  exact List.filter_eq_self.2 fun l _ => hasB_zero l
end Go.Proofs.YtcibjgkifafohaaGreatDoor
namespace Go.Proofs.YtcibjgkifafohaaGreatDoor
open Go.RowKit Go.Lib
set_option linter.unusedVariables false

theorem rune_info32 : (Tryz.prog.info? 21).map (fun i => (i.zero, i.size, i.bytes)) = some (some (.int .i32 0), 1, 4) := by kernel_rfl
theorem grown_step {a b c : World} {r r' : Option Nat} (h : a.grownBy b r) (k : b.grownBy c r') (hr : ∀ q, r' = some q → r = some q ∨ a.heap.size ≤ q) : a.grownBy c r :=
  ⟨k.os.trans h.os, k.tape.trans h.tape, k.output.trans h.output, Nat.le_trans h.size k.size, fun i hi hne => (k.block i (Nat.lt_of_lt_of_le hi h.size) (fun e => by
    rcases hr i e.symm with h1 | h1
    · exact hne h1.symm
    · omega)).trans (h.block i hi hne)⟩
theorem grown_below {w w' : World} {B : Nat} {r : Option Nat} (h : w.grownBy w' r) (hB : B ≤ w.heap.size) (hr : ∀ q, r = some q → B ≤ q) : Below B w w' := (Below.refl B w).grown h hB hr
theorem grown_of_below {w w' : World} (r : Option Nat) (h : Below w.heap.size w w') : w.grownBy w' r := ⟨h.os, h.tape, h.output, h.size, fun k hk _ => h.block k hk⟩
theorem grown_none {w w' : World} (h : w.grownBy w' none) : Below w.heap.size w w' := ⟨h.os, h.tape, h.output, h.size, fun k hk => h.block k hk (by simp)⟩
/-- What 'putRead' leaves: nothing but the row that it was handed has turned. -/
def PutPost (B : Nat) (ob : Option Nat) (L row : List Int) (s : ByteArray) (w : World) (e : Ending) (w' : World) : Prop :=
  ∃ v : Value, e = .returned (.tuple #[v, .int .i64 (rdW row s)]) ∧ (rdW row s = 0 → w'.ownsRow B 21 1 v (L ++ runesL (cutW s)).length ((L ++ runesL (cutW s)).map E32) ∧ ∀ q, v.ownBlock = some q → ob = some q ∨ w.heap.size ≤ q) ∧ (¬ rdW row s = 0 → v = .slice none 0 0) ∧ w.grownBy w' ob

theorem min_int (s : ByteArray) : min (s.size : Int) 260 = ((if s.size ≤ 260 then s.size else 260 : Nat) : Int) := by
  split <;> omega

set_option maxHeartbeats 4000000 in
set_option maxRecDepth 100000 in
theorem putRead_any (B : Nat) (vo : Value) (L : List Int) (pr : Option Addr) (br r0 cr : Nat) (row : List Int) (s : ByteArray) (w : World) (hT : Tabs w) (hrow : ∀ W, Below B w W → RsIn pr br r0 row W)
    (ho : w.ownsRow B 21 1 vo L.length (L.map E32)) (hL : L.length ≤ 100000000) (hB : B ≤ w.heap.size) :
    Calls Tryz.prog 42 #[vo, .slice pr row.length cr, .string s] w (PutPost B vo.ownBlock L row s w) := by
  have hp := fun w hT => pieces_any (cutW s) w (by have := cutW_size s; omega) hT
  have hcon := fun W x (h : Below B w W) => has_rune pr br r0 cr row x W (hrow W h)
  have hm := min_int s
  have hM : (if s.size ≤ 260 then s.size else 260) ≤ s.size := by split <;> omega
  have hcut : cutW s = s.extract 0 (if s.size ≤ 260 then s.size else 260) := rfl
  obtain ⟨M, hM'⟩ : ∃ M, M = (if s.size ≤ 260 then s.size else 260) := ⟨_, rfl⟩
  rw [← hM'] at hm hM hcut
  have hlen := starts_le (cutW s)
  have h260 := cutW_size s
  have hE : rdW row s = rdE row (cutW s) (starts (cutW s)) 0 := rfl
  obtain ⟨c, hc⟩ : ∃ c, c = cutW s := ⟨_, rfl⟩
  rw [← hc] at hp hcut hlen h260 hE
  have hP : PutPost B vo.ownBlock L row s w = fun e w' => ∃ v : Value, e = .returned (.tuple #[v, .int .i64 (rdW row s)]) ∧ (rdW row s = 0 → w'.ownsRow B 21 1 v (L ++ runesL c).length ((L ++ runesL c).map E32) ∧ ∀ q, v.ownBlock = some q → vo.ownBlock = some q ∨ w.heap.size ≤ q) ∧ (¬ rdW row s = 0 → v = .slice none 0 0) ∧ w.grownBy w' vo.ownBlock := by rw [hc]; rfl
  rw [hP]
  obtain ⟨EE, hEE⟩ : ∃ x, x = rdW row s := ⟨_, rfl⟩
  rw [← hEE] at hE ⊢
  obtain ⟨n, hn⟩ : ∃ n, n = row.length := ⟨_, rfl⟩
  have hbig := (hrow w (Below.refl _ _)).big
  rw [← hn] at hcon hbig ⊢
  obtain ⟨i0, hi, hz0, hz1, hz2⟩ := info_parts rune_info32
  have HI0 := Lib.hid hi; have HZ0 := Lib.hid hz0; have HZ1 := Lib.hid hz1; have HZ2 := Lib.hid hz2
  have HP := Lib.hid hp; have HCON := Lib.hid hcon; have HT := Lib.hid hT; have HCUT := Lib.hid hcut; have HE := Lib.hid hE; have HO := Lib.hid ho
  have hob0 : ∀ q, vo.ownBlock = some q → B ≤ q := fun q hq => (ho.lt q hq).1
  have HOB := Lib.hid hob0
  obtain ⟨o, cc, rfl⟩ := own_shape ho
  obtain ⟨ob, hob⟩ : ∃ ob, ob = (Value.slice o L.length cc).ownBlock := ⟨_, rfl⟩
  rw [← hob] at HOB ⊢
  have HCUR0 : Hid (∀ q, (Value.slice o L.length cc).ownBlock = some q → ob = some q ∨ w.heap.size ≤ q) := fun q hq => Or.inl (by rw [hob]; exact hq)
  clear hob0 hob hp hcon hT hcut hE ho hc hEE hn hrow hP hM' hi hz0 hz1 hz2
  go_enter Tryz.func42, Tryz.ntmps42
  go_wp2_with fail
  rw [← HCUT.out]
  refine (HP.out _ HT.out).mono ?_
  rintro e w1 ⟨v, rfl, hx, hb1⟩
  have HX := Lib.hid hx
  obtain ⟨ox, cx, rfl⟩ := own_shape hx
  have hsz1 := hb1.size
  have HG1 := Lib.hid (grown_of_below ob hb1)
  have HO1 := Lib.hid (own_below HO.out hb1)
  clear hb1 hx HO
  go_wp2_with fail
  go_loopw [0, 26] (fun v iv wr => ∃ k : Nat, iv = .int .i64 k ∧ k ≤ (starts c).length ∧ k ≤ 64 ∧ Hid (EE = rdE row c ((starts c).drop k) k) ∧ Hid (wr.ownsRow B 21 1 v (L ++ (runesL c).take k).length ((L ++ (runesL c).take k).map E32)) ∧ Hid (PiecesAt c w.heap.size wr (.slice ox (starts c).length cx)) ∧ Hid (w.grownBy wr ob) ∧ Hid (∀ q, v.ownBlock = some q → ob = some q ∨ w.heap.size ≤ q)) (fun _ iv _ => (starts c).length - (intOf iv).toNat)
  case atStart => exact ⟨0, rfl, Nat.zero_le _, Nat.zero_le _, HE, (show World.ownsRow _ _ _ _ _ _ _ by simpa using HO1.out), HX, HG1, HCUR0⟩
  case round =>
    obtain ⟨k, rfl, hk, hk64, HK, HO, HPc, HG, HCUR⟩ := hrel
    have HB := Lib.hid (grown_below HG.out hB HOB.out)
    have hszr := HG.out.size
    obtain ⟨oo, co, rfl⟩ := own_shape HO.out
    by_cases hkn : k < (starts c).length
    · obtain ⟨p, hp⟩ : ∃ p, (starts c)[k]? = some p := ⟨_, List.getElem?_eq_getElem hkn⟩
      obtain ⟨g, c', hg, hgb, hgl, hlie, hcap⟩ := pieces_lie HPc.out (by omega)
      simp only [Value.slice.injEq] at hg
      obtain ⟨rfl, _, rfl⟩ := hg
      obtain ⟨a0, a1, a2, a3⟩ := hlie.cell k p hp
      have HPp := Lib.hid hp
      obtain ⟨q, hq⟩ : ∃ q : Int, q = (dR c p : Int) := ⟨_, rfl⟩
      rw [← hq] at a0
      have HQ := Lib.hid hq
      obtain ⟨len, hlen'⟩ : ∃ x, x = (L ++ (runesL c).take k).length := ⟨_, rfl⟩
      have hlen2 : len ≤ L.length + k := by rw [hlen', List.length_append, List.length_take]; omega
      rw [← hlen'] at HO HCUR ⊢
      have HLEN := Lib.hid hlen'
      clear hlie hp hq hlen'
      cases hb : brk c p with
      | true =>
        rw [hb] at a3
        have h6 : EE = 6 := by rw [HK.out, rdE_brk HPp.out hb]
        have H6 := Lib.hid h6
        clear hb h6
        go_wp2_with fail
        go_ret2
        refine ⟨.slice none 0 0, by rw [H6.out] <;> rfl, fun h => absurd h (by rw [H6.out]; decide), fun _ => rfl, ?_⟩
        exact HG.out.trans (World.grownBy_alloc wr _ ob)
      | false =>
        rw [hb] at a3
        have hC := fun W h => HCON.out W q h
        by_cases hmem : q ∈ row
        · rw [decide_eq_true hmem] at hC
          have HC := Lib.hid hC
          by_cases h64 : k = 64
          · have h4 : EE = 4 := by
              subst h64
              rw [HK.out, rdE_many HPp.out hb (by rw [← HQ.out]; exact hmem)]
            have H4 := Lib.hid h4
            have h64z : ((k : Int) == 64) = true := by simp [h64]
            clear hb h4 hC h64
            go_wp2_with fail
            refine (HC.out _ (HB.out.alloc (by omega) _)).mono ?_
            rintro e w2 ⟨rfl, rfl⟩
            go_wp2_with fail
            go_ret2
            refine ⟨.slice none 0 0, by rw [H4.out] <;> rfl, fun h => absurd h (by rw [H4.out]; decide), fun _ => rfl, ?_⟩
            exact HG.out.trans (World.grownBy_alloc wr _ ob)
          · have hon : EE = rdE row c ((starts c).drop (k + 1)) (k + 1) := by rw [HK.out, rdE_on HPp.out hb (by rw [← HQ.out]; exact hmem) h64]
            have HON := Lib.hid hon
            have h64z : ((k : Int) == 64) = false := by simp; omega
            clear hb hon hC
            go_wp2_with fail
            refine (HC.out _ (HB.out.alloc (by omega) _)).mono ?_
            rintro e w2 ⟨rfl, rfl⟩
            have hcx : (wr.alloc (.cells #[.int .i32 q, .int .i64 p, .int .i64 (dW c p), .bool false] 86)).cell? ⟨wr.heap.size, 0, none⟩ = some (.int .i32 q) := by simp
            have HO2 := Lib.hid (own_below HO.out ((Below.refl _ _).alloc (Nat.le_refl _) (.cells #[.int .i32 q, .int .i64 p, .int .i64 (dW c p), .bool false] 86)))
            have HP2 := Lib.hid (own_below HPc.out ((Below.refl _ _).alloc (Nat.le_refl _) (.cells #[.int .i32 q, .int .i64 p, .int .i64 (dW c p), .bool false] 86)))
            have HG2 := Lib.hid (HG.out.trans (World.grownBy_alloc wr (.cells #[.int .i32 q, .int .i64 p, .int .i64 (dW c p), .bool false] 86) ob))
            have hsz2 : wr.heap.size < (wr.alloc (.cells #[.int .i32 q, .int .i64 p, .int .i64 (dW c p), .bool false] 86)).heap.size := by simp
            obtain ⟨w3, hw3⟩ : ∃ w3, w3 = wr.alloc (.cells #[.int .i32 q, .int .i64 p, .int .i64 (dW c p), .bool false] 86) := ⟨_, rfl⟩
            rw [← hw3] at hcx HO2 HP2 HG2 hsz2 ⊢
            clear hw3 HO HPc HB HG
            go_wp2_with (at_builtin; refine wpList_append_own_at _ rfl (.tmp 43) (.tmp 46) 40 rfl B 21 i0 (.int .i32 0) 1 4 Tryz.underlying40 HI0.out HZ0.out HZ1.out HZ2.out rfl (by decide) _ _ _ rfl (HO2.out.alloc _) ⟨w3.heap.size, 0, none⟩ 1 1 [.int .i32 q] rfl rfl ?c1 ?c2 ?c3 ?c4 ?c5 ?_)
            case c1 =>
              intro j u hj
              match j, hj with
              | 0, hj => simp at hj; subst hj; simp [Addr.add]
              | j + 1, hj => simp at hj
            case c2 => intro u hu; simp at hu; subst hu; rfl
            case c3 => unfold maxLen; omega
            case c4 => omega
            case c5 => simp; omega
            intro v3 w4 hown3 hgrow3 hnil3 hat3
            have hG3 : w.grownBy w4 ob := grown_step (HG2.out.trans (World.grownBy_alloc w3 _ ob)) hgrow3 HCUR.out
            have hC3 : ∀ q, v3.ownBlock = some q → ob = some q ∨ w.heap.size ≤ q := fun q hq => by
              rcases hat3 with h | h
              · exact HCUR.out q (h.symm.trans hq)
              · rw [h] at hq
                simp at hq
                exact Or.inr (by omega)
            have hP3 : PiecesAt c w.heap.size w4 (.slice (some ⟨g, 0, none⟩) (starts c).length cx) := (HP2.out.alloc (.cells #[.int .i32 q] 21)).kept hgrow3 (own_apart (HO2.out.alloc (.cells #[.int .i32 q] 21)) (HP2.out.alloc (.cells #[.int .i32 q] 21)) (by decide))
            have hO3 : w4.ownsRow B 21 1 v3 (L ++ (runesL c).take (k + 1)).length ((L ++ (runesL c).take (k + 1)).map E32) := by
              rw [runesL_snoc HPp.out, ← List.append_assoc, List.length_append, ← HLEN.out, List.map_append, ← HQ.out]
              simpa only [List.map_append, List.map_take, List.map_cons, List.map_nil, List.length_cons, List.length_nil, List.append_assoc, Nat.zero_add] using hown3
            have HG3 := Lib.hid hG3; have HC3 := Lib.hid hC3; have HO3 := Lib.hid hO3; have HP3 := Lib.hid hP3
            clear hG3 hC3 hown3 hgrow3 hnil3 hat3 hP3 hO3
            go_wp2_with fail
            go_roundw
            case rel => exact ⟨k + 1, by go_num, by omega, by omega, HON, HO3, HP3, HG3, HC3⟩
            case measure => simp [intOf]; omega
        · have h5 : EE = 5 := by rw [HK.out, rdE_not HPp.out hb (by rw [← HQ.out]; exact hmem)]
          rw [decide_eq_false hmem] at hC
          have HC := Lib.hid hC
          have H5 := Lib.hid h5
          clear hb h5 hC
          go_wp2_with fail
          refine (HC.out _ (HB.out.alloc (by omega) _)).mono ?_
          rintro e w2 ⟨rfl, rfl⟩
          go_wp2_with fail
          go_ret2
          refine ⟨.slice none 0 0, by rw [H5.out] <;> rfl, fun h => absurd h (by rw [H5.out]; decide), fun _ => rfl, ?_⟩
          exact HG.out.trans (World.grownBy_alloc wr _ ob)
    · have h0 : EE = 0 := by rw [HK.out, rdE_end (by omega)]
      have hall : (runesL c).take k = runesL c := List.take_of_length_le (by rw [runesL_length]; omega)
      rw [hall] at HO HCUR
      have H0 := Lib.hid h0
      clear h0
      go_wp2_with fail
      go_ret2
      exact ⟨.slice oo (L ++ (runesL c).take k).length co, by rw [H0.out] <;> rfl, fun _ => ⟨by rw [hall]; exact HO.out, by rw [hall]; exact HCUR.out⟩, fun h => absurd H0.out h, HG.out⟩
end Go.Proofs.YtcibjgkifafohaaGreatDoor
namespace Go.Proofs.YtcibjgkifafohaaGreatDoor
open Go.RowKit Go.Lib
set_option linter.unusedVariables false

theorem clsB_zero (k : Nat) : clsB k 0 0 = true := by unfold clsB; simp
theorem aac_zero (A : Al) : aacR A 0 0 = if A.ok then 0 else 7 := by unfold aacR; rw [clsB_zero]; rfl
theorem cls_zero {A : Al} (h : A.ok = true) : clsR A 0 0 = rowL A := by unfold clsR; rw [aac_zero, h, if_pos rfl, if_pos rfl, clsL_zero]; rfl
theorem cls_none {A : Al} (h : A.ok = false) : clsR A 0 0 = [] := by unfold clsR; rw [aac_zero, h]; rfl
theorem rowL_len {A : Al} (h : A.ok = true) : 1 ≤ (rowL A).length ∧ (rowL A).length ≤ 128 := by unfold rowL; rw [List.length_map]; exact Al.ok_ltrs h

def RowYes (A : Al) (w : World) (e : Ending) (w' : World) : Prop :=
  ∃ pr br cr, e = .returned (.tuple #[.slice pr (rowL A).length cr, .int .i64 0]) ∧ RsIn pr br 0 (rowL A) w' ∧ br < w'.heap.size ∧ Below w.heap.size w w'
def RowNo (w : World) (e : Ending) (w' : World) : Prop :=
  ∃ o c, e = .returned (.tuple #[.slice o 0 c, .int .i64 7]) ∧ Below w.heap.size w w'

set_option maxHeartbeats 1000000 in
set_option maxRecDepth 100000 in
theorem rowOf_yes (A : Al) (w : World) (hA : A.In w) (hok : A.ok = true) : Calls Tryz.prog 23 #[A.v] w (RowYes A w) := by
  have hlen := rowL_len hok
  have hc : ∀ W, A.In W → Calls Tryz.prog 41 #[A.v, .int .u32 0, .int .u32 0] W (RowYes A W) := fun W h => by
    refine (class_any A 0 0 W h (by decide) (by decide)).mono ?_
    rintro e w' ⟨v, he, ho, hb⟩
    rw [cls_zero hok] at ho
    rw [aac_zero, hok, if_pos rfl] at he
    obtain ⟨pr, br, cr, rfl, hr⟩ := own_rs ho (by omega)
    exact ⟨pr, br, cr, he, hr, lt_of_cell (hr.cells 0 (by omega)), hb⟩
  obtain ⟨pf, pl, nf, cf, nl, cl, hv, hnf, hnl, hpl, hcl, hpf, hcf⟩ := A.parts
  rw [hv] at hc ⊢
  have HC := Lib.hid hc; have HA := Lib.hid hA
  clear hc hA hv hnf hnl hpl hcl hpf hcf hlen
  go_enter Tryz.func23, Tryz.ntmps23
  go_wp2_with fail
  refine (HC.out _ (HA.out.alloc _)).mono ?_
  rintro e w1 ⟨pr, br, cr, rfl, hr, hbr, hb⟩
  have HR := Lib.hid hr; have HB := Lib.hid hb
  clear hr hb
  go_wp2_with fail
  go_ret2
  exact ⟨pr, br, cr, rfl, HR.out, hbr, ((Below.refl _ _).alloc (Nat.le_refl _) _).trans (HB.out.mono (by simp))⟩
set_option maxHeartbeats 1000000 in
set_option maxRecDepth 100000 in
theorem rowOf_no (A : Al) (w : World) (hA : A.In w) (hok : A.ok = false) : Calls Tryz.prog 23 #[A.v] w (RowNo w) := by
  have hc : ∀ W, A.In W → Calls Tryz.prog 41 #[A.v, .int .u32 0, .int .u32 0] W (RowNo W) := fun W h => by
    refine (class_any A 0 0 W h (by decide) (by decide)).mono ?_
    rintro e w' ⟨v, he, ho, hb⟩
    rw [cls_none hok] at ho
    rw [aac_zero, hok] at he
    obtain ⟨o, c, rfl⟩ := own_shape ho
    exact ⟨o, c, he, hb⟩
  obtain ⟨pf, pl, nf, cf, nl, cl, hv, hnf, hnl, hpl, hcl, hpf, hcf⟩ := A.parts
  rw [hv] at hc ⊢
  have HC := Lib.hid hc; have HA := Lib.hid hA
  clear hc hA hv hnf hnl hpl hcl hpf hcf
  go_enter Tryz.func23, Tryz.ntmps23
  go_wp2_with fail
  refine (HC.out _ (HA.out.alloc _)).mono ?_
  rintro e w1 ⟨o, c, rfl, hb⟩
  have HB := Lib.hid hb
  clear hb
  go_wp2_with fail
  go_ret2
  exact ⟨o, c, rfl, ((Below.refl _ _).alloc (Nat.le_refl _) _).trans (HB.out.mono (by simp))⟩

/-! ### read -/
def rdL (row : List Int) (s : ByteArray) : List Int := if rdW row s = 0 then runesL (cutW s) else []
def ReadPost (row : List Int) (s : ByteArray) (w : World) (e : Ending) (w' : World) : Prop :=
  ∃ v : Value, e = .returned (.tuple #[v, .int .i64 (rdW row s)]) ∧ w'.ownsRow w.heap.size 21 1 v (rdL row s).length ((rdL row s).map E32) ∧ Below w.heap.size w w'
theorem RsIn.kept {pr : Option Addr} {br r0 : Nat} {l : List Int} {w : World} (h : RsIn pr br r0 l w) (hbr : br < w.heap.size) : ∀ W, Below w.heap.size w W → RsIn pr br r0 l W := fun W hb => h.next hb
set_option maxHeartbeats 1000000 in
theorem read_any (pr : Option Addr) (br r0 cr : Nat) (row : List Int) (s : ByteArray) (w : World) (hT : Tabs w) (hR : RsIn pr br r0 row w) :
    Calls Tryz.prog 36 #[.slice pr row.length cr, .string s] w (ReadPost row s w) := by
  have hp := putRead_any w.heap.size (.slice none 0 0) [] pr br r0 cr row s w hT (fun W hb => hR.next hb) (World.ownsRow_nil _ _ _ _) (by decide) (Nat.le_refl _)
  have hq : Calls Tryz.prog 42 #[.slice none 0 0, .slice pr row.length cr, .string s] w (ReadPost row s w) := by
    refine hp.mono ?_
    rintro e w' ⟨v, he, h0, h1, hb⟩
    refine ⟨v, he, ?_, grown_none (by simpa [Value.ownBlock] using hb)⟩
    unfold rdL
    by_cases h : rdW row s = 0
    · rw [if_pos h]; exact (h0 h).1
    · rw [if_neg h]; rw [h1 h]; exact World.ownsRow_nil _ _ _ _
  have HP := Lib.hid hq
  clear hp hq hR hT
  go_enter Tryz.func36, Tryz.ntmps36
  go_wp2_with fail
  refine HP.out.mono ?_
  rintro e w1 ⟨v, rfl, ho, hb⟩
  have HO := Lib.hid ho; have HB := Lib.hid hb
  obtain ⟨o, c, rfl⟩ := own_shape ho
  clear ho hb
  go_wp2_with fail
  go_ret2
  exact ⟨_, rfl, HO.out, HB.out⟩

/-! ### Letters -/
def letE (A : Al) (s : ByteArray) : Int := if A.ok then rdW (rowL A) s else 7
def letL (A : Al) (s : ByteArray) : List Int := if A.ok then rdL (rowL A) s else []
def LetPost (A : Al) (s : ByteArray) (w : World) (e : Ending) (w' : World) : Prop :=
  ∃ v : Value, e = .returned (.tuple #[v, .int .i64 (letE A s)]) ∧ w'.ownsRow w.heap.size 21 1 v (letL A s).length ((letL A s).map E32) ∧ Below w.heap.size w w'
set_option maxHeartbeats 2000000 in
set_option maxRecDepth 100000 in
theorem letters_any (A : Al) (s : ByteArray) (w : World) (hA : A.In w) (hT : Tabs w) : Calls Tryz.prog 34 #[A.v, .string s] w (LetPost A s w) := by
  cases hok : A.ok with
  | true =>
    have hr := fun W h => rowOf_yes A W h hok
    have he : letE A s = rdW (rowL A) s := by unfold letE; rw [hok]; rfl
    have hl : letL A s = rdL (rowL A) s := by unfold letL; rw [hok]; rfl
    have hpost : LetPost A s w = fun e w' => ∃ v : Value, e = .returned (.tuple #[v, .int .i64 (rdW (rowL A) s)]) ∧ w'.ownsRow w.heap.size 21 1 v (rdL (rowL A) s).length ((rdL (rowL A) s).map E32) ∧ Below w.heap.size w w' := by rw [← he, ← hl]; rfl
    rw [hpost]
    have hrd := fun pr br cr W hT hR => read_any pr br 0 cr (rowL A) s W hT hR
    obtain ⟨n, hn⟩ : ∃ n, n = (rowL A).length := ⟨_, rfl⟩
    obtain ⟨pf, pl, nf, cf, nl, cl, hv, hnf, hnl, hpl, hcl, hpf, hcf⟩ := A.parts
    rw [hv] at hr ⊢
    unfold RowYes at hr
    rw [← hn] at hrd hr
    have HR := Lib.hid hr; have HRD := Lib.hid hrd; have HA := Lib.hid hA; have HT := Lib.hid hT
    clear hr he hl hpost hrd hn hA hT hv hnf hnl hpl hcl hpf hcf
    go_enter Tryz.func34, Tryz.ntmps34
    go_wp2_with fail
    refine (HR.out _ (HA.out.alloc _)).mono ?_
    rintro e w1 ⟨pr, br, cr, rfl, hrs, hbr, hb1⟩
    have HRS := Lib.hid hrs
    have hbw : Below w.heap.size w w1 := ((Below.refl _ _).alloc (Nat.le_refl _) _).trans (hb1.mono (by simp))
    have HB := Lib.hid hbw
    clear hrs hb1 hbw
    go_wp2_with fail
    refine (HRD.out pr br cr _ (HT.out.next HB.out) HRS.out).mono ?_
    rintro e w2 ⟨v, rfl, ho, hb2⟩
    have HO := Lib.hid ho; have HB2 := Lib.hid hb2
    obtain ⟨o, c, rfl⟩ := own_shape ho
    clear ho hb2
    go_wp2_with fail
    go_ret2
    exact ⟨_, rfl, own_base HO.out HB.out.size, HB.out.trans (HB2.out.mono HB.out.size)⟩
  | false =>
    have hr := fun W h => rowOf_no A W h hok
    have he : letE A s = 7 := by unfold letE; rw [hok]; rfl
    have hl : letL A s = [] := by unfold letL; rw [hok]; rfl
    have HE := Lib.hid he; have HL := Lib.hid hl
    obtain ⟨pf, pl, nf, cf, nl, cl, hv, hnf, hnl, hpl, hcl, hpf, hcf⟩ := A.parts
    rw [hv] at hr ⊢
    have HR := Lib.hid hr; have HA := Lib.hid hA
    clear hr he hl hA hT hv hnf hnl hpl hcl hpf hcf
    go_enter Tryz.func34, Tryz.ntmps34
    go_wp2_with fail
    refine (HR.out _ (HA.out.alloc _)).mono ?_
    rintro e w1 ⟨o, c, rfl, hb1⟩
    have HB := Lib.hid hb1
    clear hb1
    go_wp2_with fail
    go_ret2
    exact ⟨.slice none 0 0, by rw [HE.out] <;> rfl, by rw [HL.out]; exact World.ownsRow_nil _ _ _ _, ((Below.refl _ _).alloc (Nat.le_refl _) _).trans (HB.out.mono (by simp))⟩
end Go.Proofs.YtcibjgkifafohaaGreatDoor
