/-
  PLAIN: what is wrong with a word shows within its first 260 bytes.
  WALKS OF THE DOCUMENT's ANSWER: cognateref03.Number, Read.
  WALKS OF THE DOCUMENT's ANSWER: cognateref03.Read, Letters.
-/
import Derived.Test.YtcibjgkifafohaaGreatDoorWdQ
import Derived.Test.YtcibjgkifafohaaGreatDoorRfB
import Derived.Test.YtcibjgkifafohaaGreatDoorPrt
namespace Go.Proofs.YtcibjgkifafohaaGreatDoor
open Go.RowKit Go.Lib
set_option linter.unusedVariables false

theorem decodeN_big {n m : Nat} (hn : 4 ≤ n) (hm : 4 ≤ m) (a b c d : Nat) : decodeN n a b c d = decodeN m a b c d := by
  have n1 : (1 < n) = True := by simp; omega
  have n2 : (2 < n) = True := by simp; omega
  have n3 : (3 < n) = True := by simp; omega
  have m1 : (1 < m) = True := by simp; omega
  have m2 : (2 < m) = True := by simp; omega
  have m3 : (3 < m) = True := by simp; omega
  unfold decodeN
  simp only [n1, n2, n3, m1, m2, m3]
theorem cutW_get {s : ByteArray} (h : ¬ s.size ≤ 260) {i : Nat} (hi : i < 260) : (cutW s).get! i = s.get! i := by
  have hc := cutW_long h
  rw [get_lt (cutW s) i (by omega), get_lt s i (by omega)]
  unfold cutW
  simp only [if_neg h]
  simp [ByteArray.getElem_extract]
theorem cutW_dec {s : ByteArray} (h : ¬ s.size ≤ 260) {p : Nat} (hp : p ≤ 256) : dR (cutW s) p = dR s p ∧ dW (cutW s) p = dW s p := by
  have hc := cutW_long h
  have e : Utf8.decode (cutW s) p = Utf8.decode s p := by
    rw [decode_at, decode_at, cutW_get h (by omega), cutW_get h (by omega), cutW_get h (by omega), cutW_get h (by omega)]
    exact decodeN_big (by omega) (by omega) _ _ _ _
  unfold dR dW
  rw [e]
  exact ⟨rfl, rfl⟩
theorem rdE_cut {row : List Int} {s : ByteArray} (h : ¬ s.size ≤ 260) : ∀ (f p k : Nat), s.size ≤ p + f → p ≤ 4 * k → k ≤ 64 → ∀ g, (cutW s).size ≤ p + g → rdE row s (startsF s f p) k = rdE row (cutW s) (startsF (cutW s) g p) k
  | f, p, k, hf, hp, hk, g, hg => by
    have hc := cutW_long h
    obtain ⟨d1, d2⟩ := cutW_dec h (p := p) (by omega)
    have hb : brk (cutW s) p = brk s p := by unfold brk; rw [d1, d2]
    have h4 := dW_le4 s p
    have h1 := dW_pos s p
    rw [startsF_cons s f p (by omega) hf, startsF_cons (cutW s) g p (by omega) hg, rdE, rdE, hb, d1, d2]
    by_cases hbr : brk s p = true
    · rw [if_pos hbr, if_pos hbr]
    · rw [if_neg hbr, if_neg hbr]
      by_cases hm : (dR s p : Int) ∈ row
      · rw [if_pos hm, if_pos hm]
        by_cases h64 : k = 64
        · rw [if_pos h64, if_pos h64]
        · rw [if_neg h64, if_neg h64]
          match f, hf with
          | 0, hf => omega
          | f + 1, hf =>
            rw [Nat.add_sub_cancel]
            exact rdE_cut h f (p + dW s p) (k + 1) (by omega) (by omega) (by omega) (g - 1) (by omega)
      · rw [if_neg hm, if_neg hm]
/-- What is read of the whole text is what is read of its cut. -/
theorem rdW_whole (row : List Int) (s : ByteArray) : rdW row s = rdE row s (starts s) 0 := by
  by_cases h : s.size ≤ 260
  · unfold rdW; rw [cutW_all h]
  · exact (rdE_cut h s.size 0 0 (by omega) (by omega) (by omega) (cutW s).size (by omega)).symm
theorem rd_same {row : List Int} {s : ByteArray} (h : rdW row s = 0) : cutW s = s := by
  obtain ⟨h1, h2⟩ := rd_word h
  have hs := cutW_size s
  by_cases h3 : s.size ≤ 260
  · exact cutW_all h3
  · exfalso
    have hl := h1.len
    have := textL_length (runesL (cutW s))
    have h4 : (strOf (textL (runesL (cutW s)))).size = s.size := by rw [h2]
    rw [strOf_size] at h4
    omega
end Go.Proofs.YtcibjgkifafohaaGreatDoor
namespace Go.Proofs.YtcibjgkifafohaaGreatDoor
open Go.RowKit Go.Lib
set_option linter.unusedVariables false

theorem fnd_neg (A : Al) (r : Int) : decide (fnd A.ls r 0 < 0) = !decide (r ∈ rowL A) := by
  rcases fnd_findL A.ls r with ⟨h1, h2⟩ | ⟨j, hj, h1, h2⟩
  · rw [h2, decide_eq_true (by decide)]
    symm
    rw [Bool.not_eq_true', decide_eq_false_iff_not]
    intro h
    obtain ⟨l, hl, hr⟩ := List.mem_map.1 h
    unfold findL at h1
    have := List.find?_eq_none.1 h1 l hl
    simp [hr] at this
  · rw [h2, decide_eq_false (by omega)]
    symm
    rw [Bool.not_eq_false', decide_eq_true_eq]
    unfold findL at h1
    exact List.mem_map.2 ⟨_, List.mem_of_find?_eq_some h1, by simpa using List.find?_some h1⟩
set_option maxHeartbeats 1000000 in
set_option maxRecDepth 100000 in
theorem number_any (A : Al) (r : Int) (w : World) (hA : A.In w) :
    Calls Tryz.prog 40 #[A.v, .int .i32 r] w fun e w' => e = .returned (.int .i64 (fnd A.ls r 0)) ∧ Below w.heap.size w w' := by
  obtain ⟨pf, pl, nf, cf, nl, cl, hv, hnf, hnl, hpl, hcl, hpf, hcf⟩ := A.parts
  rw [hv]
  have hat := hA.L.at_
  rw [← hpl] at hat
  have hcr := hA.L.cr
  have hbig := hA.L.big
  obtain ⟨ls, hls⟩ : ∃ l, l = A.ls := ⟨_, rfl⟩
  obtain ⟨bl, hbl⟩ : ∃ l, l = A.bl := ⟨_, rfl⟩
  obtain ⟨l0, hl0⟩ : ∃ l, l = A.l0 := ⟨_, rfl⟩
  rw [← hls] at hat hnl hcr hbig ⊢
  rw [← hbl, ← hl0] at hat hcr
  rw [← hnl] at hat hcr hbig
  obtain ⟨F0, hF0⟩ : ∃ F0, F0 = fnd ls r 0 := ⟨_, rfl⟩
  rw [← hF0]
  have hcw : ∀ j, j < nl → (w.alloc (.cells #[.slice pf nf cf, .slice pl nl cl] 25)).cell? ⟨bl, l0 + j * 3, none⟩ = some (.int .i32 (ls.getD j default).r) := fun j hj => by
    rw [World.cell?_alloc_lt _ _ _ (lt_of_cell (hcr j hj))]; exact hcr j hj
  have HAT := Lib.hid hat; have HCW := Lib.hid hcw; have HNL := Lib.hid hnl; have HF0 := Lib.hid hF0
  clear hA hv hnf hpl hcl hpf hcf hat hcr hls hbl hl0 hcw hnl hF0
  go_enter Tryz.func40, Tryz.ntmps40
  go_wp2_with fail
  go_loop [5] (fun v => ∃ k : Nat, v = .int .i64 k ∧ k ≤ nl ∧ Hid (fnd (ls.drop k) r k = F0)) (fun v => nl - (intOf v).toNat)
  case atStart => exact ⟨0, rfl, Nat.zero_le _, HF0.out.symm⟩
  case round =>
    obtain ⟨k, rfl, hk, HE⟩ := hrel
    by_cases hkn : k < nl
    · obtain rfl := HAT.out (by omega)
      have a0 := HCW.out k hkn
      have hy := fnd_yes ls r k (by rw [← HNL.out]; exact hkn)
      have hn := fnd_no ls r k (by rw [← HNL.out]; exact hkn)
      obtain ⟨q, hq⟩ : ∃ q, q = (ls.getD k default).r := ⟨_, rfl⟩
      rw [← hq] at a0 hy hn
      have HY := Lib.hid hy; have HNo := Lib.hid hn
      clear hy hn hq
      by_cases hqr : q = r
      · have z1 : (q == r) = true := by simp [hqr]
        have HQ := Lib.hid hqr
        clear hqr
        go_wp2_with fail
        go_ret
        exact ⟨by rw [← HE.out, HY.out HQ.out] <;> rfl, (Below.refl _ _).alloc (Nat.le_refl _) _⟩
      · have z1 : (q == r) = false := by simp [hqr]
        have HQ := Lib.hid hqr
        clear hqr
        go_wp2_with fail
        go_round
        case rel => exact ⟨k + 1, by go_num, by omega, (show _ = _ from by rw [← HE.out, HNo.out HQ.out])⟩
        case measure => simp [intOf]; omega
    · obtain rfl : k = nl := by omega
      have hx : F0 = -1 := by rw [← HE.out, HNL.out, List.drop_length]; rfl
      have HX := Lib.hid hx
      clear hx
      go_wp2_with fail
      go_ret
      exact ⟨by rw [HX.out] <;> rfl, (Below.refl _ _).alloc (Nat.le_refl _) _⟩
end Go.Proofs.YtcibjgkifafohaaGreatDoor
namespace Go.Proofs.YtcibjgkifafohaaGreatDoor
open Go.RowKit Go.Lib
set_option linter.unusedVariables false

theorem rdL_whole (row : List Int) (s : ByteArray) : rdL row s = if rdW row s = 0 then runesL s else [] := by
  unfold rdL
  by_cases h : rdW row s = 0
  · rw [if_pos h, if_pos h, rd_same h]
  · rw [if_neg h, if_neg h]

/-- A law's world in which a row of the call's own has grown. -/
theorem Wx.grown {A : Al} {F L : Value} {w : World} {b : Nat} {wk w' : World} {r : Option Nat} (h : Wx A F L w b wk) (hg : wk.grownBy w' r) (hr : ∀ q, r = some q → w.heap.size ≤ q ∧ q ≠ b) (hA : ∀ W, Below w.heap.size w W → A.In W ∧ Tabs W) : Wx A F L w b w' := by
  have hB : Below w.heap.size w w' := h.below.grown hg h.below.size (fun q hq => (hr q hq).1)
  have hne : some b ≠ r := fun e => (hr b e.symm).2 rfl
  exact ⟨(hA w' hB).1, (hA w' hB).2, hg.cell h.c0 hne, hg.cell h.c1 hne, hB, Nat.lt_of_lt_of_le h.lt hg.size⟩

set_option maxHeartbeats 4000000 in
set_option maxRecDepth 100000 in
theorem rread_any (A : Al) (s : ByteArray) (w : World) (hA : A.In w) (hT : Tabs w) (hs : s.size ≤ 9223372036854775807) :
    Calls Tryz.prog 47 #[A.v, .string s, .int .i64 64] w (ReadPost (rowL A) s w) := by
  have kn := fun r w h => number_any A r w h
  have hng := fun r => fnd_neg A r
  have hE : rdW (rowL A) s = rdE (rowL A) s (starts s) 0 := rdW_whole _ _
  have hL := rdL_whole (rowL A) s
  have hP : ReadPost (rowL A) s w = fun e w' => ∃ v : Value, e = .returned (.tuple #[v, .int .i64 (rdW (rowL A) s)]) ∧ w'.ownsRow w.heap.size 21 1 v (if rdW (rowL A) s = 0 then runesL s else []).length ((if rdW (rowL A) s = 0 then runesL s else []).map E32) ∧ Below w.heap.size w w' := by rw [← hL]; rfl
  rw [hP]
  obtain ⟨EE, hEE⟩ : ∃ x, x = rdW (rowL A) s := ⟨_, rfl⟩
  rw [← hEE] at hE ⊢
  obtain ⟨LL, hLL⟩ : ∃ x, x = if EE = 0 then runesL s else [] := ⟨_, rfl⟩
  rw [← hLL]
  have hl0 : EE = 0 → LL = runesL s := fun h => by rw [hLL, if_pos h]
  have hl1 : ¬ EE = 0 → LL = [] := fun h => by rw [hLL, if_neg h]
  have HL0 := Lib.hid hl0; have HL1 := Lib.hid hl1
  clear hLL hl0 hl1
  obtain ⟨row, hrow⟩ : ∃ x, x = rowL A := ⟨_, rfl⟩
  rw [← hrow] at hE
  simp only [← hrow] at hng
  obtain ⟨fd, hfd⟩ : ∃ f : Int → Int, ∀ r, f r = fnd A.ls r 0 := ⟨_, fun _ => rfl⟩
  simp only [← hfd] at kn hng
  obtain ⟨pf, pl, nf, cf, nl, cl, hv, hnf, hnl, hpl, hcl, hpf, hcf⟩ := A.parts
  rw [hv] at kn ⊢
  obtain ⟨i0, hi, hz0, hz1, hz2⟩ := info_parts rune_info32
  have HI0 := Lib.hid hi; have HZ0 := Lib.hid hz0; have HZ1 := Lib.hid hz1; have HZ2 := Lib.hid hz2
  have hbase : ∀ W, Below w.heap.size w W → A.In W ∧ Tabs W := fun W hb => ⟨hA.next hb, hT.next hb⟩
  have HBASE := Lib.hid hbase
  have hsx := Wx.start (F := .slice pf nf cf) (L := .slice pl nl cl) hA hT
  have HS := Lib.hid hsx; have KN := Lib.hid kn; have HNG := Lib.hid hng; have HE := Lib.hid hE
  clear hbase hsx kn hng hE hL hP hEE hrow hfd hv hnf hnl hpl hcl hpf hcf hA hT hi hz0 hz1 hz2
  go_enter Tryz.func47, Tryz.ntmps47
  go_wp2_with fail
  go_loopw [8, 9] (fun v av wr => ∃ (k pos f : Nat), av = .int .i64 pos ∧ pos ≤ s.size ∧ s.size ≤ pos + f ∧ k ≤ 64 ∧ Hid (startsF s f pos = (starts s).drop k) ∧ Hid (EE = rdE row s ((starts s).drop k) k) ∧ Hid (wr.ownsRow (w.heap.size + 1) 21 1 v ((runesL s).take k).length (((runesL s).take k).map E32)) ∧ Hid (Wx A (.slice pf nf cf) (.slice pl nl cl) w w.heap.size wr)) (fun _ av _ => s.size - (intOf av).toNat)
  case atStart => exact ⟨0, 0, s.size, rfl, Nat.zero_le _, by omega, Nat.zero_le _, rfl, HE, World.ownsRow_nil _ _ _ _, HS⟩
  case round =>
    clear HS
    obtain ⟨k, pos, f, rfl, hpos, hf, hk64, HST, HK, HO, HX⟩ := hrel
    obtain ⟨c0, c1, hlt⟩ : wr.cell? ⟨w.heap.size, 0, none⟩ = some (.slice pf nf cf) ∧ wr.cell? ⟨w.heap.size, 1, none⟩ = some (.slice pl nl cl) ∧ w.heap.size < wr.heap.size := ⟨HX.out.c0, HX.out.c1, HX.out.lt⟩
    obtain ⟨oo, co, rfl⟩ := own_shape HO.out
    by_cases hp : pos < s.size
    · have hcons := startsF_cons s f pos hp hf
      rw [HST.out] at hcons
      have hkl : k < (starts s).length := by
        rcases Nat.lt_or_ge k (starts s).length with h | h
        · exact h
        · rw [List.drop_eq_nil_of_le h] at hcons; exact absurd hcons (by simp)
      have hpk : (starts s)[k]? = some pos := by
        rw [List.drop_eq_getElem_cons hkl] at hcons
        rw [List.getElem?_eq_getElem hkl, (List.cons.inj hcons).1]
      have hnx : startsF s (f - 1) (pos + dW s pos) = (starts s).drop (k + 1) := by
        rw [List.drop_eq_getElem_cons hkl] at hcons
        exact (List.cons.inj hcons).2.symm
      have hw1 := dW_pos s pos
      have hw2 := dW_fits s pos hp
      have kd := fun w hT => decode_cut s pos w hp hT
      have HPK := Lib.hid hpk; have HNX := Lib.hid hnx
      clear hcons hpk hnx
      obtain ⟨len, hlen⟩ : ∃ x, x = ((runesL s).take k).length := ⟨_, rfl⟩
      have hlen2 : len = k := by rw [hlen, List.length_take, runesL_length]; omega
      rw [← hlen] at HO ⊢
      have HLEN := Lib.hid hlen
      clear hlen
      subst hlen2
      obtain ⟨q, hq⟩ : ∃ q : Int, q = (dR s pos : Int) := ⟨_, rfl⟩
      obtain ⟨d, hd⟩ : ∃ d, d = dW s pos := ⟨_, rfl⟩
      rw [← hq, ← hd] at kd
      rw [← hd] at hw1 hw2 HNX
      have HQ := Lib.hid hq; have KD := Lib.hid kd
      have hngq := HNG.out q
      have hbk : brk s pos = decide (q = 65533 ∧ d = 1) := by unfold brk; rw [decide_eq_decide, hq, hd]; omega
      clear kd hq hd
      cases hb : brk s pos with
      | true =>
        rw [hb] at hbk
        obtain ⟨hb1, hb2⟩ := of_decide_eq_true hbk.symm
        have h6 : EE = 6 := by rw [HK.out, rdE_brk HPK.out hb]
        have H6 := Lib.hid h6
        have z1 : (q == 65533) = true := by simp [hb1]
        have z2 : ((d : Int) == 1) = true := by simp [hb2]
        clear hb hbk h6 hb1 hb2 hngq
        go_wp2_with fail
        refine (KD.out _ HX.out.t).mono ?_
        rintro _ w2 ⟨rfl, hb2⟩
        have hx2 := HX.out.next hb2
        have HX2 := Lib.hid hx2
        clear hx2 hb2
        go_wp2_with fail
        go_ret2
        refine ⟨.slice none 0 0, by rw [H6.out] <;> rfl, ?_, HX2.out.below⟩
        rw [HL1.out (by rw [H6.out]; decide)]
        exact World.ownsRow_nil _ _ _ _
      | false =>
        rw [hb] at hbk
        have hnb := of_decide_eq_false hbk.symm
        have zz : ((q == 65533) = false) ∨ ((q == 65533) = true ∧ ((d : Int) == 1) = false) := by
          by_cases h1 : q = 65533
          · exact Or.inr ⟨by simp [h1], by simp; omega⟩
          · exact Or.inl (by simp [h1])
        by_cases hmem : q ∈ row
        · rw [decide_eq_true hmem] at hngq
          by_cases h64 : len = 64
          · have h4 : EE = 4 := by
              rw [HK.out]
              subst h64
              exact rdE_many HPK.out hb (by rw [← HQ.out]; exact hmem)
            have H4 := Lib.hid h4
            have z3 : ((len : Int) == 64) = true := by simp [h64]
            have z4 : ¬ fd q < 0 := by simpa using hngq
            clear hb hbk hnb h4 h64 hngq hmem
            rcases zz with z1 | ⟨z1, z2⟩
            all_goals
              go_wp2_with fail
              refine (KD.out _ HX.out.t).mono ?_
              rintro _ w2 ⟨rfl, hb2⟩
              have hx2 := HX.out.next hb2
              have HX2 := Lib.hid hx2
              obtain ⟨c0', c1', hlt'⟩ : w2.cell? ⟨w.heap.size, 0, none⟩ = some (.slice pf nf cf) ∧ w2.cell? ⟨w.heap.size, 1, none⟩ = some (.slice pl nl cl) ∧ w.heap.size < w2.heap.size := ⟨hx2.c0, hx2.c1, hx2.lt⟩
              clear hx2 hb2
              go_wp2_with fail
              refine (KN.out _ _ HX2.out.i).mono ?_
              rintro _ w3 ⟨rfl, hb3⟩
              have HX3 := Lib.hid (HX2.out.next hb3)
              clear hb3
              go_wp2_with fail
              go_ret2
              refine ⟨.slice none 0 0, by rw [H4.out] <;> rfl, ?_, HX3.out.below⟩
              rw [HL1.out (by rw [H4.out]; decide)]
              exact World.ownsRow_nil _ _ _ _
          · have hon : EE = rdE row s ((starts s).drop (len + 1)) (len + 1) := by rw [HK.out, rdE_on HPK.out hb (by rw [← HQ.out]; exact hmem) h64]
            have HON := Lib.hid hon
            have z3 : ((len : Int) == 64) = false := by simp; omega
            have z4 : ¬ fd q < 0 := by simpa using hngq
            have hk' : len + 1 ≤ 64 := by omega
            clear hb hbk hnb hon h64 hngq hmem
            rcases zz with z1 | ⟨z1, z2⟩
            all_goals
              go_wp2_with fail
              refine (KD.out _ HX.out.t).mono ?_
              rintro _ w2 ⟨rfl, hb2⟩
              have hx2 := HX.out.next hb2
              have HX2 := Lib.hid hx2
              have HO2 := Lib.hid (own_below HO.out hb2)
              obtain ⟨c0', c1', hlt'⟩ : w2.cell? ⟨w.heap.size, 0, none⟩ = some (.slice pf nf cf) ∧ w2.cell? ⟨w.heap.size, 1, none⟩ = some (.slice pl nl cl) ∧ w.heap.size < w2.heap.size := ⟨hx2.c0, hx2.c1, hx2.lt⟩
              clear hx2 hb2
              go_wp2_with fail
              refine (KN.out _ _ HX2.out.i).mono ?_
              rintro _ w3 ⟨rfl, hb3⟩
              have hx3 := HX2.out.next hb3
              have HX3 := Lib.hid hx3
              have HO3 := Lib.hid (own_below HO2.out hb3)
              have hsz3 := hx3.lt
              clear hb3 hx3 HO2
              go_wp2_with (at_builtin; refine wpList_append_own _ rfl (.tmp 40) (.tmp 42) 40 rfl (w.heap.size + 1) 21 i0 (.int .i32 0) 1 4 Tryz.underlying40 HI0.out HZ0.out HZ1.out HZ2.out rfl (by decide) _ _ _ rfl (HO3.out.alloc _) ⟨w3.heap.size, 0, none⟩ 1 1 [.int .i32 q] rfl rfl ?c1 ?c2 ?c3 ?c4 ?c5 ?_)
              case c1 =>
                intro j u hj
                match j, hj with
                | 0, hj => simp at hj; subst hj; simp [Addr.add]
                | j + 1, hj => simp at hj
              case c2 => intro u hu; simp at hu; subst hu; rfl
              case c3 => unfold maxLen; omega
              case c4 => omega
              case c5 => simp; omega
              intro v4 w4 hown4 hgrow4 hnil4
              have hO4 : w4.ownsRow (w.heap.size + 1) 21 1 v4 ((runesL s).take (len + 1)).length (((runesL s).take (len + 1)).map E32) := by
                rw [runesL_snoc HPK.out, List.length_append, ← HLEN.out, List.map_append, ← HQ.out]
                simpa only [List.map_take, List.map_cons, List.map_nil, List.length_cons, List.length_nil, Nat.zero_add] using hown4
              have hgb := grown_step (World.grownBy_alloc w3 (.cells #[.int .i32 q] 21) (Value.slice oo len co).ownBlock) hgrow4 (fun q hq => Or.inl hq)
              have hW4 := HX3.out.grown hgb (fun q hq => by have := (HO3.out.lt q hq).1; omega) HBASE.out
              have HO4 := Lib.hid hO4; have HW4 := Lib.hid hW4
              clear hO4 hgb hW4 hown4 hgrow4 hnil4
              go_wp2_with fail
              go_roundw
              case rel => exact ⟨len + 1, pos + d, f - 1, by go_num, by omega, by omega, hk', HNX, HON, HO4, HW4⟩
              case measure => simp [intOf]; omega
        · have h5 : EE = 5 := by rw [HK.out, rdE_not HPK.out hb (by rw [← HQ.out]; exact hmem)]
          rw [decide_eq_false hmem] at hngq
          have z4 : fd q < 0 := by simpa using hngq
          have H5 := Lib.hid h5
          clear hb hbk hnb h5 hngq hmem
          rcases zz with z1 | ⟨z1, z2⟩
          all_goals
            go_wp2_with fail
            refine (KD.out _ HX.out.t).mono ?_
            rintro _ w2 ⟨rfl, hb2⟩
            have hx2 := HX.out.next hb2
            have HX2 := Lib.hid hx2
            obtain ⟨c0', c1', hlt'⟩ : w2.cell? ⟨w.heap.size, 0, none⟩ = some (.slice pf nf cf) ∧ w2.cell? ⟨w.heap.size, 1, none⟩ = some (.slice pl nl cl) ∧ w.heap.size < w2.heap.size := ⟨hx2.c0, hx2.c1, hx2.lt⟩
            clear hx2 hb2
            go_wp2_with fail
            refine (KN.out _ _ HX2.out.i).mono ?_
            rintro _ w3 ⟨rfl, hb3⟩
            have HX3 := Lib.hid (HX2.out.next hb3)
            clear hb3
            go_wp2_with fail
            go_ret2
            refine ⟨.slice none 0 0, by rw [H5.out] <;> rfl, ?_, HX3.out.below⟩
            rw [HL1.out (by rw [H5.out]; decide)]
            exact World.ownsRow_nil _ _ _ _
    · have h0 : EE = 0 := by rw [HK.out, ← HST.out, startsF_end s f pos hp]; rfl
      have hall : (runesL s).take k = runesL s := by
        have h1 := HST.out
        rw [startsF_end s f pos hp] at h1
        have h2 := congrArg List.length h1
        rw [List.length_nil, List.length_drop] at h2
        exact List.take_of_length_le (by rw [runesL_length]; omega)
      rw [hall] at HO
      rw [hall]
      have H0 := Lib.hid h0
      clear h0
      go_wp2_with fail
      go_ret2
      refine ⟨_, by rw [H0.out] <;> rfl, ?_, HX.out.below⟩
      rw [HL0.out H0.out]
      exact own_base HO.out (Nat.le_succ _)
end Go.Proofs.YtcibjgkifafohaaGreatDoor
