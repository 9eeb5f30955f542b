/-
  WALKS: word.Sort.
-/
import Derived.Test.YtcibjgkifafohaaDoorSrtP
namespace Go.Proofs.YtcibjgkifafohaaDoor
open Go.RowKit Go.Lib
set_option linter.unusedVariables false

def srtE (A : Al) (l : List ByteArray) : Int := if A.ok then rdaE (rowL A) l else 7
def SrtNo (A : Al) (l : List ByteArray) (w : World) (e : Ending) (w' : World) : Prop := e = .returned (.tuple #[.slice none 0 0, .int .i64 (srtE A l)]) ∧ Below w.heap.size w w'
def SrtYes (A : Al) (l : List ByteArray) (w : World) (e : Ending) (w' : World) : Prop :=
  ∃ v T, e = .returned (.tuple #[v, .int .i64 0]) ∧ SrtOf (rowL A) l T ∧ w'.ownsRow w.heap.size 9 1 v T.length (T.map Value.string) ∧ Below w.heap.size w w'

set_option maxHeartbeats 2000000 in
set_option maxRecDepth 100000 in
theorem wsort_no (A : Al) (sr : Option Addr) (ur s0 cs : Nat) (l : List ByteArray) (w : World) (hA : A.In w) (hT : Tabs w) (hS : SsIn sr ur s0 l w) (h : ¬ srtE A l = 0) :
    Calls Tryd.prog 35 #[A.v, .slice sr l.length cs] w (SrtNo A l w) := by
  unfold SrtNo
  cases hok : A.ok with
  | false =>
    have hr := fun W h => rowOf_no A W h hok
    have he : srtE A l = 7 := by unfold srtE; rw [hok]; rfl
    rw [he]
    unfold RowNo at hr
    obtain ⟨n, hn⟩ : ∃ n, n = l.length := ⟨_, rfl⟩
    rw [← hn]
    obtain ⟨pf, pl, nf, cf, nl, cl, hv, hnf, hnl, hpl, hcl, hpf, hcf⟩ := A.parts
    rw [hv] at hr ⊢
    have HR := Lib.hid hr; have HA := Lib.hid hA
    clear hr hA hT hS hv hnf hnl hpl hcl hpf hcf he hn h
    go_enter Tryd.func35, Tryd.ntmps35
    go_wp2_with fail
    refine (HR.out _ (HA.out.alloc _)).mono ?_
    rintro e w1 ⟨o, c, rfl, hb1⟩
    have HB := Lib.hid (show Below w.heap.size w w1 from ((Below.refl _ _).alloc (Nat.le_refl _) _).trans (hb1.mono (by simp)))
    clear hb1
    go_wp2_with fail
    go_ret2
    exact ⟨rfl, HB.out.alloc (by have := HB.out.size; omega) _⟩
  | true =>
    have hr := fun W h => rowOf_yes A W h hok
    unfold RowYes at hr
    have kra := fun pr br cr W hT hR hS => readAll_any pr br cr (rowL A) sr ur s0 cs l W hT hR hS
    unfold RdaPost at kra
    have he : srtE A l = rdaE (rowL A) l := by unfold srtE; rw [hok, if_pos rfl]
    rw [he] at h ⊢
    obtain ⟨n, hn⟩ : ∃ n, n = l.length := ⟨_, rfl⟩
    obtain ⟨m, hm⟩ : ∃ m, m = (rowL A).length := ⟨_, rfl⟩
    obtain ⟨E, hE⟩ : ∃ E, E = rdaE (rowL A) l := ⟨_, rfl⟩
    obtain ⟨pf, pl, nf, cf, nl, cl, hv, hnf, hnl, hpl, hcl, hpf, hcf⟩ := A.parts
    rw [hv] at hr ⊢
    rw [← hm] at hr kra
    rw [← hn] at kra ⊢
    rw [← hE] at kra h ⊢
    have e1 : (E == 0) = false := by simp [h]
    have e2 : (E != 0) = true := by simp [h]
    have HR := Lib.hid hr; have HA := Lib.hid hA; have HT := Lib.hid hT; have HS := Lib.hid hS; have KRA := Lib.hid kra; have H0 := Lib.hid h
    clear hr hA hT hS kra hv hnf hnl hpl hcl hpf hcf he hn hm hE h
    go_enter Tryd.func35, Tryd.ntmps35
    go_wp2_with fail
    refine (HR.out _ (HA.out.alloc _)).mono ?_
    rintro e w1 ⟨qr, vr, cq, rfl, hrs, hbr, hb1⟩
    have HRS := Lib.hid hrs
    have hbw : Below w.heap.size w w1 := ((Below.refl _ _).alloc (Nat.le_refl _) _).trans (hb1.mono (by simp))
    have HB := Lib.hid hbw
    have hsz1 := hbw.size
    clear hb1 hbw hrs
    go_wp2_with fail
    refine (KRA.out _ _ _ _ (HT.out.next (HB.out.alloc hsz1 _)) (HRS.out.next ((Below.refl _ _).alloc (Nat.le_refl _) _)) (HS.out.next (HB.out.alloc hsz1 _))).mono ?_
    rintro e w2 ⟨va, ve, rfl, _, h1, hb2⟩
    obtain ⟨rfl, rfl⟩ := h1 H0.out
    have HB2 := Lib.hid ((HB.out.alloc hsz1 (.cells #[.slice qr m cq] 22)).trans (hb2.mono (by simp; omega)))
    clear h1 hb2
    go_wp2_with fail
    go_ret2
    exact ⟨rfl, HB2.out⟩

/-! ### the sort's world as a row of the call's own -/
theorem own_sortW {α : Type} [Inhabited α] (enc : α → Value) {w : World} {B g cap n m : Nat} {e : TypeId} {os : Array Obj} {xs : List Value} (d : Array α) (h : w.ownsRow B e 1 (.slice (some ⟨g, 0, none⟩) n cap) n xs) (hd : d.size = n) :
    (sortWorld enc w g 0 m d os).ownsRow B e 1 (.slice (some ⟨g, 0, none⟩) n cap) n (d.toList.map enc) := by
  rcases h.2 with ⟨he, _⟩ | ⟨g', cap', cur, he, hB, hb, h1, h2, h3, _⟩
  · cases he
  · cases he
    have hg : g < w.heap.size := (Array.getElem?_eq_some_iff.1 hb).1
    refine ⟨by simp [hd], .inr ⟨g, cap, Sort.putCells enc 0 d cur, rfl, hB, ?_, h1, h2, by simp [Sort.putCells, h3], ?_⟩⟩
    · unfold sortWorld
      rw [Sort.heap_grow_old _ _ (by simp [Sort.putRow, Sort.mapBlock, Sort.ahead]; omega)]
      simp [Sort.putRow, Sort.mapBlock, Sort.ahead, Array.getElem?_modify, hb, Sort.onCells]
    · rw [Nat.mul_one]
      apply List.ext_getElem?
      intro j
      by_cases hj : j < n
      · rw [List.getElem?_take_of_lt hj, Array.getElem?_toList, List.getElem?_map, Array.getElem?_toList, Array.getElem?_eq_getElem (xs := d) (show j < d.size by omega)]
        simp [Sort.putCells, show j < cur.size by omega, show j < d.size by omega]
      · rw [List.getElem?_take_eq_none (by omega), List.getElem?_eq_none (by simp; omega)]
/-- What the sort leaves of the words. -/
def SfPost (row : List Int) (l : List ByteArray) (B g cap : Nat) (W : World) (e : Ending) (W' : World) : Prop :=
  e = .returned (.tuple #[]) ∧ ∃ (D : List Value) (X : Nat → List Int), W'.ownsRow B 22 1 (.slice (some ⟨g, 0, none⟩) l.length cap) l.length D ∧ W.grownBy W' (some g) ∧
    (∀ j, j < l.length → ∃ p b o c, D[j]? = some (.slice p (X j).length c) ∧ RsIn p b o (X j) W ∧ (0 < (X j).length → b ≠ g)) ∧
    (∀ i j, i < j → j < l.length → ¬ Ahd row (X j) (X i)) ∧ (∀ x, (∃ i, i < l.length ∧ X i = x) ↔ x ∈ l.map fun s => runesL (cutW s)) ∧ (∀ i, i < l.length → ∀ r ∈ X i, r ∈ row)
theorem sorted_any {B : Nat} {oa : Option Addr} {ca : Nat} {row : List Int} {l : List ByteArray} (rb : Nat) (pr : Option Addr) (br r0 cr g cap : Nat) (w : World) (hl : l.length ≤ 4096) (hrd : alE row l = 0)
    (ho : w.ownsRow B 21 1 (.slice oa (alL l).length ca) (alL l).length ((alL l).map E32))
    (hc : w.cell? ⟨rb, 0, none⟩ = some (.slice pr row.length cr)) (hW : RsIn pr br r0 row w) (hn1 : rb ≠ g) (hn2 : br ≠ g) (hn3 : (Value.slice oa (alL l).length ca).ownBlock ≠ some g)
    (hw : w.ownsRow B 22 1 (.slice (some ⟨g, 0, none⟩) l.length cap) l.length (cutCs oa (enL l l.length) l.length)) :
    Calls Tryd.prog 63 #[.slice (some ⟨g, 0, none⟩) l.length cap, .func (.func 64) #[] #[.pointer (some ⟨rb, 0, none⟩)]] w (SfPost row l B g cap w) := by
  have hal := alL_le l
  have hLr : ∀ r ∈ alL l, r ∈ row := fun r hr => by
    obtain ⟨s, hs, hr⟩ := List.mem_flatMap.1 hr
    exact (rd_word (alE_zero.1 hrd s hs)).1.mem r hr
  have hsz : (wpL l).toArray.size = l.length := by rw [List.size_toArray, wpL_len]
  have hH : Sort.Holds (encP oa) w g 0 (wpL l).toArray := fun j hj => by
    rw [hsz] at hj
    refine ⟨?_, hw.frozenAt _⟩
    rw [Nat.zero_add, hw.cellAt j (by omega), ← wpL_cut, List.getElem?_map, getElem!_pos _ j (by rw [hsz]; exact hj), List.getElem?_eq_getElem (by rw [wpL_len]; exact hj)]
    rfl
  have hblk : g < w.heap.size := (hw.lt g rfl).2
  have h1 := sortf_any (B := B) (oa := oa) (ca := ca) (row := row) (L := alL l) rb pr br r0 cr g cap (wpL l).toArray w ho (by omega) hLr hc hW hn1 hn2 hn3 hH hblk (by rw [hsz]; omega)
  rw [hsz] at h1
  refine h1.mono ?_
  rintro e W' ⟨rfl, d', n, os, hp, hs, rfl⟩
  obtain ⟨hps, hpo, hpp⟩ := hp
  rw [hsz] at hps
  have he1 : d'.extract 0 l.length = d' := by rw [← hps]; exact Array.extract_size
  have he2 : (wpL l).toArray.extract 0 l.length = (wpL l).toArray := by rw [← hsz]; exact Array.extract_size
  rw [he1, he2] at hpp
  have hat : ∀ j, (hj : j < l.length) → d'[j]! = d'.toList[j]'(by rw [Array.length_toList, hps]; exact hj) := fun j hj => by
    rw [getElem!_pos d' j (by rw [hps]; exact hj), Array.getElem_toList]
  refine ⟨rfl, d'.toList.map (encP oa), fun j => wordP (alL l) d'[j]!, own_sortW (encP oa) d' hw hps, sortW_grown (encP oa) w g 0 n d' os, fun j hj => ?_, fun i j hij hj => ?_, fun x => ?_, fun i hi r hr => wordP_mem hLr _ r hr⟩
  · obtain ⟨p, b, o, c, h1, h2, h3⟩ := partV_rs ho (by omega) d'[j]!.1.1 d'[j]!.1.2 d'[j]!.2.1 d'[j]!.2.2
    refine ⟨p, b, o, c, ?_, h2, fun h e => hn3 (by rw [h3 h, e])⟩
    rw [List.getElem?_map, List.getElem?_eq_getElem (by rw [Array.length_toList, hps]; exact hj), ← hat j hj]
    exact congrArg some h1
  · have h2 := hs i j (Nat.zero_le _) hij hj
    unfold ltOf at h2
    rw [cfP_lex hLr, decide_eq_false_iff_not] at h2
    exact h2
  · constructor
    · rintro ⟨i, hi, rfl⟩
      rw [← wpL_words]
      refine List.mem_map.2 ⟨d'[i]!, ?_, rfl⟩
      rw [hat i hi]
      exact hpp.mem_iff.1 (List.getElem_mem _)
    · intro hx
      rw [← wpL_words] at hx
      obtain ⟨p, hp, rfl⟩ := List.mem_map.1 hx
      obtain ⟨i, hi, rfl⟩ := List.getElem_of_mem (hpp.mem_iff.2 hp)
      have hi' : i < l.length := by rw [Array.length_toList, hps] at hi; exact hi
      exact ⟨i, hi', by show wordP (alL l) d'[i]! = _; rw [hat i hi']⟩
theorem own_ss {w : World} {B : Nat} {v : Value} {l : List ByteArray} (h : w.ownsRow B 9 1 v l.length (l.map Value.string)) (hb : l.length ≤ 140737488355328) : ∃ pr br cr, v = .slice pr l.length cr ∧ SsIn pr br 0 l w := by
  rcases h.2 with ⟨rfl, hn⟩ | ⟨g, cap, cur, rfl, _⟩
  · exact ⟨none, 0, 0, by rw [hn], ⟨fun h => absurd h (by omega), fun j hj => absurd hj (by omega), hb⟩⟩
  · refine ⟨_, g, cap, rfl, ⟨fun _ => rfl, fun j hj => ?_, hb⟩⟩
    rw [Nat.zero_add, h.cellAt j (by omega), List.getElem?_map, getS_at hj, List.getElem?_eq_getElem hj]
    rfl
/-- The words that are kept, as texts. -/
def kpT (X : Nat → List Int) (n : Nat) : List ByteArray := (kpW X n).map fun x => strOf (textL x)
theorem kpT_srt {row : List Int} {l : List ByteArray} {X : Nat → List Int} (hrd : alE row l = 0) (hs : ∀ i j, i < j → j < l.length → ¬ Ahd row (X j) (X i)) (hm : ∀ x, (∃ i, i < l.length ∧ X i = x) ↔ x ∈ l.map fun s => runesL (cutW s))
    (hX : ∀ i, i < l.length → ∀ r ∈ X i, r ∈ row) : SrtOf row l (kpT X l.length) := by
  have hin : ∀ x ∈ kpW X l.length, ∃ s ∈ l, runesL (cutW s) = x ∧ strOf (textL x) = s := fun x hx => by
    obtain ⟨i, hi, rfl⟩ := mem_kpW hx
    obtain ⟨s, hs1, hs2⟩ := List.mem_map.1 ((hm (X i)).1 ⟨i, hi, rfl⟩)
    exact ⟨s, hs1, hs2, by rw [← hs2]; exact (rd_word (alE_zero.1 hrd s hs1)).2⟩
  refine ⟨fun s => ⟨fun h => ?_, fun h => ?_⟩, ?_, by unfold kpT; rw [List.length_map]; exact kpW_len _ _⟩
  · obtain ⟨x, hx, rfl⟩ := List.mem_map.1 h
    obtain ⟨s, h1, h2, h3⟩ := hin x hx
    rw [h3]; exact h1
  · obtain ⟨i, hi, he⟩ := (hm (runesL (cutW s))).2 (List.mem_map.2 ⟨s, h, rfl⟩)
    refine List.mem_map.2 ⟨X i, kpW_mem i hi, ?_⟩
    rw [he]
    exact (rd_word (alE_zero.1 hrd s h)).2
  · unfold kpT
    rw [List.pairwise_map]
    refine (kpW_asc hX hs).imp_of_mem fun {x y} hx hy hxy => ?_
    obtain ⟨s, _, h2, h3⟩ := hin x hx
    obtain ⟨t, _, h4, h5⟩ := hin y hy
    rw [h3, h5, h2, h4]
    exact hxy
theorem str_info : (Tryd.prog.info? 9).map (fun i => (i.zero, i.size, i.bytes)) = some (some (.string ByteArray.empty), 1, 16) := by kernel_rfl

/-- The row of texts while it is filled. -/
def fillT (T : List ByteArray) (j : Nat) : List Value := (T.take j).map Value.string ++ List.replicate (T.length - j) (.string ByteArray.empty)
theorem fillT_zero (T : List ByteArray) : fillT T 0 = List.replicate T.length (.string ByteArray.empty) := by simp [fillT]
theorem fillT_all (T : List ByteArray) : fillT T T.length = T.map Value.string := by simp [fillT]
theorem fillT_set (T : List ByteArray) (j : Nat) (hj : j < T.length) : (fillT T j).set j (.string (T.getD j ByteArray.empty)) = fillT T (j + 1) := by
  unfold fillT
  rw [List.take_succ_eq_append_getElem hj, getS_at hj, List.map_append, show T.length - j = (T.length - (j + 1)) + 1 by omega, List.replicate_succ]
  have e : ((T.take j).map Value.string).length = j := by rw [List.length_map, List.length_take]; omega
  rw [List.set_append_right _ _ (by omega), e, Nat.sub_self]
  simp
/-- The kept words in memory. -/
def KpW (g : Nat) (T : List ByteArray) (w : World) : Prop := ∀ j, j < T.length → ∃ p b o c x, w.cell? ⟨g, j, none⟩ = some (.slice p (List.length x) c) ∧ RsIn p b o x w ∧ T.getD j ByteArray.empty = strOf (textL x)
theorem KpW.next {g : Nat} {T : List ByteArray} {w w' : World} (h : KpW g T w) (hb : Below w.heap.size w w') : KpW g T w' := fun j hj => by
  obtain ⟨p, b, o, c, x, h1, h2, h3⟩ := h j hj
  exact ⟨p, b, o, c, x, (hb.cell (p := ⟨g, j, none⟩) (lt_of_cell h1)).trans h1, h2.next hb, h3⟩
/-- The same, below a mark. -/
def KpZ (g z : Nat) (T : List ByteArray) (w : World) : Prop := ∀ j, j < T.length → ∃ p b o c x, w.cell? ⟨g, j, none⟩ = some (.slice p (List.length x) c) ∧ g < z ∧ RsIn p b o x w ∧ (0 < List.length x → b < z) ∧ T.getD j ByteArray.empty = strOf (textL x)
theorem KpW.z {g : Nat} {T : List ByteArray} {w : World} (h : KpW g T w) : KpZ g w.heap.size T w := fun j hj => by
  obtain ⟨p, b, o, c, x, h1, h2, h3⟩ := h j hj
  exact ⟨p, b, o, c, x, h1, lt_of_cell h1, h2, fun h => lt_of_cell (h2.cells 0 h), h3⟩
theorem KpZ.next {g z : Nat} {T : List ByteArray} {w w' : World} (h : KpZ g z T w) (hb : Below z w w') : KpZ g z T w' := fun j hj => by
  obtain ⟨p, b, o, c, x, h1, h2, h3, h4, h5⟩ := h j hj
  exact ⟨p, b, o, c, x, (hb.cell (p := ⟨g, j, none⟩) h2).trans h1, h2, ⟨h3.at_, fun i hi => (hb.cell (p := ⟨b, o + i, none⟩) (h4 (by omega))).trans (h3.cells i hi), h3.big⟩, h4, h5⟩

set_option maxHeartbeats 8000000 in
set_option maxRecDepth 100000 in
theorem wsort_yes (A : Al) (sr : Option Addr) (ur s0 cs : Nat) (l : List ByteArray) (w : World) (hA : A.In w) (hT : Tabs w) (hS : SsIn sr ur s0 l w) (h : srtE A l = 0) :
    Calls Tryd.prog 35 #[A.v, .slice sr l.length cs] w (SrtYes A l w) := by
  unfold SrtYes
  have hok : A.ok = true := by
    cases hok : A.ok with
    | true => rfl
    | false => unfold srtE at h; rw [hok] at h; simp at h
  have h0 : rdaE (rowL A) l = 0 := by unfold srtE at h; rw [hok, if_pos rfl] at h; exact h
  have hle := rdaE_len h0
  have hrd : alE (rowL A) l = 0 := by unfold rdaE at h0; rw [if_neg (by omega)] at h0; exact h0
  have hal := alL_le l
  have hr := fun W h => rowOf_yes A W h hok
  unfold RowYes at hr
  have kra := fun pr br cr W hT hR hS => readAll_any pr br cr (rowL A) sr ur s0 cs l W hT hR hS
  unfold RdaPost at kra
  rw [h0] at kra
  have kcut := fun (B : Nat) (oa : Option Addr) (ca : Nat) (np : Option Addr) (nb nc : Nat) (W : World) ho hN => cut_any (B := B) (oa := oa) (na := (alL l).length) (ca := ca) (L := alL l) (np := np) (nb := nb) (nc := nc) (EN := enL l l.length) W ho hN
    (fun k hk => en_bounds l k (by rw [enL_len] at hk; exact hk)) (by rw [enL_len]; exact hle) (by omega)
  rw [enL_len] at kcut
  have ksf := fun (B : Nat) (oa : Option Addr) (ca rb : Nat) (pr : Option Addr) (br cr g cap : Nat) (W : World) => sorted_any (B := B) (oa := oa) (ca := ca) (row := rowL A) (l := l) rb pr br 0 cr g cap W hle hrd
  have hns := fun (W : World) (B : Nat) (v : Value) (h : W.ownsRow B 3 1 v l.length ((enL l l.length).map E64)) => own_ns (l := enL l l.length) (by rw [enL_len]; exact h) (by rw [enL_len]; omega)
  rw [enL_len] at hns
  obtain ⟨n, hn⟩ : ∃ n, n = l.length := ⟨_, rfl⟩
  obtain ⟨m, hm⟩ : ∃ m, m = (rowL A).length := ⟨_, rfl⟩
  obtain ⟨k, hk⟩ : ∃ k, k = (alL l).length := ⟨_, rfl⟩
  obtain ⟨pf, pl, nf, cf, nl, cl, hv, hnf, hnl, hpl, hcl, hpf, hcf⟩ := A.parts
  rw [hv] at hr ⊢
  rw [← hm] at hr kra ksf
  rw [← hn] at kra kcut ksf hns hle hal ⊢
  rw [← hk] at kra kcut ksf hal
  have HR := Lib.hid hr; have HA := Lib.hid hA; have HT := Lib.hid hT; have HS := Lib.hid hS; have KRA := Lib.hid kra; have KCUT := Lib.hid kcut; have KSF := Lib.hid ksf; have HNS := Lib.hid hns
  have HN := Lib.hid hn; have HRD := Lib.hid hrd
  clear hr hA hT hS kra kcut ksf hns hv hnf hnl hpl hcl hpf hcf hn hm hk h0 h hrd
  go_enter Tryd.func35, Tryd.ntmps35
  go_wp2_with fail
  refine (HR.out _ (HA.out.alloc _)).mono ?_
  rintro e w1 ⟨qr, vr, cq, rfl, hrs, hbr, hb1⟩
  have HRS := Lib.hid hrs
  have hbw : Below w.heap.size w w1 := ((Below.refl _ _).alloc (Nat.le_refl _) _).trans (hb1.mono (by simp))
  have HB := Lib.hid hbw
  have hsz1 := hbw.size
  clear hb1 hbw hrs
  go_wp2_with fail
  refine (KRA.out _ _ _ _ (HT.out.next (HB.out.alloc hsz1 _)) (HRS.out.next ((Below.refl _ _).alloc (Nat.le_refl _) _)) (HS.out.next (HB.out.alloc hsz1 _))).mono ?_
  rintro e w2 ⟨va, ve, rfl, h1, _, hb2⟩
  obtain ⟨ha, hve⟩ := h1 trivial
  obtain ⟨oa, ca, rfl⟩ := own_shape ha
  obtain ⟨np, nb, nc, rfl, hnn⟩ := HNS.out _ _ _ hve
  have hc1 : w2.cell? ⟨w1.heap.size, 0, none⟩ = some (.slice qr m cq) := by
    rw [hb2.cell (p := ⟨w1.heap.size, 0, none⟩) (by simp)]
    simp
  have hR2 : RsIn qr vr 0 (rowL A) w2 := (HRS.out.next ((Below.refl _ _).alloc (Nat.le_refl _) _)).next hb2
  have hsz2 : w1.heap.size < w2.heap.size := by have := hb2.size; simp at this; omega
  have HB2 := Lib.hid ((HB.out.alloc hsz1 (.cells #[.slice qr m cq] 22)).trans (hb2.mono (by simp; omega)))
  have HA2 := Lib.hid ha; have HN2 := Lib.hid hnn; have HR2 := Lib.hid hR2; have HC2 := Lib.hid hc1
  clear h1 hb2 ha hve hnn hR2 hc1
  go_wp2_with fail
  refine (KCUT.out _ _ _ _ _ _ _ HA2.out HN2.out).mono ?_
  rintro e w3 ⟨vw, rfl, hw3, hb3, hnil⟩
  rcases hw3.2 with ⟨he, _⟩ | ⟨g, cap, cur, rfl, hg1, hg2, hg3, hg4, hg5, hg6⟩
  · exact absurd he hnil
  have HW3 := Lib.hid hw3
  have HA3 := Lib.hid (own_below HA2.out hb3)
  have HR3 := Lib.hid (HR2.out.next hb3)
  have HC3 := Lib.hid (show w3.cell? ⟨w1.heap.size, 0, none⟩ = some (.slice qr m cq) from (hb3.cell (p := ⟨w1.heap.size, 0, none⟩) (by omega)).trans HC2.out)
  have HB3 := Lib.hid (HB2.out.trans (hb3.mono HB2.out.size))
  have hsz3 : w.heap.size ≤ w2.heap.size := HB2.out.size
  have hn3 : (Value.slice oa k ca).ownBlock ≠ some g := fun e => by have := (HA2.out.lt g e).2; omega
  clear hg2 hg5 hg6 hb3 hw3 hnil
  go_wp2_with fail
  refine (KSF.out w.heap.size oa ca w1.heap.size qr vr cq g cap w3 (own_base HA3.out (by simp; omega)) HC3.out HR3.out (by omega) (by omega) hn3 (own_base HW3.out hsz3)).mono ?_
  rintro e w4 ⟨rfl, D, X, ho4, hg4', hat, hs, hm, hX⟩
  rw [← HN.out] at ho4 hat hs hm hX
  have kcf := compf_any w.heap.size g cap n D (fun i => decide (X i = X (i - 1))) w4 (fun j hj => by obtain ⟨p, b, o, c, h1, _⟩ := hat j hj; exact ⟨p, _, c, h1⟩) ho4 (by have := ho4.1; omega) hle
    (fun i x y hi hx hy W hW => by
      obtain ⟨p, b, o, c, h1, h2, h3⟩ := hat (i + 1) hi
      obtain ⟨p', b', o', c', h1', h2', h3'⟩ := hat i (by omega)
      rw [h1] at hx
      rw [h1'] at hy
      obtain rfl := Option.some.inj hx
      obtain rfl := Option.some.inj hy
      have hgr : w3.grownBy W (some g) := grown_step hg4' hW (fun q hq => Or.inl hq)
      exact eqr_any p p' b o c b' o' c' (X (i + 1)) (X i) W (h2.other hgr h3) (h2'.other hgr h3'))
  have hkt : SrtOf (rowL A) l (kpT X n) := by
    rw [HN.out] at hs hm hX ⊢
    exact kpT_srt HRD.out hs hm hX
  have hkl : (kpL (fun i => decide (X i = X (i - 1))) n).length = (kpT X n).length := by unfold kpT kpW; rw [List.length_map, List.length_map]
  have hkw : ∀ w5, (∀ j, j < (kpL (fun i => decide (X i = X (i - 1))) n).length → w5.cell? ⟨g, j, none⟩ = D[(kpL (fun i => decide (X i = X (i - 1))) n).getD j 0]?) → w4.grownBy w5 (some g) → KpW g (kpT X n) w5 := fun w5 h1 h2 j hj => by
    rw [← hkl] at hj
    have hin : (kpL (fun i => decide (X i = X (i - 1))) n).getD j 0 ∈ kpL (fun i => decide (X i = X (i - 1))) n := by rw [List.getD_eq_getElem?_getD, List.getElem?_eq_getElem hj]; exact List.getElem_mem hj
    obtain ⟨p, b, o, c, h3, h4, h5⟩ := hat _ (kpL_mem.1 hin).1
    refine ⟨p, b, o, c, X ((kpL (fun i => decide (X i = X (i - 1))) n).getD j 0), ?_, h4.other (grown_step hg4' h2 fun q hq => Or.inl hq) h5, ?_⟩
    · rw [h1 j hj]; exact h3
    · unfold kpT kpW
      rw [List.getD_eq_getElem?_getD, List.getElem?_map, List.getElem?_map, List.getD_eq_getElem?_getD, List.getElem?_eq_getElem hj]
      rfl
  obtain ⟨T, hT'⟩ : ∃ T, T = kpT X n := ⟨_, rfl⟩
  rw [← hT'] at hkt hkl hkw
  obtain ⟨K, hK⟩ : ∃ K, K = T.length := ⟨_, rfl⟩
  have hK4 : K ≤ n := by have := hkt.len; rw [← HN.out] at this; omega
  rw [← hK] at hkl
  obtain ⟨KL, hKL⟩ : ∃ KL, KL = kpL (fun i => decide (X i = X (i - 1))) n := ⟨_, rfl⟩
  rw [← hKL] at kcf hkl hkw
  rw [hkl] at kcf hkw
  have HKCF := Lib.hid kcf; have HKT := Lib.hid hkt; have HKW := Lib.hid hkw; have HKK := Lib.hid hK
  have hB4 : Below w.heap.size w w4 := HB3.out.grown hg4' HB3.out.size (fun q hq => by cases hq; omega)
  have HB4 := Lib.hid hB4
  have HTX := Lib.hid (fun pr br r0 cr x W h => text_row pr br r0 cr x W h)
  obtain ⟨i0, hi, hz0, hz1, hz2⟩ := info_parts str_info
  have HI0 := Lib.hid hi; have HZ0 := Lib.hid hz0; have HZ1 := Lib.hid hz1; have HZ2 := Lib.hid hz2
  clear hi hz0 hz1 hz2 kcf hkt hkl hkw hKL hT' hK hB4 ho4 hg4' hat hs hm hX hn3 hal
  go_wp2_with fail
  refine HKCF.out.mono ?_
  rintro e w5 ⟨rfl, h51, h52⟩
  have HW5 := Lib.hid (HKW.out w5 h51 h52)
  have HB5 := Lib.hid (HB4.out.grown h52 (by have := HB4.out.size; omega) (fun q hq => by cases hq; omega))
  have hsz5 := HB5.out.size
  clear h51 h52
  go_wp2_with (at_make; go_loud (refine wpList_make_full _ rfl _ _ 31 rfl w.heap.size 9 i0 _ 1 Tryd.underlying31 HI0.out HZ0.out HZ1.out .i64 .i64 K K K rfl rfl rfl rfl ?m1 ?m2 ?m3 ?_))
  case m1 => rw [HZ2.out]; omega
  case m2 => unfold maxLen; omega
  case m3 => exact hsz5
  intro w6 hown6 hgrow6
  have hB6 : Below w5.heap.size w5 w6 := grown_none hgrow6
  have HW6 := Lib.hid (HW5.out.z.next hB6)
  have HB6 := Lib.hid (HB5.out.trans (hB6.mono hsz5))
  have ho6 : w6.ownsRow w5.heap.size 9 1 (.slice (some ⟨w5.heap.size, 0, none⟩) K K) K (fillT T 0) := by
    rw [fillT_zero, ← HKK.out, ← toList_madeCells_one]
    exact ⟨hown6.1, hown6.2.imp id fun ⟨g', cap', cur', a, b, c⟩ => ⟨g', cap', cur', a, by cases a; exact Nat.le_refl _, c⟩⟩
  have HO6 := Lib.hid ho6
  clear hB6 hown6 hgrow6 ho6
  obtain ⟨z, hz⟩ : ∃ z, z = w5.heap.size := ⟨_, rfl⟩
  rw [← hz] at HO6 HW6 hsz5 ⊢
  clear hz
  go_wp2_with fail
  go_loopw [45] (fun iv wr => ∃ j : Nat, iv = .int .i64 j ∧ j ≤ K ∧ Hid (wr.ownsRow z 9 1 (.slice (some ⟨z, 0, none⟩) K K) K (fillT T j)) ∧ Hid (KpZ g z T wr) ∧ Hid (Below w.heap.size w wr)) (fun iv _ => K - (intOf iv).toNat)
  case atStart => exact ⟨0, rfl, Nat.zero_le _, HO6, HW6, HB6⟩
  case round =>
    obtain ⟨j, rfl, hj, HO, HKw, HBr⟩ := hrel
    by_cases hjK : j < K
    · have hjT : j < T.length := by have := HKK.out; omega
      obtain ⟨p, b, o, c, x, x1, x0, x2, x4, x3⟩ := HKw.out j hjT
      have hset := fillT_set T j hjT
      rw [x3] at hset
      have htx := HTX.out p b o c x wr x2
      obtain ⟨q, hq⟩ : ∃ q, q = strOf (textL x) := ⟨_, rfl⟩
      rw [← hq] at hset htx
      obtain ⟨nx, hnx⟩ : ∃ nx, nx = x.length := ⟨_, rfl⟩
      rw [← hnx] at x1 htx
      have HTx := Lib.hid htx
      have hlen := HO.out.1
      have hy := HO.out.cellAt j (by omega)
      rw [List.getElem?_eq_getElem (by rw [hlen]; omega)] at hy
      obtain ⟨y, hy2⟩ : ∃ y, wr.cell? ⟨z, j, none⟩ = some y := ⟨_, hy⟩
      clear hy hlen
      have hfz := HO.out.frozenAt j
      obtain ⟨hs1, hs2⟩ := HO.out.stored j (.string q)
      rw [hset] at hs1
      have HO2 := Lib.hid hs1
      have hbw : Below z wr (wr.setCell ⟨z, j, none⟩ (.string q)) := grown_below hs2 (by have := HO.out.lt z rfl; omega) (fun q hq => by cases hq; exact Nat.le_refl _)
      have HB2 := Lib.hid (HBr.out.trans (hbw.mono hsz5))
      have hkw2 := HKw.out.next hbw
      have HW2 := Lib.hid hkw2
      clear hs1 hs2 hset htx x0 x2 x3 x4 hq hnx hbw hkw2 HO
      go_wp2_with fail
      refine HTx.out.mono ?_
      rintro _ w7 ⟨rfl, rfl⟩
      go_wp2_with fail
      go_roundw
      case rel => exact ⟨j + 1, by go_num, by omega, HO2, HW2, HB2⟩
      case measure => simp [intOf]; omega
    · have hjk : j = K := by omega
      have hfin : wr.ownsRow w.heap.size 9 1 (.slice (some ⟨z, 0, none⟩) T.length K) T.length (T.map Value.string) := by
        have h1 := HO.out
        rw [hjk] at h1
        rw [← fillT_all, ← HKK.out]
        exact own_base h1 hsz5
      have HFin := Lib.hid hfin
      clear hfin
      go_wp2_with fail
      go_ret2
      exact ⟨.slice (some ⟨z, 0, none⟩) K K, T, rfl, HKT.out, by have := HFin.out; rw [← HKK.out] at this ⊢; exact this, HBr.out⟩
end Go.Proofs.YtcibjgkifafohaaDoor
