/-
  PLAIN: the facts that cognatelaw03.WordSyllables wants; the calls at them.
  WALKS: cognatelaw03.WordSyllables.
-/
import Derived.Test.YtcibjgkifafohaaDoorSyA
import Derived.Test.YtcibjgkifafohaaDoorPrtP
namespace Go.Proofs.YtcibjgkifafohaaDoor
open Go.RowKit Go.Lib
set_option linter.unusedVariables false

theorem ltrs_nodup {A : Al} (hok : A.ok = true) : (rowL A).Nodup := by
  rw [Al.ok_eq, Bool.and_eq_true] at hok
  have h2 := hok.2
  unfold ltrsB at h2
  simp only [Bool.and_eq_true, decide_eq_true_eq] at h2
  exact h2.2
theorem nodup_inj : ∀ {ls : List Ltr}, (ls.map Ltr.r).Nodup → ∀ {x y : Ltr}, x ∈ ls → y ∈ ls → x.r = y.r → x = y
  | [], _, x, y, hx, _, _ => absurd hx (by simp)
  | a :: ls, hn, x, y, hx, hy, he => by
    rw [List.map_cons, List.nodup_cons] at hn
    rcases List.mem_cons.1 hx with hx1 | hx1
    · rcases List.mem_cons.1 hy with hy1 | hy1
      · rw [hx1, hy1]
      · exact absurd (List.mem_map.2 ⟨y, hy1, by rw [← he, hx1]⟩) hn.1
    · rcases List.mem_cons.1 hy with hy1 | hy1
      · exact absurd (List.mem_map.2 ⟨x, hx1, by rw [he, hy1]⟩) hn.1
      · exact nodup_inj hn.2 hx1 hy1 he
theorem has_mem {A : Al} {r : Int} {p m : Nat} (hr : r ∈ rowL A) (hc : aacR A p m = 0) : hasR A r p m = (decide (r ∈ clsR A p m), 0) := by
  have hok := aacR_ok0 hc
  have hcl : clsB A.fs.length p m = true := by
    rw [aacR_ok hok] at hc
    cases h : clsB A.fs.length p m with
    | true => rfl
    | false => rw [h] at hc; simp at hc
  have hcr : clsR A p m = clsL A.ls p m := by unfold clsR; rw [if_pos hc]
  obtain ⟨l0, hl0, hr0⟩ := List.mem_map.1 hr
  cases hf : findL A.ls r with
  | none =>
    unfold findL at hf
    have := List.find?_eq_none.1 hf l0 hl0
    simp [hr0] at this
  | some l =>
    have hlm : l ∈ A.ls := List.mem_of_find?_eq_some hf
    have hlr : l.r = r := by
      unfold findL at hf
      have := List.find?_some hf
      simpa using this
    have ho : ofR A r = (l, 0) := by unfold ofR lofR; rw [hok, hf]; rfl
    have hla : lacR A r p m = (l, 0) := by rw [lacR_ok (by rw [ho]) hcl, ho]
    rw [hasR_ok (by rw [hla]), hla, hcr]
    refine Prod.ext ?_ rfl
    simp only []
    unfold clsL
    cases hb : hasB l p m with
    | true =>
      symm
      rw [decide_eq_true_eq]
      exact List.mem_map.2 ⟨l, List.mem_filter.2 ⟨hlm, hb⟩, hlr⟩
    | false =>
      symm
      rw [decide_eq_false_iff_not]
      intro h
      obtain ⟨l2, h2, h2r⟩ := List.mem_map.1 h
      obtain ⟨h3, h4⟩ := List.mem_filter.1 h2
      have := nodup_inj (ltrs_nodup hok) h3 hlm (h2r.trans hlr.symm)
      rw [this, hb] at h4
      exact absurd h4 (by decide)
theorem pkT_mem (l C : List Int) (i : Nat) (hi : i < l.length) : (l.getD i 0 ∈ C) ↔ i ∈ pkT l C l.length := by
  unfold pkT
  rw [List.mem_filter, List.mem_range]
  simp [hi]

/-- A row of spans in memory. -/
structure SpIn (pr : Option Addr) (br : Nat) (n : Nat) (F T : Nat → Nat) (w : World) : Prop where
  at_ : 0 < n → pr = some ⟨br, 0, none⟩
  cf : ∀ j, j < n → w.cell? ⟨br, j * 2, none⟩ = some (.int .i64 (F j : Nat))
  ct : ∀ j, j < n → w.cell? ⟨br, j * 2 + 1, none⟩ = some (.int .i64 (T j : Nat))
theorem SpIn.next {pr : Option Addr} {br n : Nat} {F T : Nat → Nat} {w w' : World} (h : SpIn pr br n F T w) (hb : RowKit.Below w.heap.size w w') : SpIn pr br n F T w' :=
  ⟨h.at_, fun j hj => by have h1 := h.cf j hj; rw [hb.cell (p := ⟨br, j * 2, none⟩) (lt_of_cell h1)]; exact h1, fun j hj => by have h1 := h.ct j hj; rw [hb.cell (p := ⟨br, j * 2 + 1, none⟩) (lt_of_cell h1)]; exact h1⟩
theorem spanCs_at (P : List Nat) (N : Nat) : ∀ (n j : Nat), j < n → (spanCs P N n)[j * 2]? = some (.int .i64 (sylF P N j : Nat)) ∧ (spanCs P N n)[j * 2 + 1]? = some (.int .i64 (sylT P N j : Nat))
  | 0, j, h => by omega
  | n + 1, j, h => by
    rw [← spanCs_snoc]
    have hl := spanCs_len P N n
    by_cases hj : j < n
    · obtain ⟨h1, h2⟩ := spanCs_at P N n j hj
      rw [List.getElem?_append_left (by omega), List.getElem?_append_left (by omega)]
      exact ⟨h1, h2⟩
    · obtain rfl : j = n := by omega
      rw [List.getElem?_append_right (by omega), List.getElem?_append_right (by omega), hl, show j * 2 - j * 2 = 0 by omega, show j * 2 + 1 - j * 2 = 1 by omega]
      exact ⟨rfl, rfl⟩
theorem own_sp {w : World} {B : Nat} {v : Value} {P : List Nat} {N : Nat} (h : w.ownsRow B 54 2 v P.length (spanCs P N P.length)) : ∃ pr br cr, v = .slice pr P.length cr ∧ SpIn pr br P.length (sylF P N) (sylT P N) w := by
  rcases h.2 with ⟨rfl, hn⟩ | ⟨g, cap, cur, rfl, _⟩
  · exact ⟨none, 0, 0, by rw [hn], ⟨fun h => absurd h (by omega), fun j hj => absurd hj (by omega), fun j hj => absurd hj (by omega)⟩⟩
  · refine ⟨_, g, cap, rfl, ⟨fun _ => rfl, fun j hj => ?_, fun j hj => ?_⟩⟩
    · rw [h.cellAt (j * 2) (by omega)]; exact (spanCs_at P N _ j hj).1
    · rw [h.cellAt (j * 2 + 1) (by omega)]; exact (spanCs_at P N _ j hj).2

/-! ### spans about rising peaks -/
theorem syl_facts {P : List Nat} {N : Nat} (hr : Rising P) (hN : ∀ i, i < P.length → P.getD i 0 < N) (i : Nat) (hi : i < P.length) :
    sylF P N i ≤ P.getD i 0 ∧ P.getD i 0 < sylT P N i ∧ (0 < i → P.getD i 0 ≤ sylF P N i + 1) ∧ sylT P N i ≤ N := by
  have ht : P.getD i 0 < sylT P N i ∧ sylT P N i ≤ N := by
    unfold sylT
    by_cases h : i + 1 < P.length
    · rw [if_pos h]
      have h1 := hr i h
      have h2 := hN (i + 1) h
      unfold begN
      omega
    · rw [if_neg h]; exact ⟨hN i hi, Nat.le_refl _⟩
  have hf : sylF P N i ≤ P.getD i 0 ∧ (0 < i → P.getD i 0 ≤ sylF P N i + 1) := by
    unfold sylF
    by_cases h : i = 0
    · rw [if_pos h]; exact ⟨Nat.zero_le _, fun h' => by omega⟩
    · rw [if_neg h]
      have e : i - 1 + 1 = i := by omega
      have h1 := hr (i - 1) (by omega)
      rw [e] at h1
      unfold sylT
      rw [if_pos (by omega), e]
      unfold begN
      exact ⟨by omega, fun _ => by omega⟩
  exact ⟨hf.1, ht.1, hf.2, ht.2⟩
theorem syl_last {P : List Nat} {N : Nat} (h : 0 < P.length) : sylF P N P.length = N := by
  unfold sylF
  rw [if_neg (by omega)]
  unfold sylT
  rw [if_neg (by omega)]
theorem c_has {A : Al} {r : Int} {p m : Nat} {W : World} (hp : p < 4294967296) (hm : m < 4294967296) (hr : r ∈ rowL A) (hc : aacR A p m = 0) (hA : A.In W) :
    Calls Tryd.prog 39 #[A.v, .int .i32 r, .int .u32 p, .int .u32 m] W fun e w' => e = .returned (.tuple #[.bool (decide (r ∈ clsR A p m)), .int .i64 0]) ∧ Below W.heap.size W w' := by
  have := hasF_any A r p m W hA hp hm
  rw [has_mem hr hc] at this
  exact this
end Go.Proofs.YtcibjgkifafohaaDoor
namespace Go.Proofs.YtcibjgkifafohaaDoor
open Go.RowKit Go.Lib
set_option linter.unusedVariables false

theorem c_pks {A : Al} {s : ByteArray} {p m : Nat} {W : World} (hp : p < 4294967296) (hm : m < 4294967296) (hA : A.In W) (hT : Tabs W) :
    Calls Tryd.prog 28 #[A.v, .string s, .int .u32 p, .int .u32 m] W fun e w' => ∃ pr br cr, e = .returned (.tuple #[.slice pr (pkL A s p m).length cr, .int .i64 (pkE A s p m)]) ∧ NsIn pr br 0 (pkL A s p m) w' ∧ Below W.heap.size W w' := by
  refine (peaks_any A s p m W hA hT hp hm).mono ?_
  rintro e w' ⟨v, he, ho, hb⟩
  obtain ⟨pr, br, cr, rfl, hr⟩ := own_ns ho (by have := pkL_le A s p m; omega)
  exact ⟨pr, br, cr, he, hr, hb⟩
theorem c_syl {A : Al} {s : ByteArray} {p m : Nat} {W : World} (hp : p < 4294967296) (hm : m < 4294967296) (hA : A.In W) (hT : Tabs W) :
    Calls Tryd.prog 30 #[A.v, .string s, .int .u32 p, .int .u32 m] W fun e w' => ∃ pr br cr, e = .returned (.tuple #[.slice pr (pkL A s p m).length cr, .int .i64 (pkE A s p m)]) ∧ SpIn pr br (pkL A s p m).length (sylF (pkL A s p m) (pkN A s p m)) (sylT (pkL A s p m) (pkN A s p m)) w' ∧ Below W.heap.size W w' := by
  refine (syl_any A s p m W hA hT hp hm).mono ?_
  rintro e w' ⟨v, he, ho, hb⟩
  obtain ⟨pr, br, cr, rfl, hr⟩ := own_sp ho
  exact ⟨pr, br, cr, he, hr, hb⟩

set_option maxHeartbeats 4000000 in
set_option maxRecDepth 100000 in
theorem syll_no (A : Al) (s : ByteArray) (p m : Nat) (w : World) (hA : A.In w) (hp : p < 4294967296) (hm : m < 4294967296) (hT : Tabs w) (h : ¬ pkE A s p m = 0) :
    Calls Tryd.prog 8 #[A.v, .string s, .int .u32 p, .int .u32 m] w fun e w' => e = .returned (.bool true) ∧ Below w.heap.size w w' := by
  have k0 := awake_w A
  have k1 := fun W hA hT => letters_any A s W hA hT
  have k2 := fun W hA hT => c_pks (A := A) (s := s) (W := W) hp hm hA hT
  have k3 := fun W hA hT => c_syl (A := A) (s := s) (W := W) hp hm hA hT
  rw [pkL_no h] at k2 k3
  unfold LetPost at k1
  rw [List.length_nil] at k2 k3
  obtain ⟨E, hE⟩ : ∃ E, E = pkE A s p m := ⟨_, rfl⟩
  obtain ⟨E1, hE1⟩ : ∃ E, E = letE A s := ⟨_, rfl⟩
  rw [← hE] at k2 k3 h
  rw [← hE1] at k1
  have e1 : (E == 0) = false := by simp [h]
  have e2 : (E != 0) = true := by simp [h]
  obtain ⟨pf, pl, nf, cf, nl, cl, hv, hnf, hnl, hpl, hcl, hpf, hcf⟩ := A.parts
  rw [hv] at k1 k2 k3 ⊢
  have K0 := Lib.hid k0; have K1 := Lib.hid k1; have K2 := Lib.hid k2; have K3 := Lib.hid k3
  have hs := Wx.start (F := .slice pf nf cf) (L := .slice pl nl cl) hA hT
  have HS := Lib.hid hs
  clear hs hA hT k0 k1 k2 k3 hE hE1 hv hnf hnl hpl hcl hpf hcf h hp hm
  go_enter Tryd.func8, Tryd.ntmps8
  go_wp2_with fail
  refine (K0.out _ (HS.out).i (HS.out).t).mono ?_
  rintro _ w1 ⟨rfl, hb⟩
  have hs := (HS.out).next hb
  obtain ⟨c0, c1, hlt⟩ : w1.cell? ⟨w.heap.size, 0, none⟩ = some (.slice pf nf cf) ∧ w1.cell? ⟨w.heap.size, 1, none⟩ = some (.slice pl nl cl) ∧ w.heap.size < w1.heap.size := ⟨hs.c0, hs.c1, hs.lt⟩
  clear HS
  have HS := Lib.hid hs
  clear hs hb
  go_wp2_with fail
  refine (K1.out _ (HS.out).i (HS.out).t).mono ?_
  rintro _ w2 ⟨v, rfl, ho, hb⟩
  have hs := (HS.out).next hb
  obtain ⟨c0, c1, hlt⟩ : w2.cell? ⟨w.heap.size, 0, none⟩ = some (.slice pf nf cf) ∧ w2.cell? ⟨w.heap.size, 1, none⟩ = some (.slice pl nl cl) ∧ w.heap.size < w2.heap.size := ⟨hs.c0, hs.c1, hs.lt⟩
  clear HS
  have HS := Lib.hid hs
  obtain ⟨o, c, rfl⟩ := own_shape ho
  clear hs hb ho
  go_wp2_with fail
  refine (K2.out _ (HS.out).i (HS.out).t).mono ?_
  rintro _ w3 ⟨pr2, br2, cr2, rfl, _, hb⟩
  have hs := (HS.out).next hb
  obtain ⟨c0, c1, hlt⟩ : w3.cell? ⟨w.heap.size, 0, none⟩ = some (.slice pf nf cf) ∧ w3.cell? ⟨w.heap.size, 1, none⟩ = some (.slice pl nl cl) ∧ w.heap.size < w3.heap.size := ⟨hs.c0, hs.c1, hs.lt⟩
  clear HS
  have HS := Lib.hid hs
  clear hs hb
  go_wp2_with fail
  refine (K3.out _ (HS.out).i (HS.out).t).mono ?_
  rintro _ w4 ⟨pr3, br3, cr3, rfl, _, hb⟩
  have hs := (HS.out).next hb
  obtain ⟨c0, c1, hlt⟩ : w4.cell? ⟨w.heap.size, 0, none⟩ = some (.slice pf nf cf) ∧ w4.cell? ⟨w.heap.size, 1, none⟩ = some (.slice pl nl cl) ∧ w.heap.size < w4.heap.size := ⟨hs.c0, hs.c1, hs.lt⟩
  clear HS
  have HS := Lib.hid hs
  clear hs hb
  go_wp2_with fail
  go_ret
  exact ⟨rfl, HS.out.below⟩

/-- The law's world, its rows in it. -/
structure Wz (A : Al) (F L : Value) (w : World) (b : Nat) (lp : Option Addr) (lb : Nat) (l : List Int) (np : Option Addr) (nb : Nat) (P : List Nat) (sp : Option Addr) (sb : Nat) (N : Nat) (wk : World) : Prop where
  x : Wx A F L w b wk
  rl : RsIn lp lb 0 l wk
  ns : NsIn np nb 0 P wk
  sp : SpIn sp sb P.length (sylF P N) (sylT P N) wk
theorem Wz.next {A : Al} {F L : Value} {w : World} {b : Nat} {lp : Option Addr} {lb : Nat} {l : List Int} {np : Option Addr} {nb : Nat} {P : List Nat} {sp : Option Addr} {sb N : Nat} {wk w' : World} (h : Wz A F L w b lp lb l np nb P sp sb N wk) (hb : Below wk.heap.size wk w') : Wz A F L w b lp lb l np nb P sp sb N w' :=
  ⟨h.x.next hb, h.rl.next hb, h.ns.next hb, h.sp.next hb⟩

set_option maxHeartbeats 8000000 in
set_option maxRecDepth 100000 in
theorem syll_yes (A : Al) (s : ByteArray) (p m : Nat) (w : World) (hA : A.In w) (hp : p < 4294967296) (hm : m < 4294967296) (hT : Tabs w) (h : pkE A s p m = 0) :
    Calls Tryd.prog 8 #[A.v, .string s, .int .u32 p, .int .u32 m] w fun e w' => e = .returned (.bool true) ∧ Below w.heap.size w w' := by
  have hle : letE A s = 0 := by
    unfold pkE at h
    by_cases h1 : letE A s = 0
    · exact h1
    · rw [if_neg h1] at h; exact absurd h h1
  have hac : aacR A p m = 0 := by unfold pkE at h; rw [if_pos hle] at h; exact h
  have f1 := let_word hle
  have hPk : pkL A s p m = pkT (letL A s) (clsR A p m) (letL A s).length := by unfold pkL; rw [if_pos h]
  have hNk : pkN A s p m = (letL A s).length := by unfold pkN; rw [if_pos h]
  have k0 := awake_w A
  have k1 := fun W hA hT => c_let (W := W) f1 hA hT
  have k2 := fun W hA hT => c_pks (A := A) (s := s) (W := W) hp hm hA hT
  have k3 := fun W hA hT => c_syl (A := A) (s := s) (W := W) hp hm hA hT
  rw [h] at k2 k3
  have hris := pkL_rising A s p m
  have hltP := pkL_lt A s p m
  have hP260 := pkL_le A s p m
  obtain ⟨l, hl⟩ : ∃ l, l = letL A s := ⟨_, rfl⟩
  obtain ⟨P, hP⟩ : ∃ P, P = pkL A s p m := ⟨_, rfl⟩
  rw [← hl] at f1 hPk hNk k1
  have k4 : ∀ i, i < l.length → ∀ W, A.In W → Calls Tryd.prog 39 #[A.v, .int .i32 (l.getD i 0), .int .u32 p, .int .u32 m] W fun e w' => e = .returned (.tuple #[.bool (decide (i ∈ P)), .int .i64 0]) ∧ Below W.heap.size W w' := fun i hi W hA => by
    have := c_has (W := W) hp hm (r := l.getD i 0) (f1.wd.mem _ (by rw [getD_at hi]; exact List.getElem_mem hi)) hac hA
    rw [show decide (l.getD i 0 ∈ clsR A p m) = decide (i ∈ P) from by rw [decide_eq_decide, hP, hPk]; exact pkT_mem l (clsR A p m) i hi] at this
    exact this
  rw [hNk] at k3 hltP
  rw [← hP] at k2 k3 hris hltP hP260
  have hsf := syl_facts hris hltP
  have hla := syl_last (P := P) (N := l.length)
  have hl64 := f1.wd.len
  obtain ⟨n, hn⟩ : ∃ n, n = l.length := ⟨_, rfl⟩
  obtain ⟨k, hk⟩ : ∃ n, n = P.length := ⟨_, rfl⟩
  rw [← hn] at k1 k3 k4 hla hl64 hsf
  rw [← hk] at k2 k3 hla hP260 hsf
  obtain ⟨pf, pl, nf, cf, nl, cl, hv, hnf, hnl, hpl, hcl, hpf, hcf⟩ := A.parts
  rw [hv] at k1 k2 k3 k4 ⊢
  have K0 := Lib.hid k0; have K1 := Lib.hid k1; have K2 := Lib.hid k2; have K3 := Lib.hid k3; have K4 := Lib.hid k4; have HSF := Lib.hid hsf; have HLA := Lib.hid hla; have HN := Lib.hid hn; have HK := Lib.hid hk
  have hs := Wx.start (F := .slice pf nf cf) (L := .slice pl nl cl) hA hT
  have HS := Lib.hid hs
  clear hs hA hT k0 k1 k2 k3 k4 hsf hla hn hk hl hP hPk hNk hris hltP f1 hv hnf hnl hpl hcl hpf hcf h hp hm hle hac
  go_enter Tryd.func8, Tryd.ntmps8
  go_wp2_with fail
  refine (K0.out _ (HS.out).i (HS.out).t).mono ?_
  rintro _ w1 ⟨rfl, hb⟩
  have hs := (HS.out).next hb
  obtain ⟨c0, c1, hlt⟩ : w1.cell? ⟨w.heap.size, 0, none⟩ = some (.slice pf nf cf) ∧ w1.cell? ⟨w.heap.size, 1, none⟩ = some (.slice pl nl cl) ∧ w.heap.size < w1.heap.size := ⟨hs.c0, hs.c1, hs.lt⟩
  clear HS
  have HS := Lib.hid hs
  clear hs hb
  go_wp2_with fail
  refine (K1.out _ (HS.out).i (HS.out).t).mono ?_
  rintro _ w2 ⟨lp, lb, lc, rfl, hl, hb⟩
  have hs := (HS.out).next hb
  obtain ⟨c0, c1, hlt⟩ : w2.cell? ⟨w.heap.size, 0, none⟩ = some (.slice pf nf cf) ∧ w2.cell? ⟨w.heap.size, 1, none⟩ = some (.slice pl nl cl) ∧ w.heap.size < w2.heap.size := ⟨hs.c0, hs.c1, hs.lt⟩
  clear HS
  have HS := Lib.hid hs
  have HL := Lib.hid hl
  clear hs hb hl
  go_wp2_with fail
  refine (K2.out _ (HS.out).i (HS.out).t).mono ?_
  rintro _ w3 ⟨np, nb, nc, rfl, hns, hb⟩
  have hs := (HS.out).next hb
  obtain ⟨c0, c1, hlt⟩ : w3.cell? ⟨w.heap.size, 0, none⟩ = some (.slice pf nf cf) ∧ w3.cell? ⟨w.heap.size, 1, none⟩ = some (.slice pl nl cl) ∧ w.heap.size < w3.heap.size := ⟨hs.c0, hs.c1, hs.lt⟩
  clear HS
  have HS := Lib.hid hs
  have HL2 := Lib.hid (HL.out.next hb)
  have HNS := Lib.hid hns
  clear hs hb hns HL
  go_wp2_with fail
  refine (K3.out _ (HS.out).i (HS.out).t).mono ?_
  rintro _ w4 ⟨sp, sb, sc, rfl, hsp, hb⟩
  have hs := (HS.out).next hb
  obtain ⟨c0, c1, hlt⟩ : w4.cell? ⟨w.heap.size, 0, none⟩ = some (.slice pf nf cf) ∧ w4.cell? ⟨w.heap.size, 1, none⟩ = some (.slice pl nl cl) ∧ w.heap.size < w4.heap.size := ⟨hs.c0, hs.c1, hs.lt⟩
  clear HS
  have HS := Lib.hid hs
  have hz : Wz A (.slice pf nf cf) (.slice pl nl cl) w w.heap.size lp lb l np nb P sp sb n w4 := ⟨hs, HL2.out.next hb, HNS.out.next hb, by rw [← HK.out]; exact hsp⟩
  clear HS HL2 HNS
  have HZ := Lib.hid hz
  clear hs hb hsp hz c0 c1 hlt
  go_wp2_with fail
  go_loopw [16] (fun iv wr => ∃ i : Nat, iv = .int .i64 i ∧ i ≤ n ∧ Hid (Wz A (.slice pf nf cf) (.slice pl nl cl) w w.heap.size lp lb l np nb P sp sb n wr)) (fun iv _ => n - (intOf iv).toNat)
  case atStart => exact ⟨0, rfl, Nat.zero_le _, HZ⟩
  case round =>
    clear HZ
    obtain ⟨i, rfl, hi, HX⟩ := hrel
    obtain ⟨c0, c1, hlt⟩ : wr.cell? ⟨w.heap.size, 0, none⟩ = some (.slice pf nf cf) ∧ wr.cell? ⟨w.heap.size, 1, none⟩ = some (.slice pl nl cl) ∧ w.heap.size < wr.heap.size := ⟨HX.out.x.c0, HX.out.x.c1, HX.out.x.lt⟩
    by_cases hin : i < n
    · obtain rfl := HX.out.rl.at_ (by rw [← HN.out]; omega)
      have a0 := HX.out.rl.cells i (by rw [← HN.out]; exact hin)
      rw [Nat.zero_add] at a0
      have k4 := K4.out i hin
      obtain ⟨q, hq⟩ : ∃ q, q = l.getD i 0 := ⟨_, rfl⟩
      obtain ⟨b, hb0⟩ : ∃ b, b = decide (i ∈ P) := ⟨_, rfl⟩
      rw [← hq] at a0 k4
      rw [← hb0] at k4
      have K4i := Lib.hid k4; have HB0 := Lib.hid hb0
      clear k4 hq hb0
      go_upto_region 14 with fail
      go_cut [17, 18] from 76 to 114 (fun s17 s18 wc => s17 = .bool b ∧ s18 = .int .i64 0 ∧ Hid (Below wr.heap.size wr wc))
      case first =>
        go_region_with (go_at_call 39; refine (K4i.out _ (HX.out.x.i.next (by first | exact Below.refl _ _ | exact (Below.refl _ _).drew))).mono ?_; rintro e w' ⟨rfl, hb⟩; have HBq := Lib.hid hb; clear hb)
        all_goals
          go_wp2_with fail
          go_meet
          exact ⟨rfl, rfl, by first | exact HBq.out | exact (Below.refl _ _).drew.trans HBq.out⟩
      case rest =>
        obtain ⟨rfl, rfl, HBc⟩ := hcut
        have HX2 := Lib.hid (HX.out.next HBc.out)
        clear HX HBc c0 c1 hlt a0
        go_wp2_with fail
        go_loopw [19, 20] (fun tv jv wd => ∃ (t : Bool) (j : Nat), tv = .bool t ∧ jv = .int .i64 j ∧ j ≤ k ∧ Hid (t = decide (i ∈ P.take j)) ∧ wd = wc) (fun _ jv _ => k - (intOf jv).toNat)
        case atStart => exact ⟨false, 0, rfl, rfl, Nat.zero_le _, (show _ = _ by simp), rfl⟩
        case round =>
          obtain ⟨t, j, rfl, rfl, hj, HTJ, rfl⟩ := hrel
          by_cases hjk : j < k
          · have hjP : j < P.length := by rw [← HK.out]; exact hjk
            obtain rfl := HX2.out.ns.at_ (by omega)
            have b0 := HX2.out.ns.cells j hjP
            rw [Nat.zero_add] at b0
            have htk : decide (i ∈ P.take (j + 1)) = (decide (i ∈ P.take j) || decide (P.getD j 0 = i)) := by
              rw [List.take_succ_eq_append_getElem hjP, getN_at hjP, Bool.eq_iff_iff, Bool.or_eq_true, decide_eq_true_eq, decide_eq_true_eq, decide_eq_true_eq, List.mem_append, List.mem_singleton]
              exact ⟨fun h => h.imp id Eq.symm, fun h => h.imp id Eq.symm⟩
            obtain ⟨r, hr⟩ : ∃ q, q = P.getD j 0 := ⟨_, rfl⟩
            rw [← hr] at b0 htk
            have HTK := Lib.hid htk
            clear hr htk hjP
            cases t with
            | true =>
              go_wp2_with fail
              go_roundw
              case rel => exact ⟨true, j + 1, rfl, by go_num, by omega, (show _ = _ by rw [HTK.out, ← HTJ.out]; rfl), trivial⟩
              case measure => simp [intOf]; omega
            | false =>
              by_cases hri : r = i
              · have e1 : ((r : Int) == (i : Int)) = true := by simp [hri]
                have HRI := Lib.hid hri
                clear hri
                go_wp2_with fail
                go_roundw
                case rel => exact ⟨true, j + 1, rfl, by go_num, by omega, (show _ = _ by rw [HTK.out, ← HTJ.out, decide_eq_true HRI.out]; rfl), trivial⟩
                case measure => simp [intOf]; omega
              · have e1 : ((r : Int) == (i : Int)) = false := by simp; omega
                have HRI := Lib.hid hri
                clear hri
                go_wp2_with fail
                go_roundw
                case rel => exact ⟨false, j + 1, rfl, by go_num, by omega, (show _ = _ by rw [HTK.out, ← HTJ.out, decide_eq_false HRI.out]; rfl), trivial⟩
                case measure => simp [intOf]; omega
          · have hall : P.take j = P := List.take_of_length_le (by rw [← HK.out]; omega)
            have htb : t = b := by rw [HTJ.out, hall, HB0.out]
            clear hall
            subst htb
            have e1 : (t != t) = false := by simp
            go_wp2_with fail
            go_roundw
            case rel => exact ⟨i + 1, by go_num, by omega, HX2⟩
            case measure => simp [intOf]; omega
    · clear c0 c1 hlt
      go_wp2_with fail
      go_loopw [21, 22] (fun av jv wd => ∃ j : Nat, av = .int .i64 (sylF P n j : Nat) ∧ jv = .int .i64 j ∧ j ≤ k ∧ Hid (Wz A (.slice pf nf cf) (.slice pl nl cl) w w.heap.size lp lb l np nb P sp sb n wd)) (fun _ jv _ => k - (intOf jv).toNat)
      case atStart => exact ⟨0, rfl, rfl, Nat.zero_le _, HX⟩
      case round =>
        clear HX
        obtain ⟨j, rfl, rfl, hj, HX⟩ := hrel
        by_cases hjk : j < k
        · have hjP : j < P.length := by rw [← HK.out]; exact hjk
          obtain ⟨g1, g2, g3, g4⟩ := HSF.out j hjk
          have hnx := sylF_next P n j
          obtain rfl := HX.out.ns.at_ (by omega)
          obtain rfl := HX.out.sp.at_ (by omega)
          have b0 := HX.out.ns.cells j hjP
          rw [Nat.zero_add] at b0
          have d0 := HX.out.sp.cf j hjP
          have d1 := HX.out.sp.ct j hjP
          obtain ⟨q, hq⟩ : ∃ q, q = P.getD j 0 := ⟨_, rfl⟩
          obtain ⟨F, hF⟩ : ∃ q, q = sylF P n j := ⟨_, rfl⟩
          obtain ⟨T, hTT⟩ : ∃ q, q = sylT P n j := ⟨_, rfl⟩
          rw [← hq] at b0 g1 g2 g3
          rw [← hF] at d0 g1 g3 ⊢
          rw [← hTT] at d1 g2 g4 hnx
          have HNX := Lib.hid hnx
          have z1 : decide (q < F) = false := by simp; omega
          have z2 : decide (T ≤ q) = false := by simp; omega
          have q1 : IntKind.i64.wrap ((q : Int) - (F : Int)) = (q : Int) - (F : Int) := by rw [IntKind.wrap_i64]; omega
          have hjz : (j : Int) < (k : Int) := by omega
          have HD := Lib.hid (fun nq => HX.out.next (below_drewN (Below.refl _ _) nq))
          have hqn : (q : Int) ≤ 64 := by omega
          have hFn : (F : Int) ≤ 64 := by omega
          clear hq hF hTT hnx hjP
          by_cases hj0 : 0 < j
          · have z3 : (0 : Int) < (j : Int) := by omega
            have z4 : decide ((1 : Int) < (q : Int) - (F : Int)) = false := by have := g3 hj0; simp; omega
            go_wp2_with fail
            go_quiet (fail)
            go_wp2_with fail
            go_roundw
            case rel => exact ⟨j + 1, by rw [HNX.out], by go_num, by omega, HD.out _⟩
            case measure => simp [intOf]; omega
          · have z5 : decide (0 < j) = false := by simp; omega
            go_wp2_with fail
            go_quiet (fail)
            go_wp2_with fail
            go_roundw
            case rel => exact ⟨j + 1, by rw [HNX.out], by go_num, by omega, HD.out _⟩
            case measure => simp [intOf]; omega
        · obtain rfl : j = k := by omega
          by_cases hk0 : j = 0
          · subst hk0
            go_wp2_with fail
            go_ret
            exact ⟨rfl, HX.out.x.below⟩
          · have hl := HLA.out (by omega)
            rw [hl]
            have e1 : ((j : Int) == 0) = false := by simp; omega
            go_wp2_with fail
            go_ret
            exact ⟨rfl, HX.out.x.below⟩
/-- 'cognatelaw03.WordSyllables' answers true, whatever the input. -/
theorem lawSyll (A : Al) (s : ByteArray) (p m : Nat) (w : World) (hA : A.In w) (hp : p < 4294967296) (hm : m < 4294967296) (hT : Tabs w) :
    Calls Tryd.prog 8 #[A.v, .string s, .int .u32 p, .int .u32 m] w fun e w' => e = .returned (.bool true) ∧ Below w.heap.size w w' := by
  by_cases h : pkE A s p m = 0
  · exact syll_yes A s p m w hA hp hm hT h
  · exact syll_no A s p m w hA hp hm hT h
end Go.Proofs.YtcibjgkifafohaaDoor
