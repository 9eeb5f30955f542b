/-
  PLAIN: the facts that cognatelaw03.WordSyllables wants; the calls at them.
  WALKS: cognatelaw03.WordSyllables.
-/
import Derived.Test.YtcibjgkifafohaaGreatDoorSyA
import Derived.Test.YtcibjgkifafohaaGreatDoorPrtP
namespace Go.Proofs.YtcibjgkifafohaaGreatDoor
open Go.RowKit Go.Lib
set_option linter.unusedVariables false

theorem ltrs_nodup {A : Al} (hok : A.ok = true) : (rowL A).Nodup := by
  rw [Al.ok_eq, Bool.and_eq_true] at hok
  have h2 := hok.2
  unfold ltrsB at h2
  simp only [Bool.and_eq_true, decide_eq_true_eq] at h2
  exact h2.2
theorem nodup_inj : ∀ {ls : List Ltr}, (ls.map Ltr.r).Nodup → ∀ {x y : Ltr}, x ∈ ls → y ∈ ls → x.r = y.r → x = y
  | [], _, x, y, hx, _, _ => absurd hx (by simp)
  | a :: ls, hn, x, y, hx, hy, he => by
    rw [List.map_cons, List.nodup_cons] at hn
    rcases List.mem_cons.1 hx with hx1 | hx1
    · rcases List.mem_cons.1 hy with hy1 | hy1
      · rw [hx1, hy1]
      · exact absurd (List.mem_map.2 ⟨y, hy1, by rw [← he, hx1]⟩) hn.1
    · rcases List.mem_cons.1 hy with hy1 | hy1
      · exact absurd (List.mem_map.2 ⟨x, hx1, by rw [he, hy1]⟩) hn.1
      · exact nodup_inj hn.2 hx1 hy1 he
theorem has_mem {A : Al} {r : Int} {p m : Nat} (hr : r ∈ rowL A) (hc : aacR A p m = 0) : hasR A r p m = (decide (r ∈ clsR A p m), 0) := by
  have hok := aacR_ok0 hc
  have hcl : clsB A.fs.length p m = true := by
    rw [aacR_ok hok] at hc
    cases h : clsB A.fs.length p m with
    | true => rfl
    | false => rw [h] at hc; simp at hc
  have hcr : clsR A p m = clsL A.ls p m := by unfold clsR; rw [if_pos hc]
  obtain ⟨l0, hl0, hr0⟩ := List.mem_map.1 hr
  cases hf : findL A.ls r with
  | none =>
    unfold findL at hf
    have := List.find?_eq_none.1 hf l0 hl0
    simp [hr0] at this
  | some l =>
    have hlm : l ∈ A.ls := List.mem_of_find?_eq_some hf
    have hlr : l.r = r := by
      unfold findL at hf
      have := List.find?_some hf
      simpa using this
    have ho : ofR A r = (l, 0) := by unfold ofR lofR; rw [hok, hf]; rfl
    have hla : lacR A r p m = (l, 0) := by rw [lacR_ok (by rw [ho]) hcl, ho]
    rw [hasR_ok (by rw [hla]), hla, hcr]
    refine Prod.ext ?_ rfl
    simp only []
    unfold clsL
    cases hb : hasB l p m with
    | true =>
      symm
      rw [decide_eq_true_eq]
      exact List.mem_map.2 ⟨l, List.mem_filter.2 ⟨hlm, hb⟩, hlr⟩
    | false =>
      symm
      rw [decide_eq_false_iff_not]
      intro h
      obtain ⟨l2, h2, h2r⟩ := List.mem_map.1 h
      obtain ⟨h3, h4⟩ := List.mem_filter.1 h2
      have := nodup_inj (ltrs_nodup hok) h3 hlm (h2r.trans hlr.symm)
      rw [this, hb] at h4
      exact absurd h4 (by decide)
theorem pkT_mem (l C : List Int) (i : Nat) (hi : i < l.length) : (l.getD i 0 ∈ C) ↔ i ∈ pkT l C l.length := by
  unfold pkT
  rw [List.mem_filter, List.mem_range]
  simp [hi]

/-- A row of spans in memory. -/
structure SpIn (pr : Option Addr) (br : Nat) (n : Nat) (F T : Nat → Nat) (w : World) : Prop where
  at_ : 0 < n → pr = some ⟨br, 0, none⟩
  cf : ∀ j, j < n → w.cell? ⟨br, j * 2, none⟩ = some (.int .i64 (F j : Nat))
  ct : ∀ j, j < n → w.cell? ⟨br, j * 2 + 1, none⟩ = some (.int .i64 (T j : Nat))
theorem SpIn.next {pr : Option Addr} {br n : Nat} {F T : Nat → Nat} {w w' : World} (h : SpIn pr br n F T w) (hb : RowKit.Below w.heap.size w w') : SpIn pr br n F T w' :=
  ⟨h.at_, fun j hj => by have h1 := h.cf j hj; rw [hb.cell (p := ⟨br, j * 2, none⟩) (lt_of_cell h1)]; exact h1, fun j hj => by have h1 := h.ct j hj; rw [hb.cell (p := ⟨br, j * 2 + 1, none⟩) (lt_of_cell h1)]; exact h1⟩
theorem spanCs_at (P : List Nat) (N : Nat) : ∀ (n j : Nat), j < n → (spanCs P N n)[j * 2]? = some (.int .i64 (sylF P N j : Nat)) ∧ (spanCs P N n)[j * 2 + 1]? = some (.int .i64 (sylT P N j : Nat))
  | 0, j, h => by omega
  | n + 1, j, h => by
    rw [← spanCs_snoc]
    have hl := spanCs_len P N n
    by_cases hj : j < n
    · obtain ⟨h1, h2⟩ := spanCs_at P N n j hj
      rw [List.getElem?_append_left (by omega), List.getElem?_append_left (by omega)]
      exact ⟨h1, h2⟩
    · obtain rfl : j = n := by omega
      rw [List.getElem?_append_right (by omega), List.getElem?_append_right (by omega), hl, show j * 2 - j * 2 = 0 by omega, show j * 2 + 1 - j * 2 = 1 by omega]
      exact ⟨rfl, rfl⟩
/-! ### spans about rising peaks -/
theorem syl_facts {P : List Nat} {N : Nat} (hr : Rising P) (hN : ∀ i, i < P.length → P.getD i 0 < N) (i : Nat) (hi : i < P.length) :
    sylF P N i ≤ P.getD i 0 ∧ P.getD i 0 < sylT P N i ∧ (0 < i → P.getD i 0 ≤ sylF P N i + 1) ∧ sylT P N i ≤ N := by
  have ht : P.getD i 0 < sylT P N i ∧ sylT P N i ≤ N := by
    unfold sylT
    by_cases h : i + 1 < P.length
    · rw [if_pos h]
      have h1 := hr i h
      have h2 := hN (i + 1) h
      unfold begN
      omega
    · rw [if_neg h]; exact ⟨hN i hi, Nat.le_refl _⟩
  have hf : sylF P N i ≤ P.getD i 0 ∧ (0 < i → P.getD i 0 ≤ sylF P N i + 1) := by
    unfold sylF
    by_cases h : i = 0
    · rw [if_pos h]; exact ⟨Nat.zero_le _, fun h' => by omega⟩
    · rw [if_neg h]
      have e : i - 1 + 1 = i := by omega
      have h1 := hr (i - 1) (by omega)
      rw [e] at h1
      unfold sylT
      rw [if_pos (by omega), e]
      unfold begN
      exact ⟨by omega, fun _ => by omega⟩
  exact ⟨hf.1, ht.1, hf.2, ht.2⟩
theorem syl_last {P : List Nat} {N : Nat} (h : 0 < P.length) : sylF P N P.length = N := by
  unfold sylF
  rw [if_neg (by omega)]
  unfold sylT
  rw [if_neg (by omega)]
end Go.Proofs.YtcibjgkifafohaaGreatDoor
namespace Go.Proofs.YtcibjgkifafohaaGreatDoor
open Go.RowKit Go.Lib
set_option linter.unusedVariables false

/-- The law's world, its rows in it. -/
structure Wz (A : Al) (F L : Value) (w : World) (b : Nat) (lp : Option Addr) (lb : Nat) (l : List Int) (np : Option Addr) (nb : Nat) (P : List Nat) (sp : Option Addr) (sb : Nat) (N : Nat) (wk : World) : Prop where
  x : Wx A F L w b wk
  rl : RsIn lp lb 0 l wk
  ns : NsIn np nb 0 P wk
  sp : SpIn sp sb P.length (sylF P N) (sylT P N) wk
theorem Wz.next {A : Al} {F L : Value} {w : World} {b : Nat} {lp : Option Addr} {lb : Nat} {l : List Int} {np : Option Addr} {nb : Nat} {P : List Nat} {sp : Option Addr} {sb N : Nat} {wk w' : World} (h : Wz A F L w b lp lb l np nb P sp sb N wk) (hb : Below wk.heap.size wk w') : Wz A F L w b lp lb l np nb P sp sb N w' :=
  ⟨h.x.next hb, h.rl.next hb, h.ns.next hb, h.sp.next hb⟩

end Go.Proofs.YtcibjgkifafohaaGreatDoor
