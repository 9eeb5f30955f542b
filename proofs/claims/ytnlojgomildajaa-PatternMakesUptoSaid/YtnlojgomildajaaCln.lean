/-
  WALKS: slices.Clone at []api.Node and []int; slices.Reverse at []int.
-/
import Derived.Test.YtnlojgomildajaaPtr
import Derived.Lib.SliceRun
namespace Go.Proofs.Ytnlojgomildajaa
open Go.RowKit Go.Lib
set_option linter.unusedVariables false
theorem NsIn.cell {pn : Option Addr} {bn n0 : Nat} {ms : List NdM} {w : World} (h : NsIn pn bn n0 ms w) : ∀ i u, (nsC ms)[i]? = some u → w.cell? ⟨bn, n0 + i, none⟩ = some u := by
  intro i u hu
  have hi : i < ms.length * 5 := by
    have := (List.getElem?_eq_some_iff.1 hu).1
    rw [nsC_length] at this; exact this
  obtain ⟨j, hj⟩ : ∃ j, j = i / 5 := ⟨_, rfl⟩
  have hjl : j < ms.length := by omega
  obtain ⟨c0, c1, c2, c3, c4⟩ := nsC_at ms j hjl
  have hn := h.node j hjl
  have hm : i = j * 5 ∨ i = j * 5 + 1 ∨ i = j * 5 + 2 ∨ i = j * 5 + 3 ∨ i = j * 5 + 4 := by omega
  rcases hm with rfl | rfl | rfl | rfl | rfl
  · rw [c0] at hu; rw [hn.c0]; exact hu
  · rw [c1] at hu; rw [show n0 + (j * 5 + 1) = n0 + j * 5 + 1 by omega, hn.c1]; exact hu
  · rw [c2] at hu; rw [show n0 + (j * 5 + 2) = n0 + j * 5 + 2 by omega, hn.c2]; exact hu
  · rw [c3] at hu; rw [show n0 + (j * 5 + 3) = n0 + j * 5 + 3 by omega, hn.c3]; exact hu
  · rw [c4] at hu; rw [show n0 + (j * 5 + 4) = n0 + j * 5 + 4 by omega, hn.c4]; exact hu
theorem below_gn {w w' : World} {b : Nat} (h : w.grownBy w' (some b)) : Below b w w' → Below b w w' := fun h => h
theorem mem_getD {ms : List NdM} {m : NdM} (h : m ∈ ms) : ∃ j, j < ms.length ∧ ms.getD j default = m := by
  obtain ⟨j, hj, rfl⟩ := List.getElem_of_mem h
  exact ⟨j, hj, by rw [List.getD_eq_getElem?_getD, List.getElem?_eq_getElem hj]; rfl⟩
set_option maxHeartbeats 4000000 in
set_option maxRecDepth 100000 in
theorem cloneN_any (pn : Option Addr) (bn n0 c : Nat) (ms : List NdM) (w : World) (h : NsIn pn bn n0 ms w) (hl : ms.length ≤ 100000) :
    Calls Try.prog 30 #[.slice pn ms.length c] w fun e w' => ∃ o cv, e = .returned (.slice o ms.length cv) ∧ OutN w.heap.size (fun _ => False) (.slice o ms.length cv) ms w' ∧ Below w.heap.size w w' := by
  obtain ⟨n, hn⟩ : ∃ n, n = ms.length := ⟨_, rfl⟩
  cases pn with
  | none =>
    have h0 : ms = [] := by
      cases ms with
      | nil => rfl
      | cons a l => have := h.at_ (by simp); cases this
    subst h0
    have hnil := fun (W : World) (a : Option Addr) (n c : Nat) => Go.Lib.run_eql_slice_nil (P := Try.prog) W 23 42 a n c 0 0 Try.underlying23
    go_enter Try.func30, Try.ntmps30
    go_wp2_with fail
    go_ret
    exact ⟨none, 0, rfl, OutN.nil _ _ _, Below.refl _ _⟩
  | some ad =>
    obtain ⟨i0, hi, hz0, hz1, hz2⟩ := node_parts
    have hnews : ∀ W, Below w.heap.size w W → ∀ j u, (nsC ms)[j]? = some u → W.cell? (ad.add j) = some u := fun W hb j u hu => by
      have hj : 0 < ms.length := by
        have := (List.getElem?_eq_some_iff.1 hu).1
        rw [nsC_length] at this; omega
      have e := h.at_ hj
      cases e
      rw [show (⟨bn, n0, none⟩ : Addr).add j = ⟨bn, n0 + j, none⟩ from by simp [Addr.add]]
      exact (h.next hb).cell j u hu
    have hlen := nsC_length ms
    rw [← hn] at hlen hl ⊢
    have HI0 := Lib.hid hi; have HZ0 := Lib.hid hz0; have HZ1 := Lib.hid hz1; have HZ2 := Lib.hid hz2; have HNW := Lib.hid hnews; have HLN := Lib.hid hlen; have H := Lib.hid h; have HN := Lib.hid hn
    have hone := nsC_one ms
    have HO := Lib.hid hone
    obtain ⟨C, hC⟩ : ∃ C, C = nsC ms := ⟨_, rfl⟩
    rw [← hC] at HNW HLN HO
    have HC := Lib.hid hC
    clear hi hz0 hz1 hz2 hnews hlen h hn hone hC
    have hnil := fun (W : World) (a : Option Addr) (n c : Nat) => Go.Lib.run_eql_slice_nil (P := Try.prog) W 23 42 a n c 0 0 Try.underlying23
    go_enter Try.func30, Try.ntmps30
    go_wp2_with (at_builtin; refine wpList_append_own_at _ rfl (.tmp 5) (.tmp 6) 23 rfl w.heap.size 42 i0 (.agg #[.int .u8 0, .int .i32 0, .int .u32 0, .int .u32 0, .slice none 0 0]) 5 40 Try.underlying23 HI0.out HZ0.out HZ1.out HZ2.out rfl (by decide) (.slice (some ⟨w.heap.size, 0, none⟩) 0 0) 0 [] rfl (World.ownsRow_made w #[] 0 (Nat.le_refl _) (Nat.zero_le _) (by rfl)) ad n c C rfl HLN.out (HNW.out _ ((Below.refl _ _).alloc (Nat.le_refl _) _)) HO.out (by unfold maxLen; omega) (by omega) (by simp) ?_)
    intro v' w' hown hg _ hat
    obtain ⟨o, nv, cv, rfl⟩ : ∃ o n c, v' = .slice o n c := by obtain ⟨o, c, h⟩ := ownN_shape hown; exact ⟨o, _, c, h⟩
    have hnv : nv = n := by obtain ⟨o, c, h⟩ := ownN_shape hown; first | (injection h with _ h2 _; omega) | (injection h)
    subst hnv
    have hB : Below w.heap.size w w' := by
      have h1 : Below w.heap.size w (w.alloc (.cells #[] 42)) := (Below.refl _ _).alloc (Nat.le_refl _) _
      exact h1.grown hg (by simp) (fun k hk => by cases hk; exact Nat.le_refl _)
    have hout : OutN w.heap.size (fun _ => False) (.slice o nv cv) ms w' := by
      refine ⟨by rw [← HC.out, ← HN.out]; simpa using hown, fun m hm => ?_, fun m hm h0 => ⟨fun e => ?_, fun e => e⟩, fun m hm => ?_⟩
      · obtain ⟨j, hj, rfl⟩ := mem_getD hm
        exact (H.out.next hB).kids j hj
      · obtain ⟨j, hj, rfl⟩ := mem_getD hm
        have h1 := (H.out.kids j hj).lt h0
        have h2 := (hown.lt _ e).1
        omega
      · obtain ⟨j, hj, rfl⟩ := mem_getD hm
        exact H.out.ok j hj
    have HB := Lib.hid hB; have HOUT := Lib.hid hout
    clear hB hout hown hg hat
    go_wp2_with fail
    go_ret
    exact ⟨o, cv, rfl, HOUT.out, HB.out⟩
set_option maxHeartbeats 4000000 in
set_option maxRecDepth 100000 in
theorem cloneK_any (pk : Option Addr) (bk k0 c : Nat) (ks : List Int) (w : World) (h : KsIn pk bk k0 c ks w) (hl : ks.length ≤ 100000) :
    Calls Try.prog 31 #[.slice pk ks.length c] w fun e w' => ∃ o cv, e = .returned (.slice o ks.length cv) ∧ w'.ownsRow w.heap.size 3 1 (.slice o ks.length cv) ks.length (ks.map fun k => .int .i64 k) ∧ Below w.heap.size w w' := by
  obtain ⟨n, hn⟩ : ∃ n, n = ks.length := ⟨_, rfl⟩
  cases pk with
  | none =>
    have h0 : ks = [] := by
      cases ks with
      | nil => rfl
      | cons a l => have := h.at_ (by simp); cases this
    subst h0
    have hnil := fun (W : World) (a : Option Addr) (n c : Nat) => Go.Lib.run_eql_slice_nil (P := Try.prog) W 40 3 a n c 0 0 Try.underlying40
    go_enter Try.func31, Try.ntmps31
    go_wp2_with fail
    go_ret
    exact ⟨none, 0, rfl, World.ownsRow_nil _ _ _ _, Below.refl _ _⟩
  | some ad =>
    obtain ⟨i0, hi, hz0, hz1, hz2⟩ := info_parts int_info
    have hnews : ∀ W, Below w.heap.size w W → ∀ j u, (ks.map fun k => Value.int .i64 k)[j]? = some u → W.cell? (ad.add j) = some u := fun W hb j u hu => by
      have hj : j < ks.length := by simpa using (List.getElem?_eq_some_iff.1 hu).1
      have e := h.at_ (by omega)
      cases e
      rw [show (⟨bk, k0, none⟩ : Addr).add j = ⟨bk, k0 + j, none⟩ from by simp [Addr.add], (h.next hb).cells j hj, ← hu, List.getElem?_map, List.getD_eq_getElem?_getD, List.getElem?_eq_getElem hj]
      rfl
    have hlen : (ks.map fun k => Value.int .i64 k).length = ks.length * 1 := by simp
    rw [← hn] at hlen hl ⊢
    have hone : ∀ u ∈ (ks.map fun k => Value.int .i64 k), u.oneCell' = true := fun u hu => by obtain ⟨t, _, rfl⟩ := List.mem_map.1 hu; rfl
    have HI0 := Lib.hid hi; have HZ0 := Lib.hid hz0; have HZ1 := Lib.hid hz1; have HZ2 := Lib.hid hz2; have HNW := Lib.hid hnews; have HLN := Lib.hid hlen
    have HO := Lib.hid hone
    obtain ⟨C, hC⟩ : ∃ C, C = (ks.map fun k => Value.int .i64 k) := ⟨_, rfl⟩
    rw [← hC] at HNW HLN HO
    have HC := Lib.hid hC
    clear hi hz0 hz1 hz2 hnews hlen h hn hone hC
    have hnil := fun (W : World) (a : Option Addr) (n c : Nat) => Go.Lib.run_eql_slice_nil (P := Try.prog) W 40 3 a n c 0 0 Try.underlying40
    go_enter Try.func31, Try.ntmps31
    go_wp2_with (at_builtin; refine wpList_append_own_at _ rfl (.tmp 5) (.tmp 6) 40 rfl w.heap.size 3 i0 (.int .i64 0) 1 8 Try.underlying40 HI0.out HZ0.out HZ1.out HZ2.out rfl (by decide) (.slice (some ⟨w.heap.size, 0, none⟩) 0 0) 0 [] rfl (World.ownsRow_made w #[] 0 (Nat.le_refl _) (Nat.zero_le _) (by rfl)) ad n c C rfl HLN.out (HNW.out _ ((Below.refl _ _).alloc (Nat.le_refl _) _)) HO.out (by unfold maxLen; omega) (by omega) (by simp) ?_)
    intro v' w' hown hg _ hat
    obtain ⟨o, nv, cv, rfl⟩ : ∃ o n c, v' = .slice o n c := by obtain ⟨o, c, h⟩ := ownN_shape hown; exact ⟨o, _, c, h⟩
    have hnv : nv = n := by obtain ⟨o, c, h⟩ := ownN_shape hown; first | (injection h with _ h2 _; omega) | (injection h)
    subst hnv
    have hB : Below w.heap.size w w' := by
      have h1 : Below w.heap.size w (w.alloc (.cells #[] 3)) := (Below.refl _ _).alloc (Nat.le_refl _) _
      exact h1.grown hg (by simp) (fun k hk => by cases hk; exact Nat.le_refl _)
    have hout : w'.ownsRow w.heap.size 3 1 (.slice o nv cv) nv C := by simpa using hown
    have HB := Lib.hid hB; have HOUT := Lib.hid hout
    clear hB hout hown hg hat
    go_wp2_with fail
    go_ret
    exact ⟨o, cv, rfl, by rw [← HC.out]; exact HOUT.out, HB.out⟩
/-- Of a row, all behind j and ahead of i are turned round. -/
def RvTo (ks L : List Int) (i j : Int) : Prop := L.length = ks.length ∧ ∀ q : Nat, q < ks.length → L.getD q 0 = if (q : Int) < i ∨ j < (q : Int) then ks.getD (ks.length - 1 - q) 0 else ks.getD q 0
theorem rv_done {ks L : List Int} {i j : Int} (h : RvTo ks L i j) (hij : j ≤ i) (hs : i + j = (ks.length : Int) - 1) : L = ks.reverse := by
  apply List.ext_getElem (by rw [h.1, List.length_reverse])
  intro q h1 h2
  have hq : q < ks.length := by rw [← h.1]; exact h1
  have h3 := h.2 q hq
  rw [List.getD_eq_getElem?_getD, List.getElem?_eq_getElem h1] at h3
  rw [List.getElem_reverse]
  have h4 : L[q] = _ := h3
  rw [h4]
  split
  · rw [List.getD_eq_getElem?_getD, List.getElem?_eq_getElem (by omega)]; rfl
  · have e : ks.length - 1 - q = q := by omega
    rw [List.getD_eq_getElem?_getD, List.getElem?_eq_getElem hq]
    show ks[q] = _
    congr 1
    omega
theorem getD_set' (L : List Int) (i q : Nat) (x : Int) (hi : i < L.length) : (L.set i x).getD q 0 = if q = i then x else L.getD q 0 := by
  rw [List.getD_eq_getElem?_getD, List.getD_eq_getElem?_getD, List.getElem?_set]
  by_cases h : i = q
  · subst h; simp [hi]
  · rw [if_neg h, if_neg (fun e => h e.symm)]
theorem rv_step {ks L : List Int} {i j : Nat} (h : RvTo ks L i j) (hij : i < j) (hs : i + j = ks.length - 1) (hj : j < ks.length) :
    RvTo ks ((L.set i (L.getD j 0)).set j (L.getD i 0)) ((i : Int) + 1) ((j : Int) - 1) := by
  refine ⟨by simp [h.1], fun q hq => ?_⟩
  have hi1 := h.2 i (by omega)
  have hj1 := h.2 j hj
  have hq1 := h.2 q hq
  rw [if_neg (by omega)] at hi1 hj1
  rw [getD_set' _ _ _ _ (by simp [h.1]; omega), getD_set' _ _ _ _ (by rw [h.1]; omega)]
  by_cases e1 : q = j
  · rw [if_pos e1, hi1, if_pos (Or.inr (by omega)), e1]
    congr 1; omega
  · by_cases e2 : q = i
    · rw [if_neg e1, if_pos e2, hj1, if_pos (Or.inl (by omega)), e2]
      congr 1; omega
    · rw [if_neg e1, if_neg e2, hq1]
      by_cases e3 : (q : Int) < i ∨ (j : Int) < q
      · rw [if_pos e3, if_pos (by omega)]
      · rw [if_neg e3, if_neg (by omega)]
theorem own_int_at {w : World} {N n c : Nat} {o : Option Addr} {L : List Int} (h : w.ownsRow N 3 1 (.slice o n c) n (L.map fun k => .int .i64 k)) (h0 : 0 < n) : ∃ g, o = some ⟨g, 0, none⟩ ∧ N ≤ g ∧ g < w.heap.size ∧ (∀ q, q < n → w.cell? ⟨g, q, none⟩ = some (.int .i64 (L.getD q 0))) ∧ ∀ q, w.frozen? ⟨g, q, none⟩ = false := by
  have hl : L.length = n := by have := h.1; simpa using this
  rcases h.2 with ⟨e, hn⟩ | ⟨g, cap, cur, e, hg, hh, _⟩
  · omega
  · cases e
    refine ⟨g, rfl, hg, (Array.getElem?_eq_some_iff.1 hh).1, fun q hq => ?_, own_unfrozen h rfl⟩
    rw [h.cellAt q (by omega), List.getElem?_map, List.getD_eq_getElem?_getD, List.getElem?_eq_getElem (by omega)]
    rfl
theorem own_int_set {w : World} {N n c g : Nat} {L : List Int} (h : w.ownsRow N 3 1 (.slice (some ⟨g, 0, none⟩) n c) n (L.map fun k => .int .i64 k)) (i : Nat) (hi : i < n) (x : Int) : (w.setCell ⟨g, i, none⟩ (.int .i64 x)).ownsRow N 3 1 (.slice (some ⟨g, 0, none⟩) n c) n ((L.set i x).map fun k => .int .i64 k) := by
  rw [List.map_set]
  exact own_set h i (by omega) _
theorem own_drew {w : World} {N size n : Nat} {e : TypeId} {v : Value} {xs : List Value} (h : w.ownsRow N e size v n xs) : w.drew.ownsRow N e size v n xs := h
set_option maxHeartbeats 4000000 in
set_option maxRecDepth 100000 in
theorem reverse_any (N : Nat) (o : Option Addr) (c : Nat) (ks : List Int) (w : World) (h : w.ownsRow N 3 1 (.slice o ks.length c) ks.length (ks.map fun k => .int .i64 k)) (hl : ks.length ≤ 100000) :
    Calls Try.prog 32 #[.slice o ks.length c] w fun e w' => e = .returned (.tuple #[]) ∧ w'.ownsRow N 3 1 (.slice o ks.length c) ks.length (ks.reverse.map fun k => .int .i64 k) ∧ But (fun k => (Value.slice o ks.length c).ownBlock = some k) w w' := by
  obtain ⟨n, hn⟩ : ∃ n, n = ks.length := ⟨_, rfl⟩
  rw [← hn] at h hl ⊢
  have H := Lib.hid h; have HN := Lib.hid hn
  clear h hn
  go_enter Try.func32, Try.ntmps32
  go_wp2_with fail
  go_loopw [2, 3] (fun iv jv wr => ∃ (i : Nat) (j : Int) (L : List Int), iv = .int .i64 i ∧ jv = .int .i64 j ∧ (i : Int) + j = (n : Int) - 1 ∧ (i : Int) ≤ j + 2 ∧ Hid (RvTo ks L i j) ∧ Hid (wr.ownsRow N 3 1 (.slice o n c) n (L.map fun k => .int .i64 k)) ∧ Hid (But (fun k => (Value.slice o n c).ownBlock = some k) w wr)) (fun iv jv _ => (intOf jv - intOf iv + 2).toNat)
  case atStart => exact ⟨0, (n : Int) - 1, ks, rfl, by go_num, by omega, by omega, Lib.hid ⟨rfl, fun q hq => by rw [if_neg (by have := HN.out; omega)]⟩, H, Lib.hid (But.refl _ _)⟩
  case round =>
    obtain ⟨i, j, L, rfl, rfl, hs, hij2, HR, HO, HB⟩ := hrel
    by_cases hij : (i : Int) < j
    · obtain ⟨j, rfl⟩ : ∃ q : Nat, j = (q : Int) := ⟨j.toNat, by omega⟩
      have hin : i < n := by omega
      have hjn : j < n := by omega
      obtain ⟨g, rfl, hgN, hgl, hcell, hfz⟩ := own_int_at HO.out (by omega)
      have c1 := hcell i hin
      have c2 := hcell j hjn
      have f1 := hfz i
      have f2 := hfz j
      have hne : ¬ i = j := by omega
      have hne2 : ¬ j = i := by omega
      have hrs := rv_step HR.out (by omega) (by have := HN.out; omega) (by have := HN.out; omega)
      obtain ⟨a, ha⟩ : ∃ z, z = L.getD i 0 := ⟨_, rfl⟩
      obtain ⟨b, hb⟩ : ∃ z, z = L.getD j 0 := ⟨_, rfl⟩
      rw [← ha] at c1 hrs
      rw [← hb] at c2 hrs
      have HRS := Lib.hid hrs
      have o1 := own_int_set (own_int_set HO.out i hin b) j hjn a
      have b1 := (HB.out.setCell (p := ⟨g, i, none⟩) (fun _ => rfl) (.int .i64 b)).setCell (p := ⟨g, j, none⟩) (fun _ => rfl) (.int .i64 a)
      have HO1 := Lib.hid o1; have HB1 := Lib.hid b1
      clear ha hb hrs o1 b1 hcell hfz
      go_wp2_with fail
      go_region
      go_wp2_with fail
      go_roundw
      case rel => exact ⟨i + 1, (j : Int) - 1, _, by go_num, by go_num, by omega, by omega, HRS, HO1, Lib.hid HB1.out.drew⟩
      case measure => simp [intOf]; omega
    · have hrv := rv_done HR.out (by omega) (by have := HN.out; omega)
      have HRV := Lib.hid hrv
      clear hrv
      go_wp2_with fail
      go_end0
      exact ⟨rfl, by rw [← List.map_reverse, ← HRV.out]; exact HO.out, HB.out⟩
end Go.Proofs.Ytnlojgomildajaa
