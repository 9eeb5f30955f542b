/-
  PLAIN: a word put into its place in an ascending row. A string as runes; append onto a row of strings.
  WALKS: the document's Row.
  WALKS: the document's Sort, SameWords.
  WALKS: the document's Join.
  WALKS: cognatelaw03.lent, spoil.
-/
import Derived.Test.YtcibjgkifafohaaGreatDoorRoW
import Derived.Laws.IdiomStrings
import Derived.Laws.AppendOwnNone
import Derived.Maps.AppendAt
import Derived.Deep.CutBlock
import Derived.Deep.RegionHeld3
namespace Go.Proofs.YtcibjgkifafohaaGreatDoor
open Go.RowKit Go.Lib
set_option linter.unusedVariables false

/-- A text's letters. -/
def wdL (s : ByteArray) : List Int := runesL (cutW s)
/-- Of two texts that may be one is ahead, or they are one. -/
theorem ahd_total {row : List Int} {s t : ByteArray} (hs : rdW row s = 0) (ht : rdW row t = 0) (h : ¬ Ahd row (wdL s) (wdL t)) (hne : ¬ s = t) : Ahd row (wdL t) (wdL s) := by
  unfold Ahd at *
  have h1 := lexI_swap (numL row (wdL s)) (numL row (wdL t))
  have h2 : lexI (numL row (wdL s)) (numL row (wdL t)) ≠ 0 := fun e => hne (by
    have e2 := numL_inj _ _ (rd_word hs).1.mem (rd_word ht).1.mem (lexI_eq _ _ e)
    rw [← (rd_word hs).2, e2, (rd_word ht).2])
  omega
theorem ahd_trans {row a b c : List Int} (h1 : Ahd row a b) (h2 : Ahd row b c) : Ahd row a c := by
  unfold Ahd at *
  exact (lexI_trans _ _ _ (by omega) (by omega)).2 (Or.inl h1)
theorem take_snocS {l : List ByteArray} {i : Nat} (hi : i < l.length) : l.take (i + 1) = l.take i ++ [l.getD i ByteArray.empty] := by
  rw [getS_at hi, List.take_succ_eq_append_getElem hi]
theorem srt_start (row : List Int) (l : List ByteArray) : SrtOf row (l.take 0) [] := ⟨fun s => by simp, List.Pairwise.nil, by simp⟩
theorem srt_has {row : List Int} {l O : List ByteArray} {i : Nat} (hi : i < l.length) (h : SrtOf row (l.take i) O) (hin : l.getD i ByteArray.empty ∈ O) : SrtOf row (l.take (i + 1)) O := by
  refine ⟨fun s => ?_, h.asc, ?_⟩
  · rw [take_snocS hi, List.mem_append, ← h.mem, List.mem_singleton]
    exact ⟨Or.inl, fun x => x.elim id fun e => by rw [e]; exact hin⟩
  · have := h.len
    rw [List.length_take] at this ⊢
    omega
theorem srt_put {row : List Int} {l O : List ByteArray} {i k : Nat} (hl : ∀ s ∈ l, rdW row s = 0) (hi : i < l.length) (h : SrtOf row (l.take i) O) (hk : k ≤ O.length)
    (hlt : ∀ j, j < k → Ahd row (wdL (O.getD j ByteArray.empty)) (wdL (l.getD i ByteArray.empty))) (hge : k < O.length → ¬ Ahd row (wdL (O.getD k ByteArray.empty)) (wdL (l.getD i ByteArray.empty)) ∧ ¬ O.getD k ByteArray.empty = l.getD i ByteArray.empty) :
    SrtOf row (l.take (i + 1)) (O.take k ++ ([l.getD i ByteArray.empty] ++ O.drop k)) := by
  obtain ⟨x, hx⟩ : ∃ x, x = l.getD i ByteArray.empty := ⟨_, rfl⟩
  rw [← hx] at hlt hge ⊢
  have hxl : rdW row x = 0 := hl x (by rw [hx, getS_at hi]; exact List.getElem_mem hi)
  have hO : ∀ s ∈ O, rdW row s = 0 := fun s hs => hl s (List.mem_of_mem_take ((h.mem s).1 hs))
  have hasc := h.asc
  have hup : ∀ s ∈ O.drop k, Ahd row (wdL x) (wdL s) := fun s hs => by
    obtain ⟨j, hj, rfl⟩ := List.getElem_of_mem hs
    rw [List.length_drop] at hj
    have hkO : k < O.length := by omega
    obtain ⟨h1, h2⟩ := hge hkO
    rw [getS_at hkO] at h1 h2
    have h3 := ahd_total (hO _ (List.getElem_mem hkO)) hxl h1 h2
    rw [List.getElem_drop]
    by_cases e : j = 0
    · subst e; exact h3
    · exact ahd_trans h3 (List.pairwise_iff_getElem.1 hasc k (k + j) hkO (by omega) (by omega))
  refine ⟨fun s => ?_, ?_, ?_⟩
  · rw [take_snocS hi, ← hx, List.mem_append, List.mem_append, List.mem_append, ← h.mem, List.mem_singleton]
    have hs : s ∈ O ↔ s ∈ O.take k ∨ s ∈ O.drop k := by rw [← List.mem_append, List.take_append_drop]
    rw [hs]
    constructor
    · rintro (a | b | c)
      · exact Or.inl (Or.inl a)
      · exact Or.inr b
      · exact Or.inl (Or.inr c)
    · rintro ((a | c) | b)
      · exact Or.inl a
      · exact Or.inr (Or.inr c)
      · exact Or.inr (Or.inl b)
  · rw [List.pairwise_append]
    refine ⟨hasc.sublist (List.take_sublist _ _), ?_, fun a ha b hb => ?_⟩
    · rw [List.singleton_append, List.pairwise_cons]
      exact ⟨hup, hasc.sublist (List.drop_sublist _ _)⟩
    · obtain ⟨j, hj, rfl⟩ := List.getElem_of_mem ha
      rw [List.length_take] at hj
      have hjx := hlt j (by omega)
      rw [getS_at (show j < O.length by omega)] at hjx
      rw [List.getElem_take]
      rcases List.mem_append.1 hb with e | e
      · rw [List.mem_singleton.1 e]; exact hjx
      · exact ahd_trans hjx (hup b e)
  · have := h.len
    simp only [List.length_append, List.length_take, List.length_drop, List.length_singleton] at this ⊢
    omega

/-! ### []rune of a string -/
theorem to_runes (s : ByteArray) (hs : s.size ≤ 70368744177664) : ∃ (C : World → Nat) (G : World → World), ∀ W, (convert 9 40 (.string s)).run Tryz.prog W = .ok (.slice (some ⟨W.heap.size, 0, none⟩) (runesL s).length (C W)) (G W) ∧
    RsIn (some ⟨W.heap.size, 0, none⟩) W.heap.size 0 (runesL s) (G W) ∧ Below W.heap.size W (G W) ∧ W.heap.size < (G W).heap.size := by
  have hle : (runesL s).length ≤ s.size := by rw [runesL_length]; exact starts_le s
  have hra := runesFrom_all s
  have hsz : (Conv.runesFrom s s.size 0 #[]).size = (runesL s).length := by rw [hra]; simp
  refine ⟨fun W => grownCap W (runesL s).length 0 21, fun W => W.drew.alloc (.cells (Conv.runesFrom s s.size 0 #[] ++ Array.replicate (grownCap W (runesL s).length 0 21 - (runesL s).length) (.int .i32 0)) 21), fun W => ⟨?_, ⟨fun _ => rfl, fun j hj => ?_, by omega⟩, ?_, ?_⟩⟩
  · have h := run_runes_of_string (P := Tryz.prog) W 9 40 21 s Tryz.underlying9 Tryz.underlying40 Tryz.underlying21 (by rw [hsz]; omega)
    rw [hsz] at h
    exact h
  · rw [Nat.zero_add, show W.heap.size = W.drew.heap.size from rfl, World.cell?_alloc_mark, Array.getElem?_append_left (by rw [hsz]; exact hj), hra, List.getElem?_toArray, List.getElem?_map, getD_at hj, List.getElem?_eq_getElem hj]
    rfl
  · exact (Below.refl _ _).drew.alloc (Nat.le_refl _) _
  · simp

/-! ### append onto a row of strings of the call's own -/
theorem app_ss {w : World} {ops : Array Oper} {rest : List Oper} {o : Oper} {a : Act} {Q : Exit → Act → World → Prop} (hgd : o.guard = none) (s x : Operand)
    (ho : o.op = .call { callee := .builtin .append, args := #[s, x], argTypes := #[22, 22] }) (base : Nat) (v : Value) (n : Nat) (xs : List Value) (hs : a.eval s = v) (hown : w.ownsRow base 9 1 v n xs)
    (px : Option Addr) (m c : Nat) (l : List ByteArray) (hx : a.eval x = .slice px m c) (hm : m = l.length) (h0 : px = none → m = 0 ∧ c = 0) (hS : ∀ ad, px = some ad → ∀ j, j < m → w.cell? (ad.add j) = some (.string (l.getD j ByteArray.empty)))
    (hbytes : (n + m) * 16 ≤ 140737488355328) (hbase : base ≤ w.heap.size)
    (h : ∀ v' w', w'.ownsRow base 9 1 v' (n + m) (xs ++ l.map Value.string) → w.grownBy w' v.ownBlock → (v'.ownBlock = v.ownBlock ∨ v'.ownBlock = some w.heap.size) → wpList Tryz.prog ops Q rest (a.put o.dst v') w') :
    wpList Tryz.prog ops Q (o :: rest) a w := by
  obtain ⟨i0, hi, hz0, hz1, hz2⟩ := info_parts str_info
  cases px with
  | none =>
    obtain ⟨rfl, rfl⟩ := h0 rfl
    obtain rfl : l = [] := List.eq_nil_of_length_eq_zero hm.symm
    refine wpList_append_own_none hgd s x 22 ho base 9 i0 1 Tryz.underlying22 hi v n xs hs hown hx ?_
    exact h v w (by simpa using hown) ⟨rfl, rfl, rfl, Nat.le_refl _, fun _ _ _ => rfl⟩ (Or.inl rfl)
  | some ad =>
    refine wpList_append_own_at w hgd s x 22 ho base 9 i0 (.string ByteArray.empty) 1 16 Tryz.underlying22 hi hz0 hz1 hz2 rfl (by decide) v n xs hs hown ad m c (l.map Value.string) hx (by simp [hm]) (fun j u hj => ?_) (fun u hu => ?_) (by unfold maxLen; omega) hbytes hbase ?_
    · have hj' : j < l.length := by simpa using (List.getElem?_eq_some_iff.1 hj).1
      rw [hS ad rfl j (by omega), getS_at hj']
      rw [List.getElem?_map, List.getElem?_eq_getElem hj'] at hj
      exact hj
    · obtain ⟨t, _, rfl⟩ := List.mem_map.1 hu
      rfl
    · intro v' w' h1 h2 _ h4
      exact h v' w' h1 h2 h4
end Go.Proofs.YtcibjgkifafohaaGreatDoor
namespace Go.Proofs.YtcibjgkifafohaaGreatDoor
open Go.RowKit Go.Lib
set_option linter.unusedVariables false

def RowPost (row : List Int) (l : List ByteArray) (w : World) (e : Ending) (w' : World) : Prop :=
  ∃ v T, e = .returned v ∧ SrtOf row l T ∧ w'.ownsRow w.heap.size 9 1 v T.length (T.map Value.string) ∧ Below w.heap.size w w'

set_option maxHeartbeats 8000000 in
set_option maxRecDepth 100000 in
theorem rrow_any (A : Al) (sr : Option Addr) (ur s0 cs : Nat) (l : List ByteArray) (w : World) (hA : A.In w) (hS : SsIn sr ur s0 l w) (h0 : alE (rowL A) l = 0) (hl4 : l.length ≤ 4096) :
    Calls Tryz.prog 32 #[A.v, .slice sr l.length cs] w (RowPost (rowL A) l w) := by
  unfold RowPost
  have hrd := alE_zero.1 h0
  have kord := fun qr tr ur cs vr ct (a b : List Int) W h1 h2 h3 => rorder_any A qr tr ur 0 cs vr 0 ct a b W h1 h2 h3
  obtain ⟨n, hn⟩ : ∃ n, n = l.length := ⟨_, rfl⟩
  rw [← hn] at hl4 ⊢
  obtain ⟨pf, pl, nf, cf, nl, cl, hv, hnf, hnl, hpl, hcl, hpf, hcf⟩ := A.parts
  rw [hv] at kord ⊢
  have hs := Bx.start (F := .slice pf nf cf) (L := .slice pl nl cl) hA
  have hl0 := hS.next ((Below.refl _ _).alloc (Nat.le_refl _) (.cells #[.slice pf nf cf, .slice pl nl cl] 25))
  have hz0 : w.heap.size < (w.alloc (.cells #[.slice pf nf cf, .slice pl nl cl] 25)).heap.size := by simp
  have hb0 : Below w.heap.size w (w.alloc (.cells #[.slice pf nf cf, .slice pl nl cl] 25)) := (Below.refl _ _).alloc (Nat.le_refl _) _
  obtain ⟨W0, hW0⟩ : ∃ W0, W0 = w.alloc (.cells #[.slice pf nf cf, .slice pl nl cl] 25) := ⟨_, rfl⟩
  rw [← hW0] at hs hl0 hz0 hb0
  have HW0 := Lib.hid hW0.symm
  have HS := Lib.hid hs; have HL := Lib.hid hl0; have HB0 := Lib.hid hb0; have HN := Lib.hid hn; have HRD := Lib.hid hrd; have KO := Lib.hid kord
  have HST := Lib.hid (srt_start (rowL A) l)
  clear hs hl0 hb0 hn hrd kord hA hS h0 hv hnf hnl hpl hcl hpf hcf hW0
  go_enter Tryz.func32, Tryz.ntmps32
  go_wp2_with fail
  rw [HW0.out]
  go_loopw [5, 6] (fun ov iv wr => ∃ (i : Nat) (O : List ByteArray), iv = .int .i64 i ∧ i ≤ n ∧ Hid (SrtOf (rowL A) (l.take i) O) ∧ Hid (wr.ownsRow W0.heap.size 9 1 ov O.length (O.map Value.string)) ∧ Hid (Below W0.heap.size W0 wr)) (fun _ iv _ => n - (intOf iv).toNat)
  case atStart => exact ⟨0, [], rfl, Nat.zero_le _, HST, World.ownsRow_nil _ _ _ _, Below.refl _ _⟩
  case round =>
    obtain ⟨i, O, rfl, hi, HO, HOw, HB⟩ := hrel
    have hszr := HB.out.size
    by_cases hin : i < n
    · have hil : i < l.length := by have := HN.out; omega
      have hLr := HL.out.next HB.out
      obtain rfl := hLr.at_ (by omega)
      have a0 := hLr.cells i hil
      have hxl : rdW (rowL A) (l.getD i ByteArray.empty) = 0 := HRD.out _ (by rw [getS_at hil]; exact List.getElem_mem hil)
      obtain ⟨x, hx⟩ : ∃ x, x = l.getD i ByteArray.empty := ⟨_, rfl⟩
      rw [← hx] at a0 hxl
      obtain ⟨no, hno⟩ : ∃ n, n = O.length := ⟨_, rfl⟩
      have hno4 : no ≤ n := by have h1 := HO.out.len; rw [List.length_take] at h1; have := HN.out; omega
      rw [← hno] at HOw
      obtain ⟨po, co, rfl⟩ := own_shape HOw.out
      have HX := Lib.hid hx; have HXL := Lib.hid hxl; have HNO := Lib.hid hno; have HLr := Lib.hid hLr
      clear hLr hx hxl hno
      have hown : 0 < no → ∃ g, po = some ⟨g, 0, none⟩ := fun h => by
        rcases HOw.out.2 with ⟨_, h1⟩ | ⟨g, cap, cur, he, _⟩
        · omega
        · simp only [Value.slice.injEq] at he; exact ⟨g, he.1⟩
      have HOWN := Lib.hid hown
      clear hown
      obtain ⟨W1, rfl⟩ : ∃ W1, W1 = wr := ⟨_, rfl⟩
      go_upto_block 2 with fail
      go_cut [7] from 15 to 35 (fun s7 wc => ∃ k : Nat, s7 = .int .i64 k ∧ k ≤ no ∧ Hid (∀ j, j < k → Ahd (rowL A) (wdL (O.getD j ByteArray.empty)) (wdL x)) ∧ Hid (k < no → ¬ Ahd (rowL A) (wdL (O.getD k ByteArray.empty)) (wdL x)) ∧ Hid (Below W1.heap.size W1 wc))
      case first =>
        go_wp2_with fail
        go_loopw [7] (fun kv wk => ∃ k : Nat, kv = .int .i64 k ∧ k ≤ no ∧ Hid (∀ j, j < k → Ahd (rowL A) (wdL (O.getD j ByteArray.empty)) (wdL x)) ∧ Hid (Below W1.heap.size W1 wk)) (fun kv _ => no - (intOf kv).toNat)
        case atStart => exact ⟨0, rfl, Nat.zero_le _, fun j h => absurd h (by omega), Below.refl _ _⟩
        case round =>
          obtain ⟨k, rfl, hk, HA, HBk⟩ := hrel
          by_cases hkn : k < no
          · obtain ⟨g, rfl⟩ := HOWN.out (by omega)
            have hkO : k < O.length := by have := HNO.out; omega
            have b0 : wr.cell? ⟨g, k, none⟩ = some (.string (O.getD k ByteArray.empty)) := by
              rw [HBk.out.cell (p := ⟨g, k, none⟩) (HOw.out.lt g rfl).2, HOw.out.cellAt k (by omega), List.getElem?_map, getS_at hkO, List.getElem?_eq_getElem hkO]
              rfl
            have hql : rdW (rowL A) (O.getD k ByteArray.empty) = 0 := HRD.out _ (by
              rw [getS_at hkO]
              exact List.mem_of_mem_take ((HO.out.mem _).1 (List.getElem_mem hkO)))
            have hstep : Ahd (rowL A) (wdL (O.getD k ByteArray.empty)) (wdL x) → ∀ j, j < k + 1 → Ahd (rowL A) (wdL (O.getD j ByteArray.empty)) (wdL x) := fun h j hj => by
              by_cases e : j = k
              · rw [e]; exact h
              · exact HA.out j (by omega)
            obtain ⟨q, hq⟩ : ∃ q, q = O.getD k ByteArray.empty := ⟨_, rfl⟩
            rw [← hq] at b0 hql hstep
            have hqs := rd_same hql
            have hxs := rd_same HXL.out
            have hqz : q.size ≤ 260 := by have := cutW_size q; rw [hqs] at this; exact this
            have hxz : x.size ≤ 260 := by have := cutW_size x; rw [hxs] at this; exact this
            obtain ⟨C1, G1, hG1⟩ := to_runes q (by omega)
            obtain ⟨C2, G2, hG2⟩ := to_runes x (by omega)
            have conv1 := fun W => (hG1 W).1
            have conv2 := fun W => (hG2 W).1
            have hS : ∀ W, Below wr.heap.size wr W → (W.cell? ⟨w.heap.size, 0, none⟩ = some (.slice pf nf cf) ∧ W.cell? ⟨w.heap.size, 1, none⟩ = some (.slice pl nl cl) ∧ W.cell? ⟨g, k, none⟩ = some (.string q) ∧ W.cell? ⟨ur, s0 + i, none⟩ = some (.string x)) := fun W hb => by
              have h1 := HS.out.next (HB.out.trans ((HBk.out.trans (hb.mono HBk.out.size)).mono hszr))
              exact ⟨h1.c0, h1.c1, (hb.cell (p := ⟨g, k, none⟩) (lt_of_cell b0)).trans b0, ((HBk.out.trans (hb.mono HBk.out.size)).cell (p := ⟨ur, s0 + i, none⟩) (lt_of_cell a0)).trans a0⟩
            have hAW : ∀ W, Below wr.heap.size wr W → A.In W := fun W hb => (HS.out.next (HB.out.trans ((HBk.out.trans (hb.mono HBk.out.size)).mono hszr))).i
            have d0 : Below wr.heap.size wr wr.drew := (Below.refl _ _).drew
            have d1 : Below wr.heap.size wr (G1 wr.drew) := d0.trans ((hG1 _).2.2.1.mono d0.size)
            have d2 : Below wr.heap.size wr (G2 wr.drew) := d0.trans ((hG2 _).2.2.1.mono d0.size)
            have d12 : Below wr.heap.size wr (G2 (G1 wr.drew)) := d1.trans ((hG2 _).2.2.1.mono d1.size)
            have d21 : Below wr.heap.size wr (G1 (G2 wr.drew)) := d2.trans ((hG1 _).2.2.1.mono d2.size)
            obtain ⟨R, hR⟩ : ∃ R, R = lexI (numL (rowL A) (runesL q)) (numL (rowL A) (runesL x)) := ⟨_, rfl⟩
            have hRA : (R < 0) = Ahd (rowL A) (wdL q) (wdL x) := by rw [hR]; unfold Ahd wdL; rw [hqs, hxs]
            have ko1 : Calls Tryz.prog 21 #[.agg #[.slice pf nf cf, .slice pl nl cl], .slice (some ⟨wr.heap.size, 0, none⟩) (runesL q).length (C1 wr.drew), .slice (some ⟨(G1 wr.drew).heap.size, 0, none⟩) (runesL x).length (C2 (G1 wr.drew))] (G2 (G1 wr.drew)) fun e w' => e = .returned (.int .i64 R) ∧ Below wr.heap.size wr w' := by
              refine (KO.out _ _ _ _ _ _ _ _ _ (hAW _ d12) ((hG1 wr.drew).2.1.next (hG2 _).2.2.1) (hG2 _).2.1).mono ?_
              rintro e w' ⟨h1, h2⟩
              rw [hR]
              exact ⟨h1, d12.trans (h2.mono d12.size)⟩
            have ko2 : Calls Tryz.prog 21 #[.agg #[.slice pf nf cf, .slice pl nl cl], .slice (some ⟨(G2 wr.drew).heap.size, 0, none⟩) (runesL q).length (C1 (G2 wr.drew)), .slice (some ⟨wr.heap.size, 0, none⟩) (runesL x).length (C2 wr.drew)] (G1 (G2 wr.drew)) fun e w' => e = .returned (.int .i64 R) ∧ Below wr.heap.size wr w' := by
              refine (KO.out _ _ _ _ _ _ _ _ _ (hAW _ d21) (hG1 _).2.1 ((hG2 wr.drew).2.1.next (hG1 _).2.2.1)).mono ?_
              rintro e w' ⟨h1, h2⟩
              rw [hR]
              exact ⟨h1, d21.trans (h2.mono d21.size)⟩
            obtain ⟨m1, hm1⟩ : ∃ m, m = (runesL q).length := ⟨_, rfl⟩
            obtain ⟨m2, hm2⟩ : ∃ m, m = (runesL x).length := ⟨_, rfl⟩
            rw [← hm1, ← hm2] at ko1 ko2
            rw [← hm1] at conv1
            rw [← hm2] at conv2
            have KO1 := Lib.hid ko1; have KO2 := Lib.hid ko2; have HSS := Lib.hid hS; have D0 := Lib.hid d0; have D1 := Lib.hid d1; have D2 := Lib.hid d2; have D12 := Lib.hid d12; have D21 := Lib.hid d21; have HRA := Lib.hid hRA; have HST2 := Lib.hid hstep; have HQ := Lib.hid hq
            have z1 : (k : Int) < (no : Int) := by omega
            have z2 : (i : Int) < (n : Int) := by omega
            clear ko1 ko2 hS hAW d0 d1 d2 d12 d21 hRA hR hstep hq hm1 hm2 hG1 hG2 hqs hxs hqz hxz hql b0
            go_upto_region 6 with fail
            go_cut [33] from 15 to 35 (fun s33 wc => s33 = .bool (decide (R < 0)) ∧ Hid (Below wr.heap.size wr wc))
            case first =>
              refine wp_region_held_drew (S := (fun w' => w'.cell? ⟨w.heap.size, 0, none⟩ = some (.slice pf nf cf) ∧ w'.cell? ⟨w.heap.size, 1, none⟩ = some (.slice pl nl cl) ∧ w'.cell? ⟨g, k, none⟩ = some (.string q) ∧ w'.cell? ⟨ur, s0 + i, none⟩ = some (.string x))) (by kernel_rfl) ?hS0 (fun hHeld => ?hR0)
              case hS0 => exact HSS.out _ D0.out
              refine wpAnyH_take (i := 0) (oi := ({ dst := some 15, op := Op.move (Operand.tmp 7), type := 3, pos := "ref.go:148", after := #[], guard := none } : Oper)) (v := ?v1) rfl (by kernel_rfl) (by kernel_rfl) (by kernel_rfl) (fun _ _ _ h => h) (Or.inl ⟨by rfl, ?h1⟩) (by assumption) ?r1
              case h1 => ((intro w hSw); (try dsimp only at hSw); go_simp; (try with_reducible rfl))
              try simp only [Act.put, List.setIfInBounds_toArray, List.set_cons_zero, List.set_cons_succ]
              refine wpAnyH_take (i := 1) (oi := ({ dst := some 16, op := Op.move (Operand.tmp 5), type := 22, pos := "ref.go:148", after := #[], guard := none } : Oper)) (v := ?v2) rfl (by kernel_rfl) (by kernel_rfl) (by kernel_rfl) (fun _ _ _ h => h) (Or.inl ⟨by rfl, ?h2⟩) (by assumption) ?r2
              case h2 => ((intro w hSw); (try dsimp only at hSw); go_simp; (try with_reducible rfl))
              try simp only [Act.put, List.setIfInBounds_toArray, List.set_cons_zero, List.set_cons_succ]
              refine wpAnyH_take (i := 2) (oi := ({ dst := some 17, op := Op.call { callee := Callee.builtin Builtin.len, args := #[Operand.tmp 16], argTypes := #[22] }, type := 3, pos := "ref.go:148", after := #[{ on := 1, ground := Ground.data }], guard := none } : Oper)) (v := ?v3) rfl (by kernel_rfl) (by kernel_rfl) (by kernel_rfl) (fun _ _ _ h => h) (Or.inl ⟨by rfl, ?h3⟩) (by assumption) ?r3
              case h3 => ((intro w hSw); (try dsimp only at hSw); go_simp; (try with_reducible rfl))
              try simp only [Act.put, List.setIfInBounds_toArray, List.set_cons_zero, List.set_cons_succ]
              refine wpAnyH_take (i := 3) (oi := ({ dst := some 18, op := Op.binOp BinOp.lss 3 (Operand.tmp 15) (Operand.tmp 17) 3, type := 4, pos := "ref.go:148", after := #[{ on := 0, ground := Ground.data }, { on := 2, ground := Ground.data }], guard := none } : Oper)) (v := ?v4) rfl (by kernel_rfl) (by kernel_rfl) (by kernel_rfl) (fun _ _ _ h => h) (Or.inl ⟨by rfl, ?h4⟩) (by assumption) ?r4
              case h4 => ((intro w hSw); (try dsimp only at hSw); go_simp; (try with_reducible rfl))
              try simp only [Act.put, List.setIfInBounds_toArray, List.set_cons_zero, List.set_cons_succ]
              refine wpAnyH_take (i := 4) (oi := ({ dst := some 19, op := Op.move (Operand.tmp 18), type := 4, pos := "ref.go:148", after := #[{ on := 3, ground := Ground.data }], guard := none } : Oper)) (v := ?v5) rfl (by kernel_rfl) (by kernel_rfl) (by kernel_rfl) (fun _ _ _ h => h) (Or.inl ⟨by rfl, ?h5⟩) (by assumption) ?r5
              case h5 => ((intro w hSw); (try dsimp only at hSw); go_simp; (try with_reducible rfl))
              try simp only [Act.put, List.setIfInBounds_toArray, List.set_cons_zero, List.set_cons_succ]
              refine wpAnyH_take (i := 5) (oi := ({ dst := some 20, op := Op.load 25 (Operand.tmp 2), type := 25, pos := "ref.go:148", after := #[{ on := 4, ground := Ground.guard }], guard := some (4, true) } : Oper)) (v := ?v6) rfl (by kernel_rfl) (by kernel_rfl) (by kernel_rfl) (fun _ _ _ h => h) (Or.inl ⟨by rfl, ?h6⟩) (by assumption) ?r6
              case h6 => ((intro w hSw); (try dsimp only at hSw); go_simp; (try with_reducible rfl))
              try simp only [Act.put, List.setIfInBounds_toArray, List.set_cons_zero, List.set_cons_succ]
              refine wpAnyH_take (i := 6) (oi := ({ dst := some 21, op := Op.move (Operand.tmp 5), type := 22, pos := "ref.go:148", after := #[{ on := 4, ground := Ground.guard }], guard := some (4, true) } : Oper)) (v := ?v7) rfl (by kernel_rfl) (by kernel_rfl) (by kernel_rfl) (fun _ _ _ h => h) (Or.inl ⟨by rfl, ?h7⟩) (by assumption) ?r7
              case h7 => ((intro w hSw); (try dsimp only at hSw); go_simp; (try with_reducible rfl))
              try simp only [Act.put, List.setIfInBounds_toArray, List.set_cons_zero, List.set_cons_succ]
              refine wpAnyH_take (i := 7) (oi := ({ dst := some 22, op := Op.move (Operand.tmp 7), type := 3, pos := "ref.go:148", after := #[{ on := 4, ground := Ground.guard }], guard := some (4, true) } : Oper)) (v := ?v8) rfl (by kernel_rfl) (by kernel_rfl) (by kernel_rfl) (fun _ _ _ h => h) (Or.inl ⟨by rfl, ?h8⟩) (by assumption) ?r8
              case h8 => ((intro w hSw); (try dsimp only at hSw); go_simp; (try with_reducible rfl))
              try simp only [Act.put, List.setIfInBounds_toArray, List.set_cons_zero, List.set_cons_succ]
              refine wpAnyH_take (i := 8) (oi := ({ dst := some 23, op := Op.indexAddr 22 (Operand.tmp 21) (Operand.tmp 22), type := 0, pos := "ref.go:148", after := #[{ on := 6, ground := Ground.data }, { on := 7, ground := Ground.data }, { on := 4, ground := Ground.guard }], guard := some (4, true) } : Oper)) (v := ?v9) rfl (by kernel_rfl) (by kernel_rfl) (by kernel_rfl) (fun _ _ _ h => h) (Or.inl ⟨by rfl, ?h9⟩) (by assumption) ?r9
              case h9 => ((intro w hSw); (try dsimp only at hSw); go_simp; (try with_reducible rfl))
              try simp only [Act.put, List.setIfInBounds_toArray, List.set_cons_zero, List.set_cons_succ]
              refine wpAnyH_take (i := 9) (oi := ({ dst := some 24, op := Op.load 9 (Operand.tmp 23), type := 9, pos := "ref.go:148", after := #[{ on := 8, ground := Ground.data }, { on := 4, ground := Ground.guard }], guard := some (4, true) } : Oper)) (v := ?v10) rfl (by kernel_rfl) (by kernel_rfl) (by kernel_rfl) (fun _ _ _ h => h) (Or.inl ⟨by rfl, ?h10⟩) (by assumption) ?r10
              case h10 => ((intro w hSw); (try dsimp only at hSw); go_simp; (try with_reducible rfl))
              try simp only [Act.put, List.setIfInBounds_toArray, List.set_cons_zero, List.set_cons_succ]
              refine wpAnyH_take (i := 11) (oi := ({ dst := some 26, op := Op.move (Operand.tmp 1), type := 22, pos := "ref.go:148", after := #[{ on := 4, ground := Ground.guard }], guard := some (4, true) } : Oper)) (v := ?v11) rfl (by kernel_rfl) (by kernel_rfl) (by kernel_rfl) (fun _ _ _ h => h) (Or.inl ⟨by rfl, ?h11⟩) (by assumption) ?r11
              case h11 => ((intro w hSw); (try dsimp only at hSw); go_simp; (try with_reducible rfl))
              try simp only [Act.put, List.setIfInBounds_toArray, List.set_cons_zero, List.set_cons_succ]
              refine wpAnyH_take (i := 12) (oi := ({ dst := some 27, op := Op.move (Operand.tmp 6), type := 3, pos := "ref.go:148", after := #[{ on := 4, ground := Ground.guard }], guard := some (4, true) } : Oper)) (v := ?v12) rfl (by kernel_rfl) (by kernel_rfl) (by kernel_rfl) (fun _ _ _ h => h) (Or.inl ⟨by rfl, ?h12⟩) (by assumption) ?r12
              case h12 => ((intro w hSw); (try dsimp only at hSw); go_simp; (try with_reducible rfl))
              try simp only [Act.put, List.setIfInBounds_toArray, List.set_cons_zero, List.set_cons_succ]
              refine wpAnyH_take (i := 13) (oi := ({ dst := some 28, op := Op.indexAddr 22 (Operand.tmp 26) (Operand.tmp 27), type := 0, pos := "ref.go:148", after := #[{ on := 11, ground := Ground.data }, { on := 12, ground := Ground.data }, { on := 4, ground := Ground.guard }], guard := some (4, true) } : Oper)) (v := ?v13) rfl (by kernel_rfl) (by kernel_rfl) (by kernel_rfl) (fun _ _ _ h => h) (Or.inl ⟨by rfl, ?h13⟩) (by assumption) ?r13
              case h13 => ((intro w hSw); (try dsimp only at hSw); go_simp; (try with_reducible rfl))
              try simp only [Act.put, List.setIfInBounds_toArray, List.set_cons_zero, List.set_cons_succ]
              refine wpAnyH_take (i := 14) (oi := ({ dst := some 29, op := Op.load 9 (Operand.tmp 28), type := 9, pos := "ref.go:148", after := #[{ on := 13, ground := Ground.data }, { on := 4, ground := Ground.guard }], guard := some (4, true) } : Oper)) (v := ?v14) rfl (by kernel_rfl) (by kernel_rfl) (by kernel_rfl) (fun _ _ _ h => h) (Or.inl ⟨by rfl, ?h14⟩) (by assumption) ?r14
              case h14 => ((intro w hSw); (try dsimp only at hSw); go_simp; (try with_reducible rfl))
              try simp only [Act.put, List.setIfInBounds_toArray, List.set_cons_zero, List.set_cons_succ]
              refine wpAnyH_ready (rs := [10, 15]) (by kernel_rfl) (by simp) ?_
              refine AllReadyH.cons (o := ({ dst := some 25, op := Op.convert 9 40 (Operand.tmp 24), type := 40, pos := "ref.go:148", after := #[{ on := 9, ground := Ground.data }, { on := 4, ground := Ground.guard }], guard := some (4, true) } : Oper)) rfl (fun K hK => ?s15) ?m15
              case s15 =>
                go_simp
                refine hK.out _ _ ?_ (fun hHeld => ?_)
                · exact HSS.out _ D1.out
                clear hK K
                try simp only [Act.put, List.setIfInBounds_toArray, List.set_cons_zero, List.set_cons_succ]
                refine wpAnyH_ready (rs := [15]) (by kernel_rfl) (by simp) ?_
                refine AllReadyH.cons (o := ({ dst := some 30, op := Op.convert 9 40 (Operand.tmp 29), type := 40, pos := "ref.go:148", after := #[{ on := 14, ground := Ground.data }, { on := 4, ground := Ground.guard }], guard := some (4, true) } : Oper)) rfl (fun K hK => ?s16) ?m16
                case s16 =>
                  go_simp
                  refine hK.out _ _ ?_ (fun hHeld => ?_)
                  · exact HSS.out _ D12.out
                  clear hK K
                  try simp only [Act.put, List.setIfInBounds_toArray, List.set_cons_zero, List.set_cons_succ]
                  refine wpAnyH_ready (rs := [16]) (by kernel_rfl) (by simp) ?_
                  refine AllReadyH.cons (o := ({ dst := some 31, op := Op.call { callee := Callee.value (Operand.func 21), args := #[Operand.tmp 20, Operand.tmp 25, Operand.tmp 30], argTypes := #[25, 40, 40] }, type := 3, pos := "ref.go:148", after := #[{ on := 5, ground := Ground.data }, { on := 10, ground := Ground.data }, { on := 15, ground := Ground.data }, { on := 4, ground := Ground.chain }, { on := 4, ground := Ground.guard }], guard := some (4, true) } : Oper)) rfl (fun K hK => ?s17) ?m17
                  case s17 =>
                    go_simp
                    (go_at_call 21; (with_reducible refine KO1.out.mono ?_); rintro _ wq ⟨rfl, hacc⟩)
                    (try go_wp2_with fail)
                    refine hK.out _ _ ?_ (fun hHeld => ?_)
                    · exact HSS.out _ hacc
                    clear hK K
                    try simp only [Act.put, List.setIfInBounds_toArray, List.set_cons_zero, List.set_cons_succ]
                    refine wpAnyH_take (i := 17) (oi := ({ dst := some 32, op := Op.binOp BinOp.lss 3 (Operand.tmp 31) (Operand.const (Value.int IntKind.i64 0)) 3, type := 4, pos := "ref.go:148", after := #[{ on := 16, ground := Ground.data }, { on := 4, ground := Ground.guard }], guard := some (4, true) } : Oper)) (v := ?v18) rfl (by kernel_rfl) (by kernel_rfl) (by kernel_rfl) (fun _ _ _ h => h) (Or.inl ⟨by rfl, ?h18⟩) (by assumption) ?r18
                    case h18 => ((intro w hSw); (try dsimp only at hSw); go_simp; (try with_reducible rfl))
                    try simp only [Act.put, List.setIfInBounds_toArray, List.set_cons_zero, List.set_cons_succ]
                    refine wpAnyH_take (i := 18) (oi := ({ dst := some 33, op := Op.pick (Operand.tmp 19) (Operand.tmp 32) (Operand.const (Value.bool false)), type := 4, pos := "ref.go:148", after := #[{ on := 4, ground := Ground.data }, { on := 17, ground := Ground.data }], guard := none } : Oper)) (v := ?v19) rfl (by kernel_rfl) (by kernel_rfl) (by kernel_rfl) (fun _ _ _ h => h) (Or.inl ⟨by rfl, ?h19⟩) (by assumption) ?r19
                    case h19 => ((intro w hSw); (try dsimp only at hSw); go_simp; (try with_reducible rfl))
                    try simp only [Act.put, List.setIfInBounds_toArray, List.set_cons_zero, List.set_cons_succ]
                    refine wpAnyH_done (by kernel_rfl) ?_ _
                    (try go_wp2_with fail)
                    go_meet
                    exact ⟨rfl, hacc⟩
                  case m17 => exact AllReadyH.nil
                case m16 =>
                  exact AllReadyH.nil
              case m15 =>
                refine AllReadyH.cons (o := ({ dst := some 30, op := Op.convert 9 40 (Operand.tmp 29), type := 40, pos := "ref.go:148", after := #[{ on := 14, ground := Ground.data }, { on := 4, ground := Ground.guard }], guard := some (4, true) } : Oper)) rfl (fun K hK => ?s20) ?m20
                case s20 =>
                  go_simp
                  refine hK.out _ _ ?_ (fun hHeld => ?_)
                  · exact HSS.out _ D2.out
                  clear hK K
                  try simp only [Act.put, List.setIfInBounds_toArray, List.set_cons_zero, List.set_cons_succ]
                  refine wpAnyH_ready (rs := [10]) (by kernel_rfl) (by simp) ?_
                  refine AllReadyH.cons (o := ({ dst := some 25, op := Op.convert 9 40 (Operand.tmp 24), type := 40, pos := "ref.go:148", after := #[{ on := 9, ground := Ground.data }, { on := 4, ground := Ground.guard }], guard := some (4, true) } : Oper)) rfl (fun K hK => ?s21) ?m21
                  case s21 =>
                    go_simp
                    refine hK.out _ _ ?_ (fun hHeld => ?_)
                    · exact HSS.out _ D21.out
                    clear hK K
                    try simp only [Act.put, List.setIfInBounds_toArray, List.set_cons_zero, List.set_cons_succ]
                    refine wpAnyH_ready (rs := [16]) (by kernel_rfl) (by simp) ?_
                    refine AllReadyH.cons (o := ({ dst := some 31, op := Op.call { callee := Callee.value (Operand.func 21), args := #[Operand.tmp 20, Operand.tmp 25, Operand.tmp 30], argTypes := #[25, 40, 40] }, type := 3, pos := "ref.go:148", after := #[{ on := 5, ground := Ground.data }, { on := 10, ground := Ground.data }, { on := 15, ground := Ground.data }, { on := 4, ground := Ground.chain }, { on := 4, ground := Ground.guard }], guard := some (4, true) } : Oper)) rfl (fun K hK => ?s22) ?m22
                    case s22 =>
                      go_simp
                      (go_at_call 21; (with_reducible refine KO2.out.mono ?_); rintro _ wq ⟨rfl, hacc⟩)
                      (try go_wp2_with fail)
                      refine hK.out _ _ ?_ (fun hHeld => ?_)
                      · exact HSS.out _ hacc
                      clear hK K
                      try simp only [Act.put, List.setIfInBounds_toArray, List.set_cons_zero, List.set_cons_succ]
                      refine wpAnyH_take (i := 17) (oi := ({ dst := some 32, op := Op.binOp BinOp.lss 3 (Operand.tmp 31) (Operand.const (Value.int IntKind.i64 0)) 3, type := 4, pos := "ref.go:148", after := #[{ on := 16, ground := Ground.data }, { on := 4, ground := Ground.guard }], guard := some (4, true) } : Oper)) (v := ?v23) rfl (by kernel_rfl) (by kernel_rfl) (by kernel_rfl) (fun _ _ _ h => h) (Or.inl ⟨by rfl, ?h23⟩) (by assumption) ?r23
                      case h23 => ((intro w hSw); (try dsimp only at hSw); go_simp; (try with_reducible rfl))
                      try simp only [Act.put, List.setIfInBounds_toArray, List.set_cons_zero, List.set_cons_succ]
                      refine wpAnyH_take (i := 18) (oi := ({ dst := some 33, op := Op.pick (Operand.tmp 19) (Operand.tmp 32) (Operand.const (Value.bool false)), type := 4, pos := "ref.go:148", after := #[{ on := 4, ground := Ground.data }, { on := 17, ground := Ground.data }], guard := none } : Oper)) (v := ?v24) rfl (by kernel_rfl) (by kernel_rfl) (by kernel_rfl) (fun _ _ _ h => h) (Or.inl ⟨by rfl, ?h24⟩) (by assumption) ?r24
                      case h24 => ((intro w hSw); (try dsimp only at hSw); go_simp; (try with_reducible rfl))
                      try simp only [Act.put, List.setIfInBounds_toArray, List.set_cons_zero, List.set_cons_succ]
                      refine wpAnyH_done (by kernel_rfl) ?_ _
                      (try go_wp2_with fail)
                      go_meet
                      exact ⟨rfl, hacc⟩
                    case m22 => exact AllReadyH.nil
                  case m21 =>
                    exact AllReadyH.nil
                case m20 =>
                  exact AllReadyH.nil
            case rest =>
            obtain ⟨rfl, HBc⟩ := hcut
            have HB3 := Lib.hid (HBk.out.trans (HBc.out.mono HBk.out.size))
            clear conv1 conv2 KO1 KO2 HSS D0 D1 D2 D12 D21 HBc
            by_cases hR0 : R < 0
            · have HA2 := Lib.hid (HST2.out (by rw [← HRA.out]; exact hR0))
              have e1 : decide (R < 0) = true := by simpa using hR0
              clear HRA HST2
              go_wp2_with fail
              go_roundw
              case rel => exact ⟨k + 1, by go_num, by omega, HA2, HB3⟩
              case measure => simp [intOf]; omega
            · have HA2 := Lib.hid (show k < no → ¬ Ahd (rowL A) (wdL (O.getD k ByteArray.empty)) (wdL x) from fun _ => by rw [← HQ.out, ← HRA.out]; exact hR0)
              have e1 : decide (R < 0) = false := by simpa using hR0
              clear HRA HST2
              go_wp2_with fail
              go_meet
              exact ⟨k, rfl, by omega, HA, HA2, HB3⟩
          · have e1 : decide (k < no) = false := by simpa using hkn
            have e2 : decide ((k : Int) < (no : Int)) = false := by simp; omega
            have HA2 := Lib.hid (show k < no → ¬ Ahd (rowL A) (wdL (O.getD k ByteArray.empty)) (wdL x) from fun h => absurd h hkn)
            go_wp2_with fail
            go_quiet (fail)
            have HB3 := Lib.hid (below_drewN HBk.out nq)
            go_wp2_with fail
            go_meet
            exact ⟨k, rfl, hk, HA, HA2, HB3⟩
      case rest =>
      obtain ⟨k, rfl, hk, HA, HA2, HBc⟩ := hcut
      have hszc := HBc.out.size
      have HBw := Lib.hid (HB.out.trans (HBc.out.mono hszr))
      have HOc := Lib.hid (own_below HOw.out HBc.out)
      have HLc := Lib.hid (HLr.out.next HBc.out)
      have z2 : (i : Int) < (n : Int) := by omega
      have b0 : wc.cell? ⟨ur, s0 + i, none⟩ = some (.string x) := (HBc.out.cell (p := ⟨ur, s0 + i, none⟩) (lt_of_cell a0)).trans a0
      have hsrt : (k < O.length → ¬ O.getD k ByteArray.empty = x) → SrtOf (rowL A) (l.take (i + 1)) (O.take k ++ ([x] ++ O.drop k)) := fun h => by
        rw [HX.out] at h ⊢
        refine srt_put HRD.out hil HO.out (by rw [← HNO.out]; exact hk) (fun j hj => by rw [← HX.out]; exact HA.out j hj) (fun hk2 => ⟨by rw [← HX.out]; exact HA2.out (by rw [HNO.out]; exact hk2), h hk2⟩)
      have HSRT := Lib.hid hsrt
      have hhas : O.getD k ByteArray.empty = x → k < no → SrtOf (rowL A) (l.take (i + 1)) O := fun h h2 => by
        refine srt_has hil HO.out ?_
        rw [← HX.out, ← h, getS_at (by rw [← HNO.out]; exact h2)]
        exact List.getElem_mem _
      have HHAS := Lib.hid hhas
      have hcell : ∀ g, po = some ⟨g, 0, none⟩ → ∀ j, j < no → wc.cell? ⟨g, j, none⟩ = some (.string (O.getD j ByteArray.empty)) := fun g hg j hj => by
        have hjO : j < O.length := by have := HNO.out; omega
        subst hg
        rw [HOc.out.cellAt j (by omega), List.getElem?_map, getS_at hjO, List.getElem?_eq_getElem hjO]
        rfl
      have HCELL := Lib.hid hcell
      clear hsrt hhas hcell a0 HLr HOw
      by_cases hkn : k < no
      · obtain ⟨g, rfl⟩ := HOWN.out (by omega)
        have c0 := HCELL.out g rfl k hkn
        obtain ⟨q, hq⟩ : ∃ q, q = O.getD k ByteArray.empty := ⟨_, rfl⟩
        rw [← hq] at c0
        have z1 : (k : Int) < (no : Int) := by omega
        by_cases hqx : q = x
        · have HF := Lib.hid (HHAS.out (by rw [← hq]; exact hqx) hkn)
          subst hqx
          clear hq
          go_wp2_with fail
          go_quiet (fail)
          have HB4 := Lib.hid (below_drewN HBw.out nq)
          have HO4 := Lib.hid (own_below HOc.out (below_drewN (Below.refl wc.heap.size wc) nq))
          go_wp2_with fail
          go_roundw
          case rel => exact ⟨i + 1, O, by go_num, by omega, HF, by rw [← HNO.out]; exact HO4, HB4⟩
          case measure => simp [intOf]; omega
        · have HF := Lib.hid (HSRT.out fun _ => by rw [← hq]; exact hqx)
          have e1 : (q.toList == x.toList) = false := by rw [beq_eq_false_iff_ne]; exact fun e => hqx (toL_inj e)
          clear hq
          obtain ⟨hco1, hco2, hgl⟩ : no ≤ co ∧ co ≤ 9223372036854775807 ∧ g < wc.heap.size := by
            rcases HOc.out.2 with ⟨he, _⟩ | ⟨g', cap, cur, he, h1, h2, h3, h4, _⟩
            · cases he
            · cases he
              unfold maxLen at h4
              exact ⟨h3, by omega, (Array.getElem?_eq_some_iff.1 h2).1⟩
          have HGL := Lib.hid hgl
          clear hgl
          by_cases hck : co = k
          · exact absurd hck (by omega)
          · have hck2 : ¬ co - k = 0 := by omega
            go_wp2_with fail
            go_quiet (fail)
            have HV := Lib.hid (below_drewN HBw.out nq)
            have HV0 := Lib.hid (below_drewN (Below.refl wc.heap.size wc) nq)
            have bV : (wc.drewN nq).cell? ⟨ur, s0 + i, none⟩ = some (.string x) := b0
            have hzV : wc.heap.size = (wc.drewN nq).heap.size := rfl
            obtain ⟨V, hV⟩ : ∃ V, V = wc.drewN nq := ⟨_, rfl⟩
            rw [← hV] at HV HV0 bV hzV ⊢
            clear hV b0
            go_wp2_with (at_builtin; refine app_ss rfl (.tmp 51) (.tmp 54) rfl V.heap.size (.slice none 0 0) 0 [] rfl (World.ownsRow_nil _ _ _ _) (some ⟨g, 0, none⟩) k co (O.take k) rfl ?m1a ?n1a ?s1a ?y1a ?z1a ?_)
            any_goals (first
              | exact Nat.le_refl _
              | omega
              | (rw [List.length_take]; have := HNO.out; omega)
              | exact fun h => absurd h (by simp)
              | exact fun _ => ⟨rfl, rfl⟩
              | (intro ad had j hj; exact absurd hj (by omega))
              | (intro ad had j hj; cases had; rw [Addr.add_lit, Nat.zero_add, HV0.out.cell (p := ⟨g, j, none⟩) (HGL.out), HCELL.out g rfl j (by omega), List.getD_eq_getElem?_getD, List.getD_eq_getElem?_getD, List.getElem?_take_of_lt hj]))
            intro v1 w1 hown1 hgrow1 hat1
            have ho1 : w1.ownsRow V.heap.size 9 1 v1 k ((O.take k).map Value.string) := by simpa using hown1
            have hB1 : Below V.heap.size V w1 := grown_none hgrow1
            have HO1 := Lib.hid ho1; have HB1 := Lib.hid hB1
            have hz1 := hB1.size
            have b1 : w1.cell? ⟨ur, s0 + i, none⟩ = some (.string x) := (hB1.cell (p := ⟨ur, s0 + i, none⟩) (lt_of_cell bV)).trans bV
            clear hown1 ho1 hgrow1 hat1 hB1 bV
            go_wp2_with (at_builtin; refine app_ss rfl (.tmp 56) (.tmp 61) rfl V.heap.size v1 k ((O.take k).map Value.string) rfl (HO1.out.alloc _) (some ⟨w1.heap.size, 0, none⟩) 1 1 [x] rfl rfl ?n2a ?s2a ?y2a ?z2a ?_)
            any_goals (first
              | omega
              | (simp; omega)
              | exact fun h => absurd h (by simp)
              | (intro ad had j hj; cases had; obtain rfl : j = 0 := by omega
                 simp [Addr.add]))
            intro v2 w2 hown2 hgrow2 hat2
            have hB2 : Below V.heap.size V w2 := (HB1.out.alloc hz1 _).grown hgrow2 (by simp; omega) (fun q hq => (HO1.out.lt q hq).1)
            have ho2 : w2.ownsRow V.heap.size 9 1 v2 (k + 1) ((O.take k).map Value.string ++ [x].map Value.string) := by simpa using hown2
            have HO2 := Lib.hid ho2; have HB2 := Lib.hid hB2
            have hz2 := hB2.size
            clear hown2 ho2 hgrow2 hat2 hB2 b1
            go_wp2_with (at_builtin; refine app_ss rfl (.tmp 63) (.tmp 66) rfl V.heap.size v2 (k + 1) ((O.take k).map Value.string ++ [x].map Value.string) rfl HO2.out (some ⟨g, k, none⟩) (no - k) (co - k) (O.drop k) rfl ?m3a ?n3a ?s3a ?y3a ?z3a ?_)
            any_goals (first
              | omega
              | (rw [List.length_drop]; have := HNO.out; omega)
              | exact fun h => absurd h (by simp)
              | exact fun _ => ⟨rfl, rfl⟩
              | (intro ad had j hj; exact absurd hj (by omega))
              | (intro ad had j hj; cases had; rw [Addr.add_lit, HB2.out.cell (p := ⟨g, k + j, none⟩) (show g < V.heap.size by have := HGL.out; omega), HV0.out.cell (p := ⟨g, k + j, none⟩) HGL.out, HCELL.out g rfl (k + j) (by omega), List.getD_eq_getElem?_getD, List.getD_eq_getElem?_getD, List.getElem?_drop]))
            intro v3 w3 hown3 hgrow3 hat3
            have hB3 : Below V.heap.size V w3 := HB2.out.grown hgrow3 (by omega) (fun q hq => (HO2.out.lt q hq).1)
            have hO3 : w3.ownsRow W0.heap.size 9 1 v3 (O.take k ++ ([x] ++ O.drop k)).length ((O.take k ++ ([x] ++ O.drop k)).map Value.string) := by
              have e : (O.take k ++ ([x] ++ O.drop k)).length = k + 1 + (no - k) := by
                simp only [List.length_append, List.length_take, List.length_drop, List.length_singleton]
                have := HNO.out
                omega
              have ho3 : w3.ownsRow V.heap.size 9 1 v3 (k + 1 + (no - k)) (((O.take k).map Value.string ++ [x].map Value.string) ++ (O.drop k).map Value.string) := by simpa using hown3
              rw [e, List.map_append, List.map_append, ← List.append_assoc]
              exact own_base ho3 (by have := HV.out.size; omega)
            have HO3 := Lib.hid hO3
            have HB3 := Lib.hid (HV.out.trans (hB3.mono HV.out.size))
            clear hown3 hgrow3 hat3 hB3 hO3
            go_wp2_with fail
            go_roundw
            case rel => exact ⟨i + 1, O.take k ++ ([x] ++ O.drop k), by go_num, by omega, HF, HO3, HB3⟩
            case measure => simp [intOf]; omega
      · have hkno : no ≤ k := by omega
        have HF := Lib.hid (HSRT.out fun h => absurd h (by have := HNO.out; omega))
        have e1 : decide (k < no) = false := by simpa using hkn
        have e2 : decide ((k : Int) < (no : Int)) = false := by simp; omega
        by_cases hpo : po = none
        · subst hpo
          obtain ⟨rfl, rfl⟩ : no = 0 ∧ co = 0 := by
            rcases HOc.out.2 with ⟨he, h1⟩ | ⟨g', cap, cur, he, _⟩
            · simp only [Value.slice.injEq] at he; exact ⟨h1, he.2.2⟩
            · cases he
          obtain rfl : k = 0 := by omega
          go_wp2_with fail
          go_quiet (fail)
          have HV := Lib.hid (below_drewN HBw.out nq)
          have HV0 := Lib.hid (below_drewN (Below.refl wc.heap.size wc) nq)
          have bV : (wc.drewN nq).cell? ⟨ur, s0 + i, none⟩ = some (.string x) := b0
          have hzV : wc.heap.size = (wc.drewN nq).heap.size := rfl
          obtain ⟨V, hV⟩ : ∃ V, V = wc.drewN nq := ⟨_, rfl⟩
          rw [← hV] at HV HV0 bV hzV ⊢
          clear hV b0
          go_wp2_with (at_builtin; refine app_ss rfl (.tmp 51) (.tmp 54) rfl V.heap.size (.slice none 0 0) 0 [] rfl (World.ownsRow_nil _ _ _ _) none 0 0 (O.take 0) rfl ?m1b ?n1b ?s1b ?y1b ?z1b ?_)
          any_goals (first
            | exact Nat.le_refl _
            | omega
            | (rw [List.length_take]; have := HNO.out; omega)
            | exact fun h => absurd h (by simp)
            | exact fun _ => ⟨rfl, rfl⟩
            | (intro ad had j hj; exact absurd hj (by omega))
            | (intro ad had j hj; cases had; rw [Addr.add_lit, Nat.zero_add, HV0.out.cell (p := ⟨g, j, none⟩) (HGL.out), HCELL.out g rfl j (by omega), List.getD_eq_getElem?_getD, List.getD_eq_getElem?_getD, List.getElem?_take_of_lt hj]))
          intro v1 w1 hown1 hgrow1 hat1
          have ho1 : w1.ownsRow V.heap.size 9 1 v1 0 ((O.take 0).map Value.string) := by simpa using hown1
          have hB1 : Below V.heap.size V w1 := grown_none hgrow1
          have HO1 := Lib.hid ho1; have HB1 := Lib.hid hB1
          have hz1 := hB1.size
          have b1 : w1.cell? ⟨ur, s0 + i, none⟩ = some (.string x) := (hB1.cell (p := ⟨ur, s0 + i, none⟩) (lt_of_cell bV)).trans bV
          clear hown1 ho1 hgrow1 hat1 hB1 bV
          go_wp2_with (at_builtin; refine app_ss rfl (.tmp 56) (.tmp 61) rfl V.heap.size v1 0 ((O.take 0).map Value.string) rfl (HO1.out.alloc _) (some ⟨w1.heap.size, 0, none⟩) 1 1 [x] rfl rfl ?n2b ?s2b ?y2b ?z2b ?_)
          any_goals (first
            | omega
            | (simp; omega)
            | exact fun h => absurd h (by simp)
            | (intro ad had j hj; cases had; obtain rfl : j = 0 := by omega
               simp [Addr.add]))
          intro v2 w2 hown2 hgrow2 hat2
          have hB2 : Below V.heap.size V w2 := (HB1.out.alloc hz1 _).grown hgrow2 (by simp; omega) (fun q hq => (HO1.out.lt q hq).1)
          have ho2 : w2.ownsRow V.heap.size 9 1 v2 (0 + 1) ((O.take 0).map Value.string ++ [x].map Value.string) := by simpa using hown2
          have HO2 := Lib.hid ho2; have HB2 := Lib.hid hB2
          have hz2 := hB2.size
          clear hown2 ho2 hgrow2 hat2 hB2 b1
          go_wp2_with (at_builtin; refine app_ss rfl (.tmp 63) (.tmp 66) rfl V.heap.size v2 (0 + 1) ((O.take 0).map Value.string ++ [x].map Value.string) rfl HO2.out none 0 0 (O.drop 0) rfl ?m3b ?n3b ?s3b ?y3b ?z3b ?_)
          any_goals (first
            | omega
            | (rw [List.length_drop]; have := HNO.out; omega)
            | exact fun h => absurd h (by simp)
            | exact fun _ => ⟨rfl, rfl⟩
            | (intro ad had j hj; exact absurd hj (by omega))
            | (intro ad had j hj; cases had; rw [Addr.add_lit, HB2.out.cell (p := ⟨g, k + j, none⟩) (show g < V.heap.size by have := HGL.out; omega), HV0.out.cell (p := ⟨g, k + j, none⟩) HGL.out, HCELL.out g rfl (k + j) (by omega), List.getD_eq_getElem?_getD, List.getD_eq_getElem?_getD, List.getElem?_drop]))
          intro v3 w3 hown3 hgrow3 hat3
          have hB3 : Below V.heap.size V w3 := HB2.out.grown hgrow3 (by omega) (fun q hq => (HO2.out.lt q hq).1)
          have hO3 : w3.ownsRow W0.heap.size 9 1 v3 (O.take 0 ++ ([x] ++ O.drop 0)).length ((O.take 0 ++ ([x] ++ O.drop 0)).map Value.string) := by
            have e : (O.take 0 ++ ([x] ++ O.drop 0)).length = 0 + 1 + 0 := by
              simp only [List.length_append, List.length_take, List.length_drop, List.length_singleton]
              have := HNO.out
              omega
            have ho3 : w3.ownsRow V.heap.size 9 1 v3 (0 + 1 + 0) (((O.take 0).map Value.string ++ [x].map Value.string) ++ (O.drop 0).map Value.string) := by simpa using hown3
            rw [e, List.map_append, List.map_append, ← List.append_assoc]
            exact own_base ho3 (by have := HV.out.size; omega)
          have HO3 := Lib.hid hO3
          have HB3 := Lib.hid (HV.out.trans (hB3.mono HV.out.size))
          clear hown3 hgrow3 hat3 hB3 hO3
          go_wp2_with fail
          go_roundw
          case rel => exact ⟨i + 1, O.take 0 ++ ([x] ++ O.drop 0), by go_num, by omega, HF, HO3, HB3⟩
          case measure => simp [intOf]; omega
        · obtain ⟨g, rfl⟩ : ∃ g, po = some ⟨g, 0, none⟩ := by
            rcases HOc.out.2 with ⟨he, _⟩ | ⟨g', cap, cur, he, _⟩
            · simp only [Value.slice.injEq] at he; exact absurd he.1 hpo
            · simp only [Value.slice.injEq] at he; exact ⟨g', he.1⟩
          obtain ⟨hco1, hco2, hgl⟩ : no ≤ co ∧ co ≤ 9223372036854775807 ∧ g < wc.heap.size := by
            rcases HOc.out.2 with ⟨he, _⟩ | ⟨g', cap, cur, he, h1, h2, h3, h4, _⟩
            · cases he
            · cases he
              unfold maxLen at h4
              exact ⟨h3, by omega, (Array.getElem?_eq_some_iff.1 h2).1⟩
          have HGL := Lib.hid hgl
          clear hgl
          by_cases hck : co = k
          · obtain rfl : k = co := hck.symm
            go_wp2_with fail
            go_quiet (fail)
            have HV := Lib.hid (below_drewN HBw.out nq)
            have HV0 := Lib.hid (below_drewN (Below.refl wc.heap.size wc) nq)
            have bV : (wc.drewN nq).cell? ⟨ur, s0 + i, none⟩ = some (.string x) := b0
            have hzV : wc.heap.size = (wc.drewN nq).heap.size := rfl
            obtain ⟨V, hV⟩ : ∃ V, V = wc.drewN nq := ⟨_, rfl⟩
            rw [← hV] at HV HV0 bV hzV ⊢
            clear hV b0
            go_wp2_with (at_builtin; refine app_ss rfl (.tmp 51) (.tmp 54) rfl V.heap.size (.slice none 0 0) 0 [] rfl (World.ownsRow_nil _ _ _ _) (some ⟨g, 0, none⟩) k k (O.take k) rfl ?m1c ?n1c ?s1c ?y1c ?z1c ?_)
            any_goals (first
              | exact Nat.le_refl _
              | omega
              | (rw [List.length_take]; have := HNO.out; omega)
              | exact fun h => absurd h (by simp)
              | exact fun _ => ⟨rfl, rfl⟩
              | (intro ad had j hj; exact absurd hj (by omega))
              | (intro ad had j hj; cases had; rw [Addr.add_lit, Nat.zero_add, HV0.out.cell (p := ⟨g, j, none⟩) (HGL.out), HCELL.out g rfl j (by omega), List.getD_eq_getElem?_getD, List.getD_eq_getElem?_getD, List.getElem?_take_of_lt hj]))
            intro v1 w1 hown1 hgrow1 hat1
            have ho1 : w1.ownsRow V.heap.size 9 1 v1 k ((O.take k).map Value.string) := by simpa using hown1
            have hB1 : Below V.heap.size V w1 := grown_none hgrow1
            have HO1 := Lib.hid ho1; have HB1 := Lib.hid hB1
            have hz1 := hB1.size
            have b1 : w1.cell? ⟨ur, s0 + i, none⟩ = some (.string x) := (hB1.cell (p := ⟨ur, s0 + i, none⟩) (lt_of_cell bV)).trans bV
            clear hown1 ho1 hgrow1 hat1 hB1 bV
            go_wp2_with (at_builtin; refine app_ss rfl (.tmp 56) (.tmp 61) rfl V.heap.size v1 k ((O.take k).map Value.string) rfl (HO1.out.alloc _) (some ⟨w1.heap.size, 0, none⟩) 1 1 [x] rfl rfl ?n2c ?s2c ?y2c ?z2c ?_)
            any_goals (first
              | omega
              | (simp; omega)
              | exact fun h => absurd h (by simp)
              | (intro ad had j hj; cases had; obtain rfl : j = 0 := by omega
                 simp [Addr.add]))
            intro v2 w2 hown2 hgrow2 hat2
            have hB2 : Below V.heap.size V w2 := (HB1.out.alloc hz1 _).grown hgrow2 (by simp; omega) (fun q hq => (HO1.out.lt q hq).1)
            have ho2 : w2.ownsRow V.heap.size 9 1 v2 (k + 1) ((O.take k).map Value.string ++ [x].map Value.string) := by simpa using hown2
            have HO2 := Lib.hid ho2; have HB2 := Lib.hid hB2
            have hz2 := hB2.size
            clear hown2 ho2 hgrow2 hat2 hB2 b1
            go_wp2_with (at_builtin; refine app_ss rfl (.tmp 63) (.tmp 66) rfl V.heap.size v2 (k + 1) ((O.take k).map Value.string ++ [x].map Value.string) rfl HO2.out (some ⟨g, 0, none⟩) 0 0 (O.drop k) rfl ?m3c ?n3c ?s3c ?y3c ?z3c ?_)
            any_goals (first
              | omega
              | (rw [List.length_drop]; have := HNO.out; omega)
              | exact fun h => absurd h (by simp)
              | exact fun _ => ⟨rfl, rfl⟩
              | (intro ad had j hj; exact absurd hj (by omega))
              | (intro ad had j hj; cases had; rw [Addr.add_lit, HB2.out.cell (p := ⟨g, k + j, none⟩) (show g < V.heap.size by have := HGL.out; omega), HV0.out.cell (p := ⟨g, k + j, none⟩) HGL.out, HCELL.out g rfl (k + j) (by omega), List.getD_eq_getElem?_getD, List.getD_eq_getElem?_getD, List.getElem?_drop]))
            intro v3 w3 hown3 hgrow3 hat3
            have hB3 : Below V.heap.size V w3 := HB2.out.grown hgrow3 (by omega) (fun q hq => (HO2.out.lt q hq).1)
            have hO3 : w3.ownsRow W0.heap.size 9 1 v3 (O.take k ++ ([x] ++ O.drop k)).length ((O.take k ++ ([x] ++ O.drop k)).map Value.string) := by
              have e : (O.take k ++ ([x] ++ O.drop k)).length = k + 1 + 0 := by
                simp only [List.length_append, List.length_take, List.length_drop, List.length_singleton]
                have := HNO.out
                omega
              have ho3 : w3.ownsRow V.heap.size 9 1 v3 (k + 1 + 0) (((O.take k).map Value.string ++ [x].map Value.string) ++ (O.drop k).map Value.string) := by simpa using hown3
              rw [e, List.map_append, List.map_append, ← List.append_assoc]
              exact own_base ho3 (by have := HV.out.size; omega)
            have HO3 := Lib.hid hO3
            have HB3 := Lib.hid (HV.out.trans (hB3.mono HV.out.size))
            clear hown3 hgrow3 hat3 hB3 hO3
            go_wp2_with fail
            go_roundw
            case rel => exact ⟨i + 1, O.take k ++ ([x] ++ O.drop k), by go_num, by omega, HF, HO3, HB3⟩
            case measure => simp [intOf]; omega
          · have hck2 : ¬ co - k = 0 := by omega
            go_wp2_with fail
            go_quiet (fail)
            have HV := Lib.hid (below_drewN HBw.out nq)
            have HV0 := Lib.hid (below_drewN (Below.refl wc.heap.size wc) nq)
            have bV : (wc.drewN nq).cell? ⟨ur, s0 + i, none⟩ = some (.string x) := b0
            have hzV : wc.heap.size = (wc.drewN nq).heap.size := rfl
            obtain ⟨V, hV⟩ : ∃ V, V = wc.drewN nq := ⟨_, rfl⟩
            rw [← hV] at HV HV0 bV hzV ⊢
            clear hV b0
            go_wp2_with (at_builtin; refine app_ss rfl (.tmp 51) (.tmp 54) rfl V.heap.size (.slice none 0 0) 0 [] rfl (World.ownsRow_nil _ _ _ _) (some ⟨g, 0, none⟩) k co (O.take k) rfl ?m1d ?n1d ?s1d ?y1d ?z1d ?_)
            any_goals (first
              | exact Nat.le_refl _
              | omega
              | (rw [List.length_take]; have := HNO.out; omega)
              | exact fun h => absurd h (by simp)
              | exact fun _ => ⟨rfl, rfl⟩
              | (intro ad had j hj; exact absurd hj (by omega))
              | (intro ad had j hj; cases had; rw [Addr.add_lit, Nat.zero_add, HV0.out.cell (p := ⟨g, j, none⟩) (HGL.out), HCELL.out g rfl j (by omega), List.getD_eq_getElem?_getD, List.getD_eq_getElem?_getD, List.getElem?_take_of_lt hj]))
            intro v1 w1 hown1 hgrow1 hat1
            have ho1 : w1.ownsRow V.heap.size 9 1 v1 k ((O.take k).map Value.string) := by simpa using hown1
            have hB1 : Below V.heap.size V w1 := grown_none hgrow1
            have HO1 := Lib.hid ho1; have HB1 := Lib.hid hB1
            have hz1 := hB1.size
            have b1 : w1.cell? ⟨ur, s0 + i, none⟩ = some (.string x) := (hB1.cell (p := ⟨ur, s0 + i, none⟩) (lt_of_cell bV)).trans bV
            clear hown1 ho1 hgrow1 hat1 hB1 bV
            go_wp2_with (at_builtin; refine app_ss rfl (.tmp 56) (.tmp 61) rfl V.heap.size v1 k ((O.take k).map Value.string) rfl (HO1.out.alloc _) (some ⟨w1.heap.size, 0, none⟩) 1 1 [x] rfl rfl ?n2d ?s2d ?y2d ?z2d ?_)
            any_goals (first
              | omega
              | (simp; omega)
              | exact fun h => absurd h (by simp)
              | (intro ad had j hj; cases had; obtain rfl : j = 0 := by omega
                 simp [Addr.add]))
            intro v2 w2 hown2 hgrow2 hat2
            have hB2 : Below V.heap.size V w2 := (HB1.out.alloc hz1 _).grown hgrow2 (by simp; omega) (fun q hq => (HO1.out.lt q hq).1)
            have ho2 : w2.ownsRow V.heap.size 9 1 v2 (k + 1) ((O.take k).map Value.string ++ [x].map Value.string) := by simpa using hown2
            have HO2 := Lib.hid ho2; have HB2 := Lib.hid hB2
            have hz2 := hB2.size
            clear hown2 ho2 hgrow2 hat2 hB2 b1
            go_wp2_with (at_builtin; refine app_ss rfl (.tmp 63) (.tmp 66) rfl V.heap.size v2 (k + 1) ((O.take k).map Value.string ++ [x].map Value.string) rfl HO2.out (some ⟨g, k, none⟩) 0 (co - k) (O.drop k) rfl ?m3d ?n3d ?s3d ?y3d ?z3d ?_)
            any_goals (first
              | omega
              | (rw [List.length_drop]; have := HNO.out; omega)
              | exact fun h => absurd h (by simp)
              | exact fun _ => ⟨rfl, rfl⟩
              | (intro ad had j hj; exact absurd hj (by omega))
              | (intro ad had j hj; cases had; rw [Addr.add_lit, HB2.out.cell (p := ⟨g, k + j, none⟩) (show g < V.heap.size by have := HGL.out; omega), HV0.out.cell (p := ⟨g, k + j, none⟩) HGL.out, HCELL.out g rfl (k + j) (by omega), List.getD_eq_getElem?_getD, List.getD_eq_getElem?_getD, List.getElem?_drop]))
            intro v3 w3 hown3 hgrow3 hat3
            have hB3 : Below V.heap.size V w3 := HB2.out.grown hgrow3 (by omega) (fun q hq => (HO2.out.lt q hq).1)
            have hO3 : w3.ownsRow W0.heap.size 9 1 v3 (O.take k ++ ([x] ++ O.drop k)).length ((O.take k ++ ([x] ++ O.drop k)).map Value.string) := by
              have e : (O.take k ++ ([x] ++ O.drop k)).length = k + 1 + 0 := by
                simp only [List.length_append, List.length_take, List.length_drop, List.length_singleton]
                have := HNO.out
                omega
              have ho3 : w3.ownsRow V.heap.size 9 1 v3 (k + 1 + 0) (((O.take k).map Value.string ++ [x].map Value.string) ++ (O.drop k).map Value.string) := by simpa using hown3
              rw [e, List.map_append, List.map_append, ← List.append_assoc]
              exact own_base ho3 (by have := HV.out.size; omega)
            have HO3 := Lib.hid hO3
            have HB3 := Lib.hid (HV.out.trans (hB3.mono HV.out.size))
            clear hown3 hgrow3 hat3 hB3 hO3
            go_wp2_with fail
            go_roundw
            case rel => exact ⟨i + 1, O.take k ++ ([x] ++ O.drop k), by go_num, by omega, HF, HO3, HB3⟩
            case measure => simp [intOf]; omega
    · have hil : i = l.length := by have := HN.out; omega
      obtain ⟨po, co, rfl⟩ := own_shape HOw.out
      have HF : Hid (SrtOf (rowL A) l O) := by
        have h1 := HO.out
        rw [hil, List.take_length] at h1
        exact h1
      have HOw2 := Lib.hid (own_base HOw.out (Nat.le_of_lt hz0))
      have HB2 := Lib.hid (HB0.out.trans (HB.out.mono HB0.out.size))
      clear hil HO
      obtain ⟨no, hno⟩ : ∃ n, n = O.length := ⟨_, rfl⟩
      have HNO := Lib.hid hno
      go_wp2_with fail
      go_ret
      exact ⟨_, O, rfl, HF.out, HOw2.out, HB2.out⟩
end Go.Proofs.YtcibjgkifafohaaGreatDoor
namespace Go.Proofs.YtcibjgkifafohaaGreatDoor
open Go.RowKit Go.Lib
set_option linter.unusedVariables false

theorem srt_one {row : List Int} {l T U : List ByteArray} (h : SrtOf row l T) (h' : SrtOf row l U) : T = U :=
  asc_one (fun s t => Ahd row (runesL (cutW s)) (runesL (cutW t))) (fun _ => Ahd.irr) (fun _ _ => Ahd.asym) T U h.asc h'.asc fun s => (h.mem s).trans (h'.mem s).symm

set_option maxHeartbeats 2000000 in
set_option maxRecDepth 100000 in
theorem rsort_no (A : Al) (sr : Option Addr) (ur s0 cs : Nat) (l : List ByteArray) (w : World) (hA : A.In w) (hT : Tabs w) (hS : SsIn sr ur s0 l w) (hz : SizesIn l) (h : ¬ srtE A l = 0) :
    Calls Tryz.prog 11 #[A.v, .slice sr l.length cs] w (SrtNo A l w) := by
  unfold SrtNo
  have kl := fun W h1 h2 h3 => rlist_any A sr ur s0 cs l W h1 h2 h3 hz
  obtain ⟨E, hE⟩ : ∃ E, E = srtE A l := ⟨_, rfl⟩
  rw [← hE] at kl h ⊢
  obtain ⟨n, hn⟩ : ∃ n, n = l.length := ⟨_, rfl⟩
  rw [← hn] at kl ⊢
  obtain ⟨pf, pl, nf, cf, nl, cl, hv, hnf, hnl, hpl, hcl, hpf, hcf⟩ := A.parts
  rw [hv] at kl ⊢
  have e1 : (E == 0) = false := by simp [h]
  have e2 : (E != 0) = true := by simp [h]
  have hs := Wx.start (F := .slice pf nf cf) (L := .slice pl nl cl) hA hT
  have HS := Lib.hid hs; have HL := Lib.hid (hS.next ((Below.refl _ _).alloc (Nat.le_refl _) (.cells #[.slice pf nf cf, .slice pl nl cl] 25))); have KL := Lib.hid kl
  clear hs kl hn hE h hA hT hS hz hv hnf hnl hpl hcl hpf hcf
  go_enter Tryz.func11, Tryz.ntmps11
  go_wp2_with fail
  refine (KL.out _ (HS.out).i (HS.out).t HL.out).mono ?_
  rintro _ w1 ⟨rfl, hb⟩
  have HB := Lib.hid ((HS.out).next hb).below
  clear HS HL hb
  go_wp2_with fail
  go_ret2
  exact ⟨rfl, HB.out⟩
set_option maxHeartbeats 2000000 in
set_option maxRecDepth 100000 in
theorem rsort_yes (A : Al) (sr : Option Addr) (ur s0 cs : Nat) (l : List ByteArray) (w : World) (hA : A.In w) (hT : Tabs w) (hS : SsIn sr ur s0 l w) (hz : SizesIn l) (h : srtE A l = 0) :
    Calls Tryz.prog 11 #[A.v, .slice sr l.length cs] w (SrtYes A l w) := by
  unfold SrtYes
  have hok : A.ok = true := by
    cases hok : A.ok with
    | true => rfl
    | false => unfold srtE at h; rw [hok] at h; simp at h
  have h0 : rdaE (rowL A) l = 0 := by unfold srtE at h; rw [hok, if_pos rfl] at h; exact h
  have hle := rdaE_len h0
  have hrd : alE (rowL A) l = 0 := by unfold rdaE at h0; rw [if_neg (by omega)] at h0; exact h0
  have kl := fun W h1 h2 h3 => rlist_any A sr ur s0 cs l W h1 h2 h3 hz
  rw [h] at kl
  have kr := fun W h1 h3 => rrow_any A sr ur s0 cs l W h1 h3 hrd hle
  unfold RowPost at kr
  obtain ⟨n, hn⟩ : ∃ n, n = l.length := ⟨_, rfl⟩
  rw [← hn] at kl kr ⊢
  obtain ⟨pf, pl, nf, cf, nl, cl, hv, hnf, hnl, hpl, hcl, hpf, hcf⟩ := A.parts
  rw [hv] at kl kr ⊢
  have hs := Wx.start (F := .slice pf nf cf) (L := .slice pl nl cl) hA hT
  have HS := Lib.hid hs; have HL := Lib.hid (hS.next ((Below.refl _ _).alloc (Nat.le_refl _) (.cells #[.slice pf nf cf, .slice pl nl cl] 25))); have KL := Lib.hid kl; have KR := Lib.hid kr
  clear hs kl kr hn h hA hT hS hz hv hnf hnl hpl hcl hpf hcf h0 hrd hle hok
  go_enter Tryz.func11, Tryz.ntmps11
  go_wp2_with fail
  refine (KL.out _ (HS.out).i (HS.out).t HL.out).mono ?_
  rintro _ w1 ⟨rfl, hb⟩
  have hs := (HS.out).next hb
  have hl := (HL.out).next hb
  obtain ⟨c0, c1, hlt⟩ : w1.cell? ⟨w.heap.size, 0, none⟩ = some (.slice pf nf cf) ∧ w1.cell? ⟨w.heap.size, 1, none⟩ = some (.slice pl nl cl) ∧ w.heap.size < w1.heap.size := ⟨hs.c0, hs.c1, hs.lt⟩
  clear HS HL
  have HS := Lib.hid hs; have HL := Lib.hid hl
  clear hs hl hb
  go_wp2_with fail
  refine (KR.out _ (HS.out).i HL.out).mono ?_
  rintro _ w2 ⟨v, T, rfl, hsr, ho, hb⟩
  have HF := Lib.hid hsr
  have HO := Lib.hid (own_base ho HS.out.below.size)
  have HB := Lib.hid ((HS.out).next hb).below
  obtain ⟨n2, hn2⟩ : ∃ n, n = T.length := ⟨_, rfl⟩
  rw [← hn2] at ho
  obtain ⟨o, c, rfl⟩ := own_shape ho
  clear HS HL hb ho c0 c1 hlt hsr
  go_wp2_with fail
  go_ret2
  exact ⟨_, T, rfl, HF.out, by have := HO.out; rw [← hn2] at this ⊢; exact this, HB.out⟩

set_option maxHeartbeats 2000000 in
set_option maxRecDepth 100000 in
theorem samew_any (pr qr : Option Addr) (br r0 cr ur s0 cs : Nat) (l : List ByteArray) (w : World) (hR : SsIn pr br r0 l w) (hS : SsIn qr ur s0 l w) :
    Calls Tryz.prog 14 #[.slice pr l.length cr, .slice qr l.length cs] w fun e w' => e = .returned (.bool true) ∧ QB w w' := by
  have hb := hR.big
  obtain ⟨n, hn⟩ : ∃ n, n = l.length := ⟨_, rfl⟩
  rw [← hn] at hb ⊢
  have HR := Lib.hid hR; have HS := Lib.hid hS; have HN := Lib.hid hn
  clear hR hS hn
  go_enter Tryz.func14, Tryz.ntmps14
  go_wp2_with fail
  go_loopw [5] (fun iv wr => ∃ k : Nat, iv = .int .i64 k ∧ k ≤ n ∧ Hid (QB w wr)) (fun iv _ => n - (intOf iv).toNat)
  case atStart => exact ⟨0, rfl, Nat.zero_le _, QB.refl _⟩
  case round =>
    obtain ⟨k, rfl, hk, HB⟩ := hrel
    by_cases hkn : k < n
    · have hkl : k < l.length := by have := HN.out; omega
      have hz1 : (k : Int) < (n : Int) := by omega
      obtain rfl := HR.out.at_ (by omega)
      obtain rfl := HS.out.at_ (by omega)
      have a0 := (HR.out.next HB.out.below).cells k hkl
      have b0 := (HS.out.next HB.out.below).cells k hkl
      obtain ⟨q, hq⟩ : ∃ q, q = l.getD k ByteArray.empty := ⟨_, rfl⟩
      rw [← hq] at a0 b0
      clear hq hkl
      go_wp2_with fail
      go_quiet (fail)
      have HB2 := Lib.hid (HB.out.drew nq)
      go_wp2_with fail
      go_roundw
      case rel => exact ⟨k + 1, by go_num, by omega, HB2⟩
      case measure => simp [intOf]; omega
    · go_wp2_with fail
      go_ret
      exact ⟨rfl, HB.out⟩
end Go.Proofs.YtcibjgkifafohaaGreatDoor
namespace Go.Proofs.YtcibjgkifafohaaGreatDoor
open Go.RowKit Go.Lib
set_option linter.unusedVariables false

theorem strOf_app (a b : List UInt8) : strOf a ++ strOf b = strOf (a ++ b) := by
  apply ByteArray.ext
  simp [strOf, ByteArray.data_append]
theorem textL_app (a b : List Int) : textL (a ++ b) = textL a ++ textL b := by simp [textL]
theorem alL_up (l : List ByteArray) (k : Nat) : (alL (l.take k)).length ≤ (alL l).length := by
  have h := alL_take l k
  rw [h, List.length_append]
  omega

set_option maxHeartbeats 4000000 in
set_option maxRecDepth 100000 in
theorem rjoin_any (A : Al) (sr : Option Addr) (ur s0 cs : Nat) (l : List ByteArray) (w : World) (hA : A.In w) (hT : Tabs w) (hS : SsIn sr ur s0 l w) (hz : SizesIn l) :
    Calls Tryz.prog 13 #[A.v, .slice sr l.length cs] w (JoinPost A l w) := by
  unfold JoinPost
  have kl := fun W h1 h2 h3 => rlist_any A sr ur s0 cs l W h1 h2 h3 hz
  by_cases h : srtE A l = 0
  · have hok : A.ok = true := by
      cases hok : A.ok with
      | true => rfl
      | false => unfold srtE at h; rw [hok] at h; simp at h
    have h0 : rdaE (rowL A) l = 0 := by unfold srtE at h; rw [hok, if_pos rfl] at h; exact h
    have hle := rdaE_len h0
    have hrd : alE (rowL A) l = 0 := by unfold rdaE at h0; rw [if_neg (by omega)] at h0; exact h0
    have hrd2 := alE_zero.1 hrd
    have he : joinE A l = if 256 < (alL l).length then 9 else 0 := by unfold joinE; rw [hok, if_pos rfl, if_pos h0]
    have ht : joinR A l = if 256 < (alL l).length then ByteArray.empty else strOf (textL (alL l)) := by
      unfold joinR; rw [he]
      by_cases h : 256 < (alL l).length
      · rw [if_pos h, if_pos h]; rfl
      · rw [if_neg h, if_neg h]; rfl
    rw [he, ht]
    rw [h] at kl
    have hup := alL_up l
    obtain ⟨E, hE⟩ : ∃ E : Int, E = if 256 < (alL l).length then 9 else 0 := ⟨_, rfl⟩
    obtain ⟨R, hR⟩ : ∃ R, R = if 256 < (alL l).length then ByteArray.empty else strOf (textL (alL l)) := ⟨_, rfl⟩
    rw [← hE, ← hR]
    have hsn := fun k => alL_snoc (l := l) (k := k)
    have kc := fun (s : ByteArray) (W : World) h => Tryz.utf8_RuneCountInString s W h
    obtain ⟨n, hn⟩ : ∃ n, n = l.length := ⟨_, rfl⟩
    rw [← hn] at kl hle ⊢
    obtain ⟨pf, pl, nf, cf, nl, cl, hv, hnf, hnl, hpl, hcl, hpf, hcf⟩ := A.parts
    rw [hv] at kl ⊢
    have hs := Wx.start (F := .slice pf nf cf) (L := .slice pl nl cl) hA hT
    have HS := Lib.hid hs; have HL := Lib.hid (hS.next ((Below.refl _ _).alloc (Nat.le_refl _) (.cells #[.slice pf nf cf, .slice pl nl cl] 25))); have KL := Lib.hid kl
    have HE := Lib.hid hE; have HR := Lib.hid hR; have HUP := Lib.hid hup; have HSN := Lib.hid hsn; have HN := Lib.hid hn; have HRD := Lib.hid hrd2; have KC := Lib.hid kc
    clear hs kl hn h hA hT hS hz hv hnf hnl hpl hcl hpf hcf h0 hrd hrd2 hok he ht hE hR hup hsn kc
    go_enter Tryz.func13, Tryz.ntmps13
    go_wp2_with fail
    refine (KL.out _ (HS.out).i (HS.out).t HL.out).mono ?_
    rintro _ w1 ⟨rfl, hb⟩
    have HB1 := Lib.hid ((HS.out).next hb).below
    have HL1 := Lib.hid ((HL.out).next hb)
    clear HS HL hb
    go_wp2_with fail
    go_loopw [7, 8, 9] (fun sv nv iv wr => ∃ (k N : Nat) (T : ByteArray), iv = .int .i64 k ∧ k ≤ n ∧ nv = .int .i64 N ∧ sv = .string T ∧ N ≤ 256 ∧ Hid (N = (alL (l.take k)).length) ∧ Hid (T = strOf (textL (alL (l.take k)))) ∧ Hid (Below w1.heap.size w1 wr)) (fun _ _ iv _ => n - (intOf iv).toNat)
    case atStart => exact ⟨0, 0, ByteArray.empty, rfl, Nat.zero_le _, rfl, rfl, by decide, by show 0 = _; simp [alL], by show ByteArray.empty = _; simp [alL, textL]; rfl, Below.refl _ _⟩
    case round =>
      obtain ⟨k, N, T, rfl, hk, rfl, rfl, hN, HNk, HTk, HB⟩ := hrel
      have HBF := Lib.hid (HB1.out.trans (HB.out.mono HB1.out.size))
      by_cases hkn : k < n
      · have hkl : k < l.length := by have := HN.out; omega
        have hLr := HL1.out.next HB.out
        obtain rfl := hLr.at_ (by omega)
        have a0 := hLr.cells k hkl
        have hql : rdW (rowL A) (l.getD k ByteArray.empty) = 0 := HRD.out _ (by rw [getS_at hkl]; exact List.getElem_mem hkl)
        have hsn := HSN.out k hkl
        obtain ⟨q, hq⟩ : ∃ q, q = l.getD k ByteArray.empty := ⟨_, rfl⟩
        rw [← hq] at a0 hql hsn
        obtain ⟨hw, htx⟩ := rd_word hql
        have hqs := rd_same hql
        rw [hqs] at hw htx hsn
        have hq260 : q.size ≤ 260 := by have := cutW_size q; rw [hqs] at this; exact this
        have hm64 := hw.len
        have krc : ∀ W, Calls Tryz.prog 33 #[.string q] W fun e w' => e = .returned (.int .i64 ((runesL q).length : Nat)) ∧ Below W.heap.size W w' := fun W => by
          refine (KC.out q W (by omega)).mono ?_
          rintro e w' ⟨rfl, pos, rfl⟩
          refine ⟨?_, (Below.refl _ _).alloc (Nat.le_refl _) _⟩
          rw [runeCount_starts, ← runesL_length]
        have hnew : N + (runesL q).length = (alL (l.take (k + 1))).length := by rw [hsn, List.length_append, ← HNk.out]
        have htnew : T ++ q = strOf (textL (alL (l.take (k + 1)))) := by
          rw [hsn, textL_app, ← strOf_app, ← HTk.out, htx]
        have hT1 : T.size ≤ 1024 := by
          have h1 := textL_length (alL (l.take k))
          rw [← HNk.out] at h1
          rw [HTk.out, strOf_size]
          omega
        have hup := HUP.out (k + 1)
        rw [← hnew] at hup
        obtain ⟨m, hm⟩ : ∃ m, m = (runesL q).length := ⟨_, rfl⟩
        rw [← hm] at krc hnew hm64 hup
        have KRC := Lib.hid krc; have HNEW := Lib.hid hnew; have HTN := Lib.hid htnew; have HUPK := Lib.hid hup; have HLr := Lib.hid hLr
        have hT2 : T.size + q.size ≤ 2048 := by omega
        have HT2 := Lib.hid hT2
        clear krc hnew htnew hup hm hw htx hqs hql hsn hq hkl hLr hq260 hT1 hT2
        go_wp2_with fail
        refine (KRC.out _).mono ?_
        rintro _ w2 ⟨rfl, hb2⟩
        have HB2 := Lib.hid (HB.out.trans (hb2.mono HB.out.size))
        have a1 : w2.cell? ⟨ur, s0 + k, none⟩ = some (.string q) := (hb2.cell (p := ⟨ur, s0 + k, none⟩) (lt_of_cell a0)).trans a0
        clear hb2 a0 HLr
        by_cases h256 : 256 < N + m
        · have hE9 : E = 9 := by rw [HE.out, if_pos (by have := HUPK.out; omega)]
          have hR9 : R = ByteArray.empty := by rw [HR.out, if_pos (by have := HUPK.out; omega)]
          have HE9 := Lib.hid hE9; have HR9 := Lib.hid hR9
          have HBG := Lib.hid (HB1.out.trans (HB2.out.mono HB1.out.size))
          clear hE9 hR9 HE HR
          go_wp2_with fail
          go_ret2
          exact ⟨by rw [HE9.out, HR9.out] <;> rfl, HBG.out⟩
        · have hcat := run_string_add_sum (P := Tryz.prog) w2 T q (by have := HT2.out; omega)
          go_wp2_with fail
          go_roundw
          case rel => exact ⟨k + 1, N + m, T ++ q, by go_num, by omega, by go_num, rfl, by omega, HNEW, HTN, HB2⟩
          case measure => simp [intOf]; omega
      · have hall : l.take k = l := List.take_of_length_le (by have := HN.out; omega)
        have hE0 : E = 0 := by rw [HE.out, if_neg (by have := HNk.out; rw [hall] at this; omega)]
        have hR0 : R = T := by rw [HR.out, if_neg (by have := HNk.out; rw [hall] at this; omega), HTk.out, hall]
        have HE0 := Lib.hid hE0; have HR0 := Lib.hid hR0
        clear hall hE0 hR0 HE HR
        go_wp2_with fail
        go_ret2
        exact ⟨by rw [HE0.out, HR0.out] <;> rfl, HBF.out⟩
  · have he : joinE A l = srtE A l := by
      unfold joinE srtE at *
      cases hok : A.ok with
      | true => rw [hok] at h; simp only [if_true] at h ⊢; rw [if_neg h]
      | false => rfl
    have ht : joinR A l = ByteArray.empty := by unfold joinR; rw [he, if_neg h]
    rw [he, ht]
    obtain ⟨E, hE⟩ : ∃ E, E = srtE A l := ⟨_, rfl⟩
    rw [← hE] at kl h ⊢
    obtain ⟨n, hn⟩ : ∃ n, n = l.length := ⟨_, rfl⟩
    rw [← hn] at kl ⊢
    obtain ⟨pf, pl, nf, cf, nl, cl, hv, hnf, hnl, hpl, hcl, hpf, hcf⟩ := A.parts
    rw [hv] at kl ⊢
    have e1 : (E == 0) = false := by simp [h]
    have e2 : (E != 0) = true := by simp [h]
    have hs := Wx.start (F := .slice pf nf cf) (L := .slice pl nl cl) hA hT
    have HS := Lib.hid hs; have HL := Lib.hid (hS.next ((Below.refl _ _).alloc (Nat.le_refl _) (.cells #[.slice pf nf cf, .slice pl nl cl] 25))); have KL := Lib.hid kl
    clear hs kl hn hE h hA hT hS hz hv hnf hnl hpl hcl hpf hcf he ht
    go_enter Tryz.func13, Tryz.ntmps13
    go_wp2_with fail
    refine (KL.out _ (HS.out).i (HS.out).t HL.out).mono ?_
    rintro _ w1 ⟨rfl, hb⟩
    have HB := Lib.hid ((HS.out).next hb).below
    clear HS HL hb
    go_wp2_with fail
    go_ret2
    exact ⟨rfl, HB.out⟩
end Go.Proofs.YtcibjgkifafohaaGreatDoor
namespace Go.Proofs.YtcibjgkifafohaaGreatDoor
open Go.RowKit Go.Lib
set_option linter.unusedVariables false

def markS : ByteArray := ⟨#[109, 97, 114, 107]⟩
def LentPost (l : List ByteArray) (w : World) (e : Ending) (w' : World) : Prop :=
  ∃ g cap, e = .returned (.slice (some ⟨g, 0, none⟩) l.length cap) ∧ l.length + 1 ≤ cap ∧ cap ≤ 9223372036854775807 ∧ SsIn (some ⟨g, 0, none⟩) g 0 l w' ∧ w'.cell? ⟨g, l.length, none⟩ = some (.string markS) ∧ Below w.heap.size w w'
set_option maxHeartbeats 4000000 in
set_option maxRecDepth 100000 in
theorem lent_any (pr : Option Addr) (br r0 cr : Nat) (l : List ByteArray) (w : World) (hS : SsIn pr br r0 l w) (hnil : pr = none → l.length = 0 ∧ cr = 0) (hroom : l.length ≤ cr) (hbig : (l.length + 1) * 16 ≤ 140737488355328) :
    Calls Tryz.prog 5 #[.slice pr l.length cr] w (LentPost l w) := by
  unfold LentPost
  have hmk : markS = ⟨#[109, 97, 114, 107]⟩ := rfl
  have hsrc : ∀ ad, pr = some ad → ∀ j, j < l.length → w.cell? (ad.add j) = some (.string (l.getD j ByteArray.empty)) := fun ad had j hj => by
    have h1 := hS.at_ (by omega)
    rw [had] at h1
    cases h1
    rw [Addr.add_lit]
    exact hS.cells j hj
  obtain ⟨n, hn⟩ : ∃ n, n = l.length := ⟨_, rfl⟩
  rw [← hn] at hnil hroom hbig hsrc ⊢
  have HSRC := Lib.hid hsrc; have HN := Lib.hid hn; have HNIL := Lib.hid hnil; have HMK := Lib.hid hmk
  have hbig2 : n ≤ 9223372036854775807 := by omega
  clear hS hn hsrc hnil hmk
  go_enter Tryz.func5, Tryz.ntmps5
  go_wp2_with (at_builtin; refine app_ss rfl (.tmp 4) (.tmp 5) rfl w.heap.size (.slice none 0 0) 0 [] rfl (World.ownsRow_nil _ _ _ _) pr n cr l rfl HN.out HNIL.out HSRC.out ?ya ?za ?_)
  case ya => omega
  case za => exact Nat.le_refl _
  intro v1 w1 hown1 hgrow1 hat1
  have ho1 : w1.ownsRow w.heap.size 9 1 v1 n (l.map Value.string) := by simpa using hown1
  have hB1 : Below w.heap.size w w1 := grown_none hgrow1
  have HO1 := Lib.hid ho1; have HB1 := Lib.hid hB1
  have hz1 := hB1.size
  clear hown1 ho1 hgrow1 hat1 hB1
  go_wp2_with (at_builtin; refine app_ss rfl (.tmp 7) (.tmp 8) rfl w.heap.size v1 n (l.map Value.string) rfl (HO1.out.alloc _) (some ⟨w1.heap.size, 0, none⟩) 1 1 [⟨#[109, 97, 114, 107]⟩] rfl rfl ?nb ?sb ?yb ?zb ?_)
  case nb => exact fun h => absurd h (by simp)
  case sb =>
    intro ad had j hj
    cases had
    obtain rfl : j = 0 := by omega
    simp [Addr.add]
  case yb => omega
  case zb => simp; omega
  intro v2 w2 hown2 hgrow2 hat2
  have ho2 : w2.ownsRow w.heap.size 9 1 v2 (n + 1) (l.map Value.string ++ [.string ⟨#[109, 97, 114, 107]⟩]) := by simpa using hown2
  have hB2 : Below w.heap.size w w2 := (HB1.out.alloc hz1 _).grown hgrow2 (by simp; omega) (fun q hq => (HO1.out.lt q hq).1)
  rcases ho2.2 with ⟨_, h1⟩ | ⟨g, cap, cur, rfl, h1, h2, h3, h4, h5, h6⟩
  · omega
  have hcap : cap ≤ 9223372036854775807 := by unfold maxLen at h4; omega
  have hcells : SsIn (some ⟨g, 0, none⟩) g 0 l w2 := ⟨fun _ => rfl, fun j hj => by
    have hj' : j < n := by have := HN.out; omega
    rw [Nat.zero_add, ho2.cellAt j (by omega), List.getElem?_append_left (by rw [List.length_map]; exact hj), List.getElem?_map, getS_at hj, List.getElem?_eq_getElem hj]
    rfl, by have := HN.out; omega⟩
  have hmark : w2.cell? ⟨g, n, none⟩ = some (.string ⟨#[109, 97, 114, 107]⟩) := by
    rw [ho2.cellAt n (by omega), HN.out, List.getElem?_append_right (by rw [List.length_map]; exact Nat.le_refl _), List.length_map, Nat.sub_self]
    rfl
  have HC := Lib.hid hcells; have HM := Lib.hid hmark; have HB2 := Lib.hid hB2
  clear hown2 hgrow2 hat2 ho2 hB2 hcells hmark h1 h2 h4 h5 h6
  go_wp2_with fail
  go_ret
  exact ⟨g, cap, rfl, h3, hcap, HC.out, by rw [HMK.out]; exact HM.out, HB2.out⟩

set_option maxHeartbeats 4000000 in
set_option maxRecDepth 100000 in
theorem spoil_any (B : Nat) (v : Value) (n : Nat) (xs : List Value) (w : World) (ho : w.ownsRow B 9 1 v n xs) (hn : n ≤ 4096) (hB : B ≤ w.heap.size) :
    Calls Tryz.prog 15 #[v] w fun e w' => e = .returned (.tuple #[]) ∧ w.grownBy w' v.ownBlock := by
  obtain ⟨ov, cv, rfl⟩ := own_shape ho
  obtain ⟨ob, hob⟩ : ∃ ob, ob = (Value.slice ov n cv).ownBlock := ⟨_, rfl⟩
  have HO := Lib.hid ho; have HOB := Lib.hid hob
  have hg0 : w.grownBy w ob := ⟨rfl, rfl, rfl, Nat.le_refl _, fun _ _ _ => rfl⟩
  have HG0 := Lib.hid hg0
  rw [← hob]
  clear ho hob hg0
  go_enter Tryz.func15, Tryz.ntmps15
  go_wp2_with fail
  go_loopw [2] (fun iv wr => ∃ (k : Nat) (ys : List Value), iv = .int .i64 k ∧ k ≤ n ∧ Hid (wr.ownsRow B 9 1 (.slice ov n cv) n ys) ∧ Hid (w.grownBy wr ob)) (fun iv _ => n - (intOf iv).toNat)
  case atStart => exact ⟨0, xs, rfl, Nat.zero_le _, HO, HG0⟩
  case round =>
    obtain ⟨k, ys, rfl, hk, HOw, HG⟩ := hrel
    by_cases hkn : k < n
    · rcases HOw.out.2 with ⟨_, h1⟩ | ⟨g, cap, cur, he, h1, h2, h3, h4, h5, h6⟩
      · omega
      simp only [Value.slice.injEq] at he
      obtain ⟨rfl, _, rfl⟩ := he
      have hlen := HOw.out.1
      have hy := HOw.out.cellAt k (by omega)
      rw [List.getElem?_eq_getElem (by rw [hlen]; omega)] at hy
      obtain ⟨y, hy2⟩ : ∃ y, wr.cell? ⟨g, k, none⟩ = some y := ⟨_, hy⟩
      clear hy hlen
      have hfz := HOw.out.frozenAt k
      obtain ⟨hs1, hs2⟩ := HOw.out.stored k (.string ⟨#[115, 112, 111, 105, 108, 116]⟩)
      have HO2 := Lib.hid hs1
      have hobg : ob = some g := by rw [HOB.out]; rfl
      have HG2 := Lib.hid (show w.grownBy (wr.setCell ⟨g, k, none⟩ (.string ⟨#[115, 112, 111, 105, 108, 116]⟩)) ob from grown_step HG.out hs2 (fun q hq => Or.inl (by rw [hobg]; exact hq)))
      have hcap : cv ≤ 9223372036854775807 := by unfold maxLen at h4; omega
      clear hs1 hs2 hobg h1 h2 h4 h5 h6
      go_wp2_with fail
      go_roundw
      case rel => exact ⟨k + 1, _, by go_num, by omega, HO2, HG2⟩
      case measure => simp [intOf]; omega
    · have hzz := HG.out.size
      have HOB2 := Lib.hid (show ∀ q, (Value.slice ov n cv).ownBlock = some q → ob = some q ∨ w.heap.size ≤ q from fun q hq => Or.inl (by rw [HOB.out]; exact hq))
      obtain ⟨W1, rfl⟩ : ∃ W1, W1 = wr := ⟨_, rfl⟩
      go_wp2_with fail
      go_loopw [0, 3] (fun lv iv wr => ∃ (k : Nat) (ys : List Value), iv = .int .i64 k ∧ k ≤ 4 ∧ Hid (wr.ownsRow B 9 1 lv (n + k) ys) ∧ Hid (w.grownBy wr ob) ∧ Hid (∀ q, lv.ownBlock = some q → ob = some q ∨ w.heap.size ≤ q)) (fun _ iv _ => 4 - (intOf iv).toNat)
      case atStart => exact ⟨0, ys, rfl, by decide, HOw, HG, HOB2⟩
      case round =>
        obtain ⟨j, zs, rfl, hj, HOj, HGj, HBj⟩ := hrel
        have hzj := HGj.out.size
        obtain ⟨oj, cj, rfl⟩ := own_shape HOj.out
        by_cases hj4 : j < 4
        · obtain ⟨i0, hi, hz0, hz1, hz2⟩ := info_parts str_info
          have HI0 := Lib.hid hi; have HZ0 := Lib.hid hz0; have HZ1 := Lib.hid hz1; have HZ2 := Lib.hid hz2
          clear hi hz0 hz1 hz2
          go_wp2_with (at_builtin; refine wpList_append_own_at _ rfl (.tmp 17) (.tmp 18) 22 rfl B 9 i0 (.string ByteArray.empty) 1 16 Tryz.underlying22 HI0.out HZ0.out HZ1.out HZ2.out rfl (by decide) _ _ _ rfl (HOj.out.alloc _) ⟨wr.heap.size, 0, none⟩ 1 1 [.string ⟨#[109, 111, 114, 101]⟩] rfl rfl ?c1 ?c2 ?c3 ?c4 ?c5 ?_)
          any_goals (first | (unfold maxLen; omega) | omega | (simp; omega) | (intro u hu; simp at hu; subst hu; rfl) | (intro j u hj; match j, hj with | 0, hj => (simp at hj; subst hj; simp [Addr.add]) | j + 1, hj => simp at hj))
          intro v3 w4 hown3 hgrow3 hnil3 hat3
          have hG3 : w.grownBy w4 ob := grown_step (HGj.out.trans (World.grownBy_alloc wr _ ob)) hgrow3 HBj.out
          have hC3 : ∀ q, v3.ownBlock = some q → ob = some q ∨ w.heap.size ≤ q := fun q hq => by
            rcases hat3 with h | h
            · exact HBj.out q (h.symm.trans hq)
            · rw [h] at hq
              simp at hq
              exact Or.inr (by omega)
          have HG3 := Lib.hid hG3; have HC3 := Lib.hid hC3; have HO3 := Lib.hid hown3
          clear hG3 hC3 hown3 hgrow3 hnil3 hat3
          go_wp2_with fail
          go_roundw
          case rel => exact ⟨j + 1, _, by go_num, by omega, HO3, HG3, HC3⟩
          case measure => simp [intOf]; omega
        · obtain rfl : j = 4 := by omega
          rcases HOj.out.2 with ⟨_, h1⟩ | ⟨g, cap, cur, he, h1, h2, h3, h4, h5, h6⟩
          · omega
          simp only [Value.slice.injEq] at he
          obtain ⟨rfl, _, rfl⟩ := he
          have hlen := HOj.out.1
          have hy := HOj.out.cellAt 0 (by omega)
          rw [List.getElem?_eq_getElem (by rw [hlen]; omega)] at hy
          obtain ⟨y, hy2⟩ : ∃ y, wr.cell? ⟨g, 0, none⟩ = some y := ⟨_, hy⟩
          clear hy hlen
          have hfz := HOj.out.frozenAt 0
          obtain ⟨hs1, hs2⟩ := HOj.out.stored 0 (.string ⟨#[102, 105, 114, 115, 116]⟩)
          have HG2 := Lib.hid (show w.grownBy (wr.setCell ⟨g, 0, none⟩ (.string ⟨#[102, 105, 114, 115, 116]⟩)) ob from grown_step HGj.out hs2 (fun q hq => HBj.out q hq))
          have hcap : cj ≤ 9223372036854775807 := by unfold maxLen at h4; omega
          have hpos : 0 < n + 4 := by omega
          clear hs1 hs2 h1 h2 h4 h5 h6
          go_wp2_with fail
          go_end0
          exact ⟨rfl, HG2.out⟩
end Go.Proofs.YtcibjgkifafohaaGreatDoor
