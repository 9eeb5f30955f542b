/-
  WALKS: cognatelaw01.RunesQuotes.
-/
import Derived.Test.YtmbekgfbnapelaaDoorRefPlain
import Derived.Test.YtmbekgfbnapelaaDoorRefText
import Derived.Test.YtmbekgfbnapelaaDoorTextT
import Derived.Laws.AppendOwnNone
import Derived.Maps.AppendAt
import Derived.Deep.QuietTactic
import Derived.BigQuiet
namespace Go.Proofs.YtmbekgfbnapelaaDoor
open Go.RowKit Go.Lib
set_option linter.unusedVariables false

theorem i32_info : (Tryd.prog.info? 21).map (fun i => (i.zero, i.size, i.bytes)) = some (some (.int .i32 0), 1, 4) := by kernel_rfl
/-- append onto a row of runes of the call's own. -/
theorem app_rs {w : World} {ops : Array Oper} {rest : List Oper} {o : Oper} {a : Act} {Q : Exit → Act → World → Prop} (hgd : o.guard = none) (s x : Operand)
    (ho : o.op = .call { callee := .builtin .append, args := #[s, x], argTypes := #[22, 22] }) (base : Nat) (v : Value) (n : Nat) (xs : List Value) (hs : a.eval s = v) (hown : w.ownsRow base 21 1 v n xs)
    (px : Option Addr) (m c : Nat) (l : List Int) (hx : a.eval x = .slice px m c) (hm : m = l.length) (h0 : px = none → m = 0 ∧ c = 0) (hS : ∀ ad, px = some ad → ∀ j, j < m → w.cell? (ad.add j) = some (.int .i32 (l.getD j 0)))
    (hbytes : (n + m) * 4 ≤ 140737488355328) (hbase : base ≤ w.heap.size)
    (h : ∀ v' w', w'.ownsRow base 21 1 v' (n + m) (xs ++ l.map (Value.int .i32)) → w.grownBy w' v.ownBlock → (v'.ownBlock = v.ownBlock ∨ v'.ownBlock = some w.heap.size) → wpList Tryd.prog ops Q rest (a.put o.dst v') w') :
    wpList Tryd.prog ops Q (o :: rest) a w := by
  obtain ⟨i0, hi, hz0, hz1, hz2⟩ := info_parts i32_info
  cases px with
  | none =>
    obtain ⟨rfl, rfl⟩ := h0 rfl
    obtain rfl : l = [] := List.eq_nil_of_length_eq_zero hm.symm
    refine wpList_append_own_none hgd s x 22 ho base 21 i0 1 Tryd.underlying22 hi v n xs hs hown hx ?_
    exact h v w (by simpa using hown) ⟨rfl, rfl, rfl, Nat.le_refl _, fun _ _ _ => rfl⟩ (Or.inl rfl)
  | some ad =>
    refine wpList_append_own_at w hgd s x 22 ho base 21 i0 (.int .i32 0) 1 4 Tryd.underlying22 hi hz0 hz1 hz2 rfl (by decide) v n xs hs hown ad m c (l.map (Value.int .i32)) hx (by simp [hm]) (fun j u hj => ?_) (fun u hu => ?_) (by unfold maxLen; omega) hbytes hbase ?_
    · have hj' : j < l.length := by simpa using (List.getElem?_eq_some_iff.1 hj).1
      rw [hS ad rfl j (by omega), getD_at hj']
      rw [List.getElem?_map, List.getElem?_eq_getElem hj'] at hj
      exact hj
    · obtain ⟨t, _, rfl⟩ := List.mem_map.1 hu
      rfl
    · intro v' w' h1 h2 _ h4
      exact h v' w' h1 h2 h4

/-- What a []rune that came in is, with what an append of it wants. -/
structure RsX (pr : Option Addr) (br r0 cr : Nat) (l : List Int) (w : World) : Prop where
  rs : RsIn pr br r0 l w
  nil : pr = none → l.length = 0 ∧ cr = 0

theorem quo_both (s : ByteArray) : ∃ (a : ByteArray) (E : Int), (∀ W, Tabs2 W → Calls Tryd.prog 7 #[.string s] W fun e w' => e = .returned (.tuple #[.string a, .int .i64 E]) ∧ Below W.heap.size W w') ∧
    (∀ W, Calls Tryd.prog 8 #[.string s] W fun e w' => e = .returned (.tuple #[.string a, .int .i64 E]) ∧ Below W.heap.size W w') := by
  by_cases h : s.size ≤ 65536
  · exact ⟨_, _, fun W hT => quote_any s W h hT, fun W => rQuote_any s W h⟩
  · exact ⟨_, _, fun W hT => (quote_long s W h).mono fun e w' hh => ⟨hh.1, hh.2 ▸ Below.refl _ _⟩, fun W => (rQuote_long s W h).mono fun e w' hh => ⟨hh.1, hh.2 ▸ Below.refl _ _⟩⟩
theorem plainT_is (s : ByteArray) : ∃ (a : ByteArray) (p E : Int), plainT s = .tuple #[.string a, .int .i64 p, .int .i64 E] := by
  unfold plainT
  split
  · exact ⟨_, _, _, rfl⟩
  · split
    · exact ⟨_, _, _, rfl⟩
    · split
      · exact ⟨_, _, _, rfl⟩
      · exact ⟨_, _, _, rfl⟩
theorem plo_both (s : ByteArray) : ∃ (a : ByteArray) (p E : Int), (∀ W, Tabs2 W → Calls Tryd.prog 9 #[.string s] W fun e w' => e = .returned (.tuple #[.string a, .int .i64 p, .int .i64 E]) ∧ Below W.heap.size W w') ∧
    (∀ W, Calls Tryd.prog 10 #[.string s] W fun e w' => e = .returned (.tuple #[.string a, .int .i64 p, .int .i64 E]) ∧ Below W.heap.size W w') := by
  by_cases h : s.size ≤ 1048576
  · obtain ⟨a, p, E, e⟩ := plainT_is s
    exact ⟨a, p, E, fun W hT => by rw [← e]; exact plain_any s W h hT, fun W => by rw [← e]; exact rplain_any s W h⟩
  · exact ⟨_, _, _, fun W hT => plain_long s W h, fun W => rplain_long s W h⟩

def longB2 (s : ByteArray) : Bool := decide ((3000 < s.size ∧ s.size ≤ 65536) ∨ 66000 < s.size)
set_option maxRecDepth 100000 in
set_option maxHeartbeats 400000 in
theorem long2_is (s : ByteArray) (b : Bool) (w : World) (h : longB2 s = b) :
    Calls Tryd.prog 6 #[.string s] w fun e w' => e = .returned (.bool b) ∧ w = w' := by
  obtain ⟨n, hn⟩ : ∃ n : Int, n = (s.size : Int) := ⟨_, rfl⟩
  have ret_b2 : ∀ {a b : Bool}, a = b → Ending.returned (.bool a) = .returned (.bool b) := fun h => by rw [h]
  by_cases h1 : (3000 : Int) < (s.size : Int)
  · by_cases h2 : (s.size : Int) ≤ 65536
    · have e : longB2 s = true := decide_eq_true (by omega)
      have H := Lib.hid (h.symm.trans e)
      clear e hn h
      go_enter Tryd.func6, Tryd.ntmps6
      go_wp2
      go_ret
      exact ⟨ret_b2 H.out.symm, rfl⟩
    · by_cases h3 : (66000 : Int) < (s.size : Int)
      · have e : longB2 s = true := decide_eq_true (by omega)
        have H := Lib.hid (h.symm.trans e)
        clear e hn h
        go_enter Tryd.func6, Tryd.ntmps6
        go_wp2
        go_ret
        exact ⟨ret_b2 H.out.symm, rfl⟩
      · have e : longB2 s = false := decide_eq_false (by omega)
        have H := Lib.hid (h.symm.trans e)
        clear e hn h
        go_enter Tryd.func6, Tryd.ntmps6
        go_wp2
        go_ret
        exact ⟨ret_b2 H.out.symm, rfl⟩
  · have h3 : ¬ (66000 : Int) < (s.size : Int) := by omega
    have e : longB2 s = false := decide_eq_false (by omega)
    have H := Lib.hid (h.symm.trans e)
    clear e hn h
    go_enter Tryd.func6, Tryd.ntmps6
    go_wp2
    go_ret
    exact ⟨ret_b2 H.out.symm, rfl⟩

set_option maxHeartbeats 2000000 in
set_option maxRecDepth 100000 in
theorem quo_long (s q : ByteArray) (pr : Option Addr) (cr n : Nat) (w : World) (h : longB2 s = true ∨ (5000 < q.size ∧ q.size ≤ 1048576) ∨ 1100000 < q.size ∨ 3000 < n) :
    Calls Tryd.prog 3 #[.string s, .string q, .slice pr n cr] w fun e w' => e = .returned (.bool true) ∧ Below w.heap.size w w' := by
  by_cases h1 : longB2 s = true
  · have k := fun W => long2_is s true W h1
    have K := Lib.hid k
    clear h h1 k
    go_enter Tryd.func3, Tryd.ntmps3
    go_wp2_with fail
    refine (K.out _).mono ?_
    rintro e w1 ⟨rfl, rfl⟩
    go_wp2_with fail
    go_ret
    exact ⟨rfl, Below.refl _ _⟩
  have h1 : longB2 s = false := by cases hb : longB2 s with | true => exact absurd hb h1 | false => rfl
  have k := fun W => long2_is s false W h1
  have K := Lib.hid k
  clear k
  by_cases h2 : (5000 : Int) < (q.size : Int)
  · by_cases h3 : (q.size : Int) ≤ 1048576
    · clear h h1
      go_enter Tryd.func3, Tryd.ntmps3
      go_wp2_with fail
      refine (K.out _).mono ?_
      rintro e w1 ⟨rfl, rfl⟩
      go_wp2_with fail
      go_ret
      exact ⟨rfl, Below.refl _ _⟩
    · by_cases h4 : (1100000 : Int) < (q.size : Int)
      · clear h h1
        go_enter Tryd.func3, Tryd.ntmps3
        go_wp2_with fail
        refine (K.out _).mono ?_
        rintro e w1 ⟨rfl, rfl⟩
        go_wp2_with fail
        go_ret
        exact ⟨rfl, Below.refl _ _⟩
      · have h5 : (3000 : Int) < (n : Int) := by rcases h with h | h | h | h <;> first | omega | (rw [h1] at h; cases h)
        clear h h1
        go_enter Tryd.func3, Tryd.ntmps3
        go_wp2_with fail
        refine (K.out _).mono ?_
        rintro e w1 ⟨rfl, rfl⟩
        go_wp2_with fail
        go_ret
        exact ⟨rfl, Below.refl _ _⟩
  · have h4 : ¬ (1100000 : Int) < (q.size : Int) := by omega
    have h5 : (3000 : Int) < (n : Int) := by rcases h with h | h | h | h <;> first | omega | (rw [h1] at h; cases h)
    clear h h1
    go_enter Tryd.func3, Tryd.ntmps3
    go_wp2_with fail
    refine (K.out _).mono ?_
    rintro e w1 ⟨rfl, rfl⟩
    go_wp2_with fail
    go_ret
    exact ⟨rfl, Below.refl _ _⟩

theorem addr_at (g j : Nat) : (⟨g, 0, none⟩ : Addr).add j = ⟨g, j, none⟩ := by unfold Addr.add; split <;> simp_all
theorem own_cell {w : World} {B n : Nat} {v : Value} {l : List Int} (h : w.ownsRow B 21 1 v n (l.map (Value.int .i32))) (h0 : 0 < n) (hn : n = l.length) : ∃ g c, v = .slice (some ⟨g, 0, none⟩) n c ∧ B ≤ g ∧ n ≤ c ∧ ∀ j, j < n → w.cell? ⟨g, j, none⟩ = some (.int .i32 (l.getD j 0)) := by
  rcases h.2 with ⟨rfl, h1⟩ | ⟨g, cap, cur, rfl, hb, _, hc, _⟩
  · omega
  · refine ⟨g, cap, rfl, hb, hc, fun j hj => ?_⟩
    rw [h.cellAt j (by omega), List.getElem?_map, List.getD_eq_getElem?_getD, List.getElem?_eq_getElem (by omega)]
    rfl

set_option maxHeartbeats 16000000 in
set_option maxRecDepth 100000 in
theorem quo_short (s q : ByteArray) (pr : Option Addr) (br r0 cr : Nat) (l : List Int) (w : World) (hR : RsX pr br r0 cr l w) (hT : Tabs2 w) (h1 : longB2 s = false) (hq : q.size ≤ 5000 ∨ (1048576 < q.size ∧ q.size ≤ 1100000)) (hl : l.length ≤ 3000) :
    Calls Tryd.prog 3 #[.string s, .string q, .slice pr l.length cr] w fun e w' => e = .returned (.bool true) ∧ Below w.heap.size w w' := by
  have k0 := fun W => long2_is s false W h1
  obtain ⟨qa, qE, kq1, kq2⟩ := quo_both s
  obtain ⟨pa, pp, pE, kp1, kp2⟩ := plo_both q
  have kt := fun W (hb : Below w.heap.size w W) => r1text_any pr br r0 cr l W (hR.rs.next hb) (by omega)
  have kt1 := fun (a : Addr) (c : Nat) W h => text_any a l.length c l W rfl h
  obtain ⟨S, hS⟩ : ∃ S, S = strOf (textL l) := ⟨_, rfl⟩
  rw [← hS] at kt kt1
  have hcl := fun W (hb : Below w.heap.size w W) => (hR.rs.next hb).cells
  have hat := hR.rs.at_
  have hnil := hR.nil
  obtain ⟨n, hn⟩ : ∃ n, n = l.length := ⟨_, rfl⟩
  rw [← hn] at kt kt1 hl hcl hat hnil ⊢
  obtain ⟨i0, hi, hz0, hz1, hz2⟩ := info_parts i32_info
  have HI0 := Lib.hid hi; have HZ0 := Lib.hid hz0; have HZ1 := Lib.hid hz1; have HZ2 := Lib.hid hz2
  have K0 := Lib.hid k0; have Q1 := Lib.hid kq1; have Q2 := Lib.hid kq2; have P1 := Lib.hid kp1; have P2 := Lib.hid kp2; have KT := Lib.hid kt; have KT1 := Lib.hid kt1
  have HT := Lib.hid hT; have HCL := Lib.hid hcl; have HAT := Lib.hid hat; have HNIL := Lib.hid hnil; have HN := Lib.hid hn
  have z4 : ¬ (3000 : Int) < (n : Int) := by omega
  have z5 : (n : Int) ≤ 3000 := by omega
  have z3 : ¬ (1100000 : Int) < (q.size : Int) := by omega
  have hq' : ¬ (5000 : Int) < (q.size : Int) ∨ ((5000 : Int) < (q.size : Int) ∧ ¬ (q.size : Int) ≤ 1048576) := by omega
  clear hi hz0 hz1 hz2 k0 kq1 kq2 kp1 kp2 kt kt1 hT hcl hat hnil hn h1 hq hR hS
  rcases hq' with z1 | ⟨z1, z2⟩
  all_goals
    go_enter Tryd.func3, Tryd.ntmps3
    go_wp2_with fail
    refine (K0.out _).mono ?_
    rintro e w0 ⟨rfl, rfl⟩
    go_wp2_with fail
    refine (Q1.out _ HT.out).mono ?_
    rintro e w1 ⟨rfl, hb1⟩
    have HT1 := Lib.hid (HT.out.next hb1)
    have HB1 := Lib.hid hb1
    clear hb1
    go_wp2_with fail
    refine (Q2.out _).mono ?_
    rintro e w2 ⟨rfl, hb2⟩
    have HT2 := Lib.hid (HT1.out.next hb2)
    have HB2 := Lib.hid (HB1.out.trans (hb2.mono HB1.out.size))
    clear hb2
    go_wp2_with fail
    refine (P1.out _ HT2.out).mono ?_
    rintro e w3 ⟨rfl, hb3⟩
    have HB3 := Lib.hid (HB2.out.trans (hb3.mono HB2.out.size))
    clear hb3
    go_wp2_with fail
    refine (P2.out _).mono ?_
    rintro e w4 ⟨rfl, hb4⟩
    have HB4 := Lib.hid (HB3.out.trans (hb4.mono HB3.out.size))
    clear hb4
    have hz4 := HB4.out.size
    go_wp2_with (at_builtin; refine app_rs rfl (.tmp 64) (.tmp 65) rfl w.heap.size _ 0 [] rfl (World.ownsRow_nil _ _ _ _) pr n cr l rfl HN.out (HNIL.out · |> fun h => ⟨h.1, h.2⟩) ?_ ?_ ?_ ?_)
    any_goals (first | omega | skip)
    · intro ad had j hj
      have e0 := HAT.out (by omega)
      rw [had] at e0
      cases e0
      have := HCL.out _ HB4.out j hj
      rw [show (⟨br, r0, none⟩ : Addr).add j = ⟨br, r0 + j, none⟩ from by simp [Addr.add]]
      exact this
    intro v5 w5 hown5 hgrow5 hblk5
    have hB5 := HB4.out.grown hgrow5 hz4 (fun q hq => by cases hq)
    obtain ⟨o5, c5, rfl⟩ := own_shape hown5
    have HO5 := Lib.hid hown5; have HB5 := Lib.hid hB5
    have hz5 := hB5.size
    clear hown5 hgrow5 hB5 hblk5
    go_wp2_with (at_builtin; refine wpList_append_own _ rfl (.tmp 67) (.tmp 68) 22 rfl w.heap.size 21 i0 (.int .i32 0) 1 4 Tryd.underlying22 HI0.out HZ0.out HZ1.out HZ2.out rfl (by decide) (.slice o5 n c5) n (l.map (Value.int .i32)) rfl (HO5.out.alloc _) ⟨w5.heap.size, 0, none⟩ 1 1 [.int .i32 77] rfl rfl ?_ ?_ ?_ ?_ ?_ ?_)
    any_goals (first | omega | (unfold maxLen; omega) | (simp; omega) | exact cells_lit w5 [.int .i32 77] _ | (intro u hu; simp at hu; subst hu; rfl))
    intro v6 w6 hown6 hgrow6 hnil6
    have hB6 := (HB5.out.alloc hz5 (.cells #[.int .i32 77] 21)).grown hgrow6 (by simp; omega) (fun q hq => (HO5.out.lt q hq).1)
    have hown6' : w6.ownsRow w.heap.size 21 1 v6 (n + 1) ((l ++ [77]).map (Value.int .i32)) := by rw [List.map_append]; exact hown6
    obtain ⟨g6, c6, rfl, hg6, hc6, hce6⟩ := own_cell hown6' (by omega) (by rw [List.length_append, ← HN.out]; rfl)
    have hce : ∀ j, j < n → w6.cell? ⟨g6, j, none⟩ = some (.int .i32 (l.getD j 0)) := fun j hj => by
      have hjl : j < l.length := by have := HN.out; omega
      rw [hce6 j (by omega), List.getD_eq_getElem?_getD, List.getD_eq_getElem?_getD, List.getElem?_append_left hjl]
    have hcn : w6.cell? ⟨g6, n, none⟩ = some (.int .i32 77) := by
      rw [hce6 n (by omega), List.getD_eq_getElem?_getD, List.getElem?_append_right (by have := HN.out; omega), HN.out, Nat.sub_self]
      rfl
    have HCE := Lib.hid hce; have HCN := Lib.hid hcn; have HB6 := Lib.hid hB6
    have hg6l : g6 < w6.heap.size := lt_of_cell hcn
    clear hown6 hown6' hgrow6 hnil6 hB6 hce6 hce hcn
    go_wp2_with fail
    refine (KT1.out ⟨g6, 0, none⟩ _ _ (fun j v hj => by
      have hjl : j < l.length := by simpa using (List.getElem?_eq_some_iff.1 hj).1
      have h2 := HCE.out j (by have := HN.out; omega)
      rw [List.getElem?_map, List.getElem?_eq_getElem hjl] at hj
      rw [← hj, addr_at g6 j, h2, getD_at hjl]
      rfl)).mono ?_
    rintro e w7 ⟨rfl, rfl⟩
    go_wp2_with fail
    refine (KT.out _ HB6.out).mono ?_
    rintro e w8 ⟨rfl, hb8⟩
    have hce8 : ∀ j, j < n → ∀ W, Below w6.heap.size w6 W → W.cell? ⟨g6, j, none⟩ = some (.int .i32 (l.getD j 0)) := fun j hj W hb => by
      rw [hb.cell (p := ⟨g6, j, none⟩) hg6l]; exact HCE.out j hj
    have hcn8 : ∀ W, Below w6.heap.size w6 W → W.cell? ⟨g6, n, none⟩ = some (.int .i32 77) := fun W hb => by
      rw [hb.cell (p := ⟨g6, n, none⟩) hg6l]; exact HCN.out
    have HC8 := Lib.hid hce8; have HN8 := Lib.hid hcn8; have HB8 := Lib.hid hb8
    clear hb8 hce8 hcn8
    go_wp2_with fail
    go_loopw [18, 19] (fun sv iv wr => ∃ k : Nat, iv = .int .i64 k ∧ sv = .bool true ∧ k ≤ n ∧ Hid (Below w6.heap.size w6 wr)) (fun _ iv _ => n - (RowKit.intOf iv).toNat)
    case atStart => exact ⟨0, rfl, by simp, Nat.zero_le _, HB8⟩
    case round =>
      obtain ⟨k, rfl, rfl, hk, HBr⟩ := hrel
      by_cases hkn : k < n
      · obtain rfl := HAT.out (by omega)
        have a0 := HCL.out wr (HB6.out.trans (HBr.out.mono HB6.out.size)) k hkn
        have a1 := HC8.out k hkn wr HBr.out
        have a2 : k < n + 1 := by omega
        go_wp2_with fail
        go_quiet (fail)
        go_wp2_with fail
        go_roundw
        case rel => first | exact ⟨k + 1, by go_num, by simp, by omega, HBr.out.trans ⟨rfl, rfl, rfl, Nat.le_refl _, fun _ _ => rfl⟩⟩ | ((repeat apply Exists.intro); exact ⟨⟨k + 1, by go_num, by simp, by omega, HBr.out.trans ⟨rfl, rfl, rfl, Nat.le_refl _, fun _ _ => rfl⟩⟩, rfl⟩)
        case measure => simp [RowKit.intOf]; omega
      · have a1 := HN8.out wr HBr.out
        have hfin := HB6.out.trans (HBr.out.mono HB6.out.size)
        have HF := Lib.hid hfin
        clear hfin
        go_wp2_with fail
        go_ret
        exact ⟨by simp, HF.out⟩
theorem quo_walk (s q : ByteArray) (pr : Option Addr) (br r0 cr : Nat) (l : List Int) (w : World) (hR : RsX pr br r0 cr l w) (hT : Tabs2 w) :
    Calls Tryd.prog 3 #[.string s, .string q, .slice pr l.length cr] w fun e w' => e = .returned (.bool true) ∧ Below w.heap.size w w' := by
  by_cases h : longB2 s = true ∨ (5000 < q.size ∧ q.size ≤ 1048576) ∨ 1100000 < q.size ∨ 3000 < l.length
  · exact quo_long s q pr cr l.length w h
  · refine quo_short s q pr br r0 cr l w hR hT ?_ ?_ ?_
    · cases hb : longB2 s with
      | true => exact absurd (Or.inl hb) h
      | false => rfl
    · omega
    · omega
end Go.Proofs.YtmbekgfbnapelaaDoor
