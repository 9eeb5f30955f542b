/-
  WALKS: runes.putRead.
-/
import Derived.Test.YtmbekgfbnapelaaDoorRead
import Derived.StillTailTactics
namespace Go.Proofs.YtmbekgfbnapelaaDoor
open Go.RowKit Go.Lib
set_option linter.unusedVariables false

/-- What the first thing of a text shows, and how many bytes it has. -/
def thing (u : ByteArray) : List UInt8 × Nat :=
  if ¬ (u.get! 0).toNat = 92 then (if 32 ≤ (u.get! 0).toNat ∧ (u.get! 0).toNat ≤ 126 then ([u.get! 0], 1) else ([], 0))
  else if u.size = 1 then ([], 0)
  else if (u.get! 1).toNat = 34 ∨ (u.get! 1).toNat = 92 then ([u.get! 1], 2)
  else if (u.get! 1).toNat = 120 then (match readB (u.extract 2 u.size) with | some n => ([UInt8.ofNat n], 4) | none => ([], 0))
  else if (u.get! 1).toNat = 117 then (if 0 < (readR (u.extract 2 u.size)).2 then (encL (readR (u.extract 2 u.size)).1, 2 + (readR (u.extract 2 u.size)).2) else ([], 0))
  else ([], 0)
def PutPost (B n : Nat) (xs : List Value) (t : List UInt8 × Nat) (w : World) : Ending → World → Prop := App B n xs t.1 w (fun v => .returned (.tuple #[v, .int .i64 t.2]))
theorem app_same {B n : Nat} {xs : List Value} {w w' : World} {v : Value} {f : Value → Ending} (hB : B ≤ w.heap.size) (hown : w.ownsRow B 5 1 v n xs) (hm : Below w.heap.size w w') : App B n xs [] w f (f v) w' := by
  refine ⟨v, rfl, ?_, hm.mono hB, others_below hm⟩
  have : xs ++ byteCells [] = xs := by simp [byteCells]
  rw [this]
  exact own_below hown hm
theorem put_none {B n : Nat} {xs : List Value} {t : List UInt8 × Nat} {w w' : World} {v : Value} (ht : t = ([], 0)) (hB : B ≤ w.heap.size) (hown : w.ownsRow B 5 1 v n xs) (hm : Below w.heap.size w w') : PutPost B n xs t w (.returned (.tuple #[v, .int .i64 0])) w' := by
  subst ht; exact app_same hB hown hm

theorem runeCells_enc (R : Nat) (h : R ≤ 1114111) : Lib.runeCells (R : Int) = byteCells (encL R) := by
  have c : ∀ n : Nat, n < 256 → Value.int .u8 ((UInt8.ofNat n).toNat : Nat) = .int .u8 (n : Nat) := u8_cell
  unfold Lib.runeCells
  by_cases a1 : R < 128
  · rw [Lib.encodeRuneZ_one (by omega) (by omega), encode_1 R a1]
    simp only [byteCells, List.map_cons, List.map_nil]
    rw [c R (by omega)]
  by_cases a2 : R < 2048
  · rw [Lib.encodeRuneZ_two (by omega) (by omega), encode_2 R (by omega) a2]
    simp only [byteCells, List.map_cons, List.map_nil]
    rw [c _ (by omega), c _ (by omega)]
    rfl
  by_cases a3 : 55296 ≤ R ∧ R ≤ 57343
  · rw [Lib.encodeRuneZ_bad (by omega), encode_bad (R : Int) (decide_eq_false (by omega))]
    rfl
  by_cases a4 : R < 65536
  · rw [Lib.encodeRuneZ_three (by omega), encode_3 R (by omega) a4 (by omega)]
    simp only [byteCells, List.map_cons, List.map_nil]
    rw [c _ (by omega), c _ (by omega), c _ (by omega)]
    rfl
  · rw [Lib.encodeRuneZ_four (by omega) (by omega), encode_4 R (by omega) h]
    simp only [byteCells, List.map_cons, List.map_nil]
    rw [c _ (by omega), c _ (by omega), c _ (by omega), c _ (by omega)]
    rfl
theorem cells_m (w : World) (m : Nat) (hm : m < 256) : ∀ j u, (byteCells [UInt8.ofNat m])[j]? = some u → (w.alloc (.cells #[.int .u8 m] 5)).cell? ((⟨w.heap.size, 0, none⟩ : Addr).add j) = some u := by
  have e : byteCells [UInt8.ofNat m] = [.int .u8 m] := by simp only [byteCells, List.map_cons, List.map_nil]; rw [u8_cell m hm]
  rw [e]
  exact cells_lit w [.int .u8 m] _
theorem append_rune (B n : Nat) (v : Value) (xs : List Value) (R : Nat) (hR : R ≤ 1114111) (w : World) (hown : w.ownsRow B 5 1 v n xs) (hn : n ≤ 536870912) (hB : B ≤ w.heap.size) : Calls Tryd.prog 78 #[v, .int .i32 R] w (App B n xs (encL R) w .returned) := by
  have h1 : (-2147483648 : Int) ≤ (R : Int) := by omega
  have h2 : (R : Int) ≤ 2147483647 := by omega
  have h3 : n + 4 ≤ 140737488355328 := by omega
  refine (Tryd.utf8_AppendRune_plain B v n xs R h1 h2 w hown h3 hB).mono ?_
  rintro e w3 ⟨v3, rfl, hown3, ob, hgrow3⟩
  rw [runeCells_enc R hR, byteCells_length] at hown3
  exact app_of (f := .returned) hB hown ((Below.refl _ _).alloc (Nat.le_refl _) _) hown3 rfl hgrow3
theorem readB_lt {u : ByteArray} {m : Nat} (h : readB u = some m) : m < 256 := by
  unfold readB at h
  split at h
  · have := hexv_lt (u.get! 0).toNat
    have := hexv_lt (u.get! 1).toNat
    cases h
    omega
  · cases h
theorem rrF_le (u : ByteArray) : ∀ f i r, i + f ≤ 7 → (rrF u f i r).1 ≤ 1114111 ∧ (rrF u f i r).2 ≤ 7
  | 0, _, _, _ => by simp [rrF]
  | f + 1, i, r, h => by
    have ih := rrF_le u f (i + 1) (r * 16 + (hexv (u.get! i).toNat).toNat) (by omega)
    unfold rrF
    split
    · split
      · split
        · exact ⟨Nat.zero_le _, Nat.zero_le _⟩
        · rename_i hb
          unfold rrBad at hb
          exact ⟨by show r ≤ 1114111; omega, by show i + 1 ≤ 7; omega⟩
      · split
        · exact ⟨Nat.zero_le _, Nat.zero_le _⟩
        · exact ih
    · exact ⟨Nat.zero_le _, Nat.zero_le _⟩
theorem readR_le (u : ByteArray) : (readR u).1 ≤ 1114111 ∧ (readR u).2 ≤ 7 := rrF_le u 7 0 0 (by omega)

theorem put_some {B n k : Nat} {i : Int} {xs : List Value} {l : List UInt8} {t : List UInt8 × Nat} {w w' : World} {v : Value} (ht : t = (l, k)) (hi : i = (k : Int)) (h1 : w'.ownsRow B 5 1 v (n + l.length) (xs ++ byteCells l)) (h2 : Below B w w') (h3 : OthersKept 5 none w w') : PutPost B n xs t w (.returned (.tuple #[v, .int .i64 i])) w' := by
  subst ht; subst hi
  exact ⟨v, rfl, h1, h2, h3⟩
set_option maxRecDepth 100000 in
set_option maxHeartbeats 2000000 in
theorem putRead_plain (B n : Nat) (v : Value) (xs : List Value) (u : ByteArray) (w : World) (hown : w.ownsRow B 5 1 v n xs) (hn : n ≤ 536870912) (hB : B ≤ w.heap.size) (hu : 0 < u.size) (h0 : ¬ (u.get! 0).toNat = 92) :
    Calls Tryd.prog 47 #[v, .string u] w (PutPost B n xs (thing u) w) := by
  obtain ⟨i0, hi, hz0, hz1, hz2⟩ := info_parts byte_info
  obtain ⟨o, c, rfl⟩ := own_shape hown
  have HO := Lib.hid hown
  have hx := get_run' u 0 hu 0 rfl
  have hxl := get_u8 u 0
  have HTh : Hid (thing u = if 32 ≤ (u.get! 0).toNat ∧ (u.get! 0).toNat ≤ 126 then ([u.get! 0], 1) else ([], 0)) := by show thing u = _; unfold thing; rw [if_pos h0]
  obtain ⟨y, hy⟩ : ∃ y, y = u.get! 0 := ⟨_, rfl⟩
  rw [← hy] at hx hxl HTh h0
  obtain ⟨x, hxe⟩ : ∃ x, x = y.toNat := ⟨_, rfl⟩
  rw [← hxe] at hx hxl HTh h0
  have h0' : ((x : Int) == 92) = false := by rw [beq_eq_false_iff_ne]; omega
  have HXe := Lib.hid hxe
  clear hown hy hxe
  by_cases hs : 32 ≤ x ∧ x ≤ 126
  · have HS : Hid (showsB (x : Int) = true) := decide_eq_true (by omega)
    have HR : Hid (thing u = ([y], 1)) := by show thing u = _; rw [HTh.out, if_pos hs]
    go_enter Tryd.func47, Tryd.ntmps47
    go_wp2_with fail
    refine (shows_is x true _ HS.out).mono ?_
    rintro e w1 ⟨rfl, rfl⟩
    go_wp2_with (at_builtin; refine wpList_append_own _ rfl (.tmp 19) (.tmp 22) 60 rfl B 5 i0 (.int .u8 0) 1 1 Tryd.underlying60 hi hz0 hz1 hz2 rfl (by decide) (.slice o n c) n xs rfl (HO.out.alloc _) ⟨w.heap.size, 0, none⟩ 1 1 (byteCells [y]) rfl rfl ?c0 (byteCells_one _) ?c3 ?c4 ?c5 ?_)
    case c0 => rw [HXe.out]; exact cells_lit w (byteCells [y]) _
    case c3 => unfold maxLen; omega
    case c4 => omega
    case c5 => simp; omega
    intro v3 w3 hown3 hgrow3 hnil3
    have hfin : PutPost B n xs (thing u) w (.returned (.tuple #[v3, .int .i64 1])) w3 := by
      rw [HR.out]
      exact app_of (f := fun v => .returned (.tuple #[v, .int .i64 1])) hB HO.out (((Below.refl _ _).alloc (Nat.le_refl _) _)) hown3 rfl hgrow3
    have HF := Lib.hid hfin
    obtain ⟨o3, c3, rfl⟩ := own_shape hown3
    clear hown3 hgrow3 hnil3 hfin
    go_wp2_with fail
    go_ret2
    exact HF.out
  · have HS : Hid (showsB (x : Int) = false) := decide_eq_false (by omega)
    have HR : Hid (thing u = ([], 0)) := by show thing u = _; rw [HTh.out, if_neg hs]
    go_enter Tryd.func47, Tryd.ntmps47
    go_wp2_with fail
    refine (shows_is x false _ HS.out).mono ?_
    rintro e w1 ⟨rfl, rfl⟩
    go_wp2_with fail
    go_ret2
    exact put_none HR.out hB HO.out (Below.refl _ _)

set_option maxRecDepth 100000 in
set_option maxHeartbeats 2000000 in
theorem putRead_esc (B n : Nat) (v : Value) (xs : List Value) (u : ByteArray) (w : World) (hown : w.ownsRow B 5 1 v n xs) (hn : n ≤ 536870912) (hB : B ≤ w.heap.size) (hu : 0 < u.size) (hul : u.size ≤ 1073741824) (h0 : (u.get! 0).toNat = 92) :
    Calls Tryd.prog 47 #[v, .string u] w (PutPost B n xs (thing u) w) := by
  obtain ⟨i0, hi, hz0, hz1, hz2⟩ := info_parts byte_info
  obtain ⟨o, c, rfl⟩ := own_shape hown
  have HO := Lib.hid hown
  have hx := get_run' u 0 hu 0 rfl
  rw [h0] at hx
  have hx : ∀ (wx : World), (Instr.index 9 (.string u) (.int .i64 0)).run Tryd.prog wx = .ok (.int .u8 92) wx := hx
  by_cases hz : u.size = 1
  · have HR : Hid (thing u = ([], 0)) := by show thing u = _; unfold thing; rw [if_neg (fun hh => hh h0), if_pos hz]
    have hz' : ((u.size : Int) == 1) = true := by rw [beq_iff_eq]; omega
    clear hown h0
    go_enter Tryd.func47, Tryd.ntmps47
    go_wp2_with fail
    go_ret2
    exact put_none HR.out hB HO.out (Below.refl _ _)
  have hz' : ((u.size : Int) == 1) = false := by rw [beq_eq_false_iff_ne]; omega
  have hX := get_run' u 1 (by omega) 1 rfl
  have hxl := get_u8 u 1
  obtain ⟨y, hy⟩ : ∃ y, y = u.get! 1 := ⟨_, rfl⟩
  have HTh : Hid (thing u = if y.toNat = 34 ∨ y.toNat = 92 then ([y], 2)
    else if y.toNat = 120 then (match readB (u.extract 2 u.size) with | some n => ([UInt8.ofNat n], 4) | none => ([], 0))
    else if y.toNat = 117 then (if 0 < (readR (u.extract 2 u.size)).2 then (encL (readR (u.extract 2 u.size)).1, 2 + (readR (u.extract 2 u.size)).2) else ([], 0))
    else ([], 0)) := by show thing u = _; unfold thing; rw [if_neg (fun hh => hh h0), if_neg hz, ← hy]
  rw [← hy] at hX hxl
  obtain ⟨x, hxe⟩ : ∃ x, x = y.toNat := ⟨_, rfl⟩
  rw [← hxe] at hX hxl HTh
  have HXe := Lib.hid hxe
  have hsl : (u.extract 2 u.size).size ≤ 1073741824 := by simp; omega
  obtain ⟨U, hU⟩ : ∃ U, U = u.extract 2 u.size := ⟨_, rfl⟩
  rw [← hU] at HTh hsl
  have HU := Lib.hid hU
  have g2 : (2 : Int) ≤ (u.size : Int) := by omega
  clear hown h0 hy hxe hU
  by_cases a1 : x = 34
  · have HR : Hid (thing u = ([y], 2)) := by show thing u = _; rw [HTh.out, if_pos (Or.inl a1)]
    have a1' : ((x : Int) == 34) = true := by rw [beq_iff_eq]; omega
    clear a1
    go_enter Tryd.func47, Tryd.ntmps47
    go_wp2_with (at_builtin; refine wpList_append_own _ rfl (.tmp 33) (.tmp 36) 60 rfl B 5 i0 (.int .u8 0) 1 1 Tryd.underlying60 hi hz0 hz1 hz2 rfl (by decide) (.slice o n c) n xs rfl (HO.out.alloc _) ⟨w.heap.size, 0, none⟩ 1 1 (byteCells [y]) rfl rfl ?c0 (byteCells_one _) ?c3 ?c4 ?c5 ?_)
    case c0 => rw [HXe.out]; exact cells_lit w (byteCells [y]) _
    case c3 => unfold maxLen; omega
    case c4 => omega
    case c5 => simp; omega
    intro v3 w3 hown3 hgrow3 hnil3
    have hfin : PutPost B n xs (thing u) w (.returned (.tuple #[v3, .int .i64 2])) w3 := by
      rw [HR.out]
      exact app_of (f := fun v => .returned (.tuple #[v, .int .i64 2])) hB HO.out (((Below.refl _ _).alloc (Nat.le_refl _) _)) hown3 rfl hgrow3
    have HF := Lib.hid hfin
    obtain ⟨o3, c3, rfl⟩ := own_shape hown3
    clear hown3 hgrow3 hnil3 hfin
    go_wp2_with fail
    go_ret2
    exact HF.out
  have a1' : ((x : Int) == 34) = false := by rw [beq_eq_false_iff_ne]; omega
  by_cases a2 : x = 92
  · have HR : Hid (thing u = ([y], 2)) := by show thing u = _; rw [HTh.out, if_pos (Or.inr a2)]
    have a2' : ((x : Int) == 92) = true := by rw [beq_iff_eq]; omega
    clear a1 a2
    go_enter Tryd.func47, Tryd.ntmps47
    go_wp2_with (at_builtin; refine wpList_append_own _ rfl (.tmp 33) (.tmp 36) 60 rfl B 5 i0 (.int .u8 0) 1 1 Tryd.underlying60 hi hz0 hz1 hz2 rfl (by decide) (.slice o n c) n xs rfl (HO.out.alloc _) ⟨w.heap.size, 0, none⟩ 1 1 (byteCells [y]) rfl rfl ?c0 (byteCells_one _) ?c3 ?c4 ?c5 ?_)
    case c0 => rw [HXe.out]; exact cells_lit w (byteCells [y]) _
    case c3 => unfold maxLen; omega
    case c4 => omega
    case c5 => simp; omega
    intro v3 w3 hown3 hgrow3 hnil3
    have hfin : PutPost B n xs (thing u) w (.returned (.tuple #[v3, .int .i64 2])) w3 := by
      rw [HR.out]
      exact app_of (f := fun v => .returned (.tuple #[v, .int .i64 2])) hB HO.out (((Below.refl _ _).alloc (Nat.le_refl _) _)) hown3 rfl hgrow3
    have HF := Lib.hid hfin
    obtain ⟨o3, c3, rfl⟩ := own_shape hown3
    clear hown3 hgrow3 hnil3 hfin
    go_wp2_with fail
    go_ret2
    exact HF.out
  have a2' : ((x : Int) == 92) = false := by rw [beq_eq_false_iff_ne]; omega
  have HTh2 : Hid (thing u = if x = 120 then (match readB U with | some n => ([UInt8.ofNat n], 4) | none => ([], 0)) else if x = 117 then (if 0 < (readR U).2 then (encL (readR U).1, 2 + (readR U).2) else ([], 0)) else ([], 0)) := by
    show thing u = _; rw [HTh.out, if_neg (by omega)]
  by_cases a3 : x = 120
  · have a3' : ((x : Int) == 120) = true := by rw [beq_iff_eq]; omega
    cases hR : readB U with
    | none =>
      have HR : Hid (thing u = ([], 0)) := by show thing u = _; rw [HTh2.out, if_pos a3, hR]
      have HV : Hid (readBv U = .tuple #[.int .u8 0, .bool false]) := by show readBv U = _; unfold readBv; rw [hR]
      clear a1 a2 a3 hR
      go_enter Tryd.func47, Tryd.ntmps47
      go_wp2_with fail
      rw [← HU.out]
      refine (readByte_any U _).mono ?_
      rw [HV.out]
      rintro e w1 ⟨rfl, hb1⟩
      have HB1 := Lib.hid hb1
      clear hb1
      go_wp2_with fail
      go_ret2
      exact put_none HR.out hB HO.out HB1.out
    | some m =>
      have HR : Hid (thing u = ([UInt8.ofNat m], 4)) := by show thing u = _; rw [HTh2.out, if_pos a3, hR]
      have hm : m < 256 := readB_lt hR
      have HV : Hid (readBv U = .tuple #[.int .u8 m, .bool true]) := by show readBv U = _; unfold readBv; rw [hR]
      clear a1 a2 a3 hR
      go_enter Tryd.func47, Tryd.ntmps47
      go_wp2_with fail
      rw [← HU.out]
      refine (readByte_any U _).mono ?_
      rw [HV.out]
      rintro e w1 ⟨rfl, hb1⟩
      have hs1 := hb1.size
      have HB1 := Lib.hid hb1
      clear hb1
      go_wp2_with (at_builtin; refine wpList_append_own _ rfl (.tmp 47) (.tmp 49) 60 rfl B 5 i0 (.int .u8 0) 1 1 Tryd.underlying60 hi hz0 hz1 hz2 rfl (by decide) (.slice o n c) n xs rfl ((own_below HO.out HB1.out).alloc _) ⟨w1.heap.size, 0, none⟩ 1 1 (byteCells [UInt8.ofNat m]) rfl rfl ?c0 (byteCells_one _) ?c3 ?c4 ?c5 ?_)
      case c0 => exact cells_m w1 m hm
      case c3 => unfold maxLen; omega
      case c4 => omega
      case c5 => simp; omega
      intro v3 w3 hown3 hgrow3 hnil3
      have hfin : PutPost B n xs (thing u) w (.returned (.tuple #[v3, .int .i64 4])) w3 := by
        rw [HR.out]
        exact app_of (f := fun v => .returned (.tuple #[v, .int .i64 4])) hB HO.out (HB1.out.alloc hs1 _) hown3 rfl hgrow3
      have HF := Lib.hid hfin
      obtain ⟨o3, c3, rfl⟩ := own_shape hown3
      clear hown3 hgrow3 hnil3 hfin
      go_wp2_with fail
      go_ret2
      exact HF.out
  have a3' : ((x : Int) == 120) = false := by rw [beq_eq_false_iff_ne]; omega
  by_cases a4 : x = 117
  · have a4' : ((x : Int) == 117) = true := by rw [beq_iff_eq]; omega
    have HTh3 : Hid (thing u = if 0 < (readR U).2 then (encL (readR U).1, 2 + (readR U).2) else ([], 0)) := by
      show thing u = _; rw [HTh2.out, if_neg a3, if_pos a4]
    clear HTh2 HTh
    have hrl := readR_le U
    obtain ⟨R, hRd⟩ : ∃ R, R = (readR U).1 := ⟨_, rfl⟩
    obtain ⟨K, hK⟩ : ∃ K, K = (readR U).2 := ⟨_, rfl⟩
    have HC := Lib.hid (fun wx => readRune_any U wx hsl)
    rw [← hRd, ← hK] at HC HTh3 hrl
    clear hRd hK
    by_cases a5 : 0 < K
    · have HR : Hid (thing u = (encL (R : Nat), 2 + K)) := by show thing u = _; rw [HTh3.out, if_pos a5]
      have a5' : (0 : Int) < (K : Int) := by omega
      have HRl := Lib.hid hrl.1
      have hK7 := hrl.2
      clear hrl
      clear a1 a2 a3 a4 a5 HTh3
      go_enter Tryd.func47, Tryd.ntmps47
      go_wp2_with fail
      rw [← HU.out]
      refine (HC.out _).mono ?_
      rintro e w1 ⟨rfl, hb1⟩
      have hs1 := hb1.size
      have HB1 := Lib.hid hb1
      clear hb1
      go_wp2_with fail
      refine (append_rune B n _ xs R HRl.out _ (own_below HO.out HB1.out) hn (Nat.le_trans hB hs1)).mono ?_
      rintro e w3 ⟨v3, rfl, hown3, hb3, hk3⟩
      have hfin := put_some HR.out (show (2 : Int) + (K : Int) = ((2 + K : Nat) : Int) by omega) hown3 ((HB1.out.mono hB).trans hb3) ((others_below HB1.out).trans hk3)
      have HF := Lib.hid hfin
      obtain ⟨o3, c3, rfl⟩ := own_shape hown3
      clear hown3 hb3 hk3 hfin
      go_wp2_with fail
      go_ret2
      exact HF.out
    · have HR : Hid (thing u = ([], 0)) := by show thing u = _; rw [HTh3.out, if_neg a5]
      have a5' : K = 0 := by omega
      subst a5'
      clear a1 a2 a3 a4 a5 HTh3
      go_enter Tryd.func47, Tryd.ntmps47
      go_wp2_with fail
      rw [← HU.out]
      refine (HC.out _).mono ?_
      rintro e w1 ⟨rfl, hb1⟩
      have HB1 := Lib.hid hb1
      clear hb1
      go_wp2_with fail
      go_ret2
      exact put_none HR.out hB HO.out HB1.out
  · have a4' : ((x : Int) == 117) = false := by rw [beq_eq_false_iff_ne]; omega
    have HR : Hid (thing u = ([], 0)) := by show thing u = _; rw [HTh2.out, if_neg a3, if_neg a4]
    clear a1 a2 a3 a4 HTh2 HTh
    go_enter Tryd.func47, Tryd.ntmps47
    go_wp2_with fail
    go_ret2
    exact put_none HR.out hB HO.out (Below.refl _ _)
end Go.Proofs.YtmbekgfbnapelaaDoor
