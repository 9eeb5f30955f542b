/-
  WALKS OF THE LIBRARY: strconv.AppendInt at base 16, of a rune's number, onto a slice of bytes of the call's own.
-/
import Derived.Test.YtmbekgfbnapelaaDoorTexts3
import Derived.Laws.BitsAllLaws
import Derived.Laws.Bits64b
namespace Go.Proofs.YtmbekgfbnapelaaDoor
open Go.RowKit Go.Lib
set_option linter.unusedVariables false

/-! ### plain: a number in sixteens -/
def hexc (n : Nat) : UInt8 := if n < 10 then UInt8.ofNat (48 + n) else UInt8.ofNat (87 + n)
def hexF : Nat → Nat → List UInt8
  | 0, n => [hexc n]
  | f + 1, n => if n < 16 then [hexc n] else hexF f (n / 16) ++ [hexc (n % 16)]
def hexL (n : Nat) : List UInt8 := hexF 7 n
/-- The k last sixteens of r. -/
def tailD (r : Nat) : Nat → List UInt8
  | 0 => []
  | k + 1 => hexc (r / 16 ^ k % 16) :: tailD r k
theorem tailD_length (r : Nat) : ∀ k, (tailD r k).length = k
  | 0 => rfl
  | k + 1 => by simp [tailD, tailD_length r k]
theorem hexF_small (f n : Nat) (h : n < 16) : hexF f n = [hexc n] := by
  cases f with
  | zero => rfl
  | succ f => simp [hexF, h]
theorem hexF_big (f n : Nat) (h : ¬ n < 16) : hexF (f + 1) n = hexF f (n / 16) ++ [hexc (n % 16)] := by simp [hexF, h]
theorem hexc_val (n : Nat) (h : n < 16) : ((hexc n).toNat : Int) = if n < 10 then (48 + n : Nat) else (87 + n : Nat) := by
  unfold hexc
  split
  · rw [UInt8.toNat_ofNat_of_lt' (by simp [UInt8.size]; omega)]
  · rw [UInt8.toNat_ofNat_of_lt' (by simp [UInt8.size]; omega)]

/-- The library's table of digits. -/
def digs : ByteArray := ⟨#[48, 49, 50, 51, 52, 53, 54, 55, 56, 57, 97, 98, 99, 100, 101, 102, 103, 104, 105, 106, 107, 108, 109, 110, 111, 112, 113, 114, 115, 116, 117, 118, 119, 120, 121, 122]⟩
theorem digs_at : ∀ n : Nat, n < 16 → digs.get! n = hexc n := by
  intro n h
  match n, h with
  | 0, _ => rfl | 1, _ => rfl | 2, _ => rfl | 3, _ => rfl | 4, _ => rfl | 5, _ => rfl | 6, _ => rfl | 7, _ => rfl
  | 8, _ => rfl | 9, _ => rfl | 10, _ => rfl | 11, _ => rfl | 12, _ => rfl | 13, _ => rfl | 14, _ => rfl | 15, _ => rfl
  | n + 16, h => omega

/-! ### the walks -/
theorem tz_key : IntKind.u64.wrap (bits BinOp.and IntKind.u64 16 (IntKind.u64.wrap (-16)) * 285870213051353865) / 288230376151711744 = 15 := by decide +kernel
set_option maxHeartbeats 400000 in
theorem tz64_16 (w : World) (hcell : w.cell? ⟨4, 15, none⟩ = some (.int .u8 4)) :
    Calls Tryd.prog 128 #[.int .u64 16] w fun e w' => e = .returned (.int .i64 4) ∧ w = w' := by
  go_enter Tryd.func128, Tryd.ntmps128
  go_wp2_with (simp only [tz_key])
  go_ret
  exact ⟨rfl, rfl⟩
set_option maxHeartbeats 400000 in
theorem tz_16 (w : World) (hcell : w.cell? ⟨4, 15, none⟩ = some (.int .u8 4)) :
    Calls Tryd.prog 123 #[.int .u64 16] w fun e w' => e = .returned (.int .i64 4) ∧ w = w' := by
  go_enter Tryd.func123, Tryd.ntmps123
  go_wp2_with fail
  refine (tz64_16 _ hcell).mono ?_
  rintro e w1 ⟨rfl, rfl⟩
  go_wp2_with fail
  go_ret
  exact ⟨rfl, rfl⟩
theorem pow_key : bits BinOp.and IntKind.i64 16 15 = 0 := by decide +kernel
set_option maxHeartbeats 400000 in
theorem isPow_16 (w : World) :
    Calls Tryd.prog 122 #[.int .i64 16] w fun e w' => e = .returned (.bool true) ∧ w = w' := by
  go_enter Tryd.func122, Tryd.ntmps122
  go_wp2_with (simp only [pow_key])
  go_ret
  exact ⟨rfl, rfl⟩

theorem pw_step (U k : Nat) (hk : k ≤ 5) (h : 16 ≤ U) (hU : U < 16 ^ (6 - k)) : k ≤ 4 ∧ U / 16 < 16 ^ (6 - (k + 1)) := by
  have h6 : k = 0 ∨ k = 1 ∨ k = 2 ∨ k = 3 ∨ k = 4 ∨ k = 5 := by omega
  rcases h6 with rfl | rfl | rfl | rfl | rfl | rfl <;> simp at hU ⊢ <;> omega
theorem pw_le (U k : Nat) (hU : U < 16 ^ (6 - k)) : U < 16777216 := by
  have : 16 ^ (6 - k) ≤ 16 ^ 6 := Nat.pow_le_pow_right (by omega) (by omega)
  omega

/-- Behind k rounds: the array (block A) holds the k last sixteens at its end. -/
def HexRel (r : Nat) (w wr : World) (k U : Nat) : Prop :=
  (∃ cur : Array Value, wr.heap[w.heap.size]? = some (.cells cur 177 (0, 0)) ∧ cur.size = 65 ∧ ∀ j u, (byteCells (tailD r k))[j]? = some u → cur[65 - k + j]? = some u) ∧
  Below w.heap.size w wr ∧ U = r / 16 ^ k ∧ hexL r = hexF (7 - k) U ++ tailD r k
theorem HexRel.step {r k U : Nat} {w wr : World} (h : HexRel r w wr k U) (hk : k ≤ 4) (hU : ¬ U < 16) (x : Int) (hx : x = ((hexc (U % 16)).toNat : Int)) : HexRel r w (wr.setCell ⟨w.heap.size, 65 - k - 1, none⟩ (.int .u8 x)) (k + 1) (U / 16) := by
  obtain ⟨⟨cur, h1, h2, h3⟩, h4, h5, h6⟩ := h
  have hlt := lt_of_block h1
  have h' : wr.heap[w.heap.size] = .cells cur 177 (0, 0) := by simpa [Array.getElem?_eq_getElem hlt] using h1
  refine ⟨⟨cur.setIfInBounds (65 - k - 1) (.int .u8 x), ?_, by simp [h2], ?_⟩, h4.setCell (Nat.le_refl _) _, ?_, ?_⟩
  · show (wr.heap.modify w.heap.size _)[w.heap.size]? = _
    rw [Array.getElem?_eq_getElem (by simpa using hlt), Array.getElem_modify_self, h']
    rfl
  · intro j u hj
    cases j with
    | zero =>
      have hj' : Value.int .u8 ((hexc (r / 16 ^ k % 16)).toNat : Nat) = u := by simpa [tailD, byteCells] using hj
      rw [show 65 - (k + 1) + 0 = 65 - k - 1 by omega, Array.getElem?_setIfInBounds_self_of_lt (by omega), ← hj', hx, h5]
    | succ j =>
      have hj' : (byteCells (tailD r k))[j]? = some u := by simpa [tailD, byteCells] using hj
      rw [show 65 - (k + 1) + (j + 1) = 65 - k + j by omega, Array.getElem?_setIfInBounds_ne (by omega)]
      exact h3 j u hj'
  · rw [h5, Nat.pow_succ, Nat.div_div_eq_div_mul]
  · rw [h6, show 7 - k = (7 - (k + 1)) + 1 by omega, hexF_big _ _ hU]
    simp [tailD, h5]
/-- The last sixteen: the whole number stands there. -/
theorem HexRel.last {r k U : Nat} {w wr : World} (h : HexRel r w wr k U) (hk : k ≤ 5) (hU : U < 16) (x : Int) (hx : x = ((hexc U).toNat : Int)) :
    hexL r = hexc U :: tailD r k ∧ Below w.heap.size w (wr.setCell ⟨w.heap.size, 65 - k - 1, none⟩ (.int .u8 x)) ∧
    ∀ j u, (byteCells (hexL r))[j]? = some u → (wr.setCell ⟨w.heap.size, 65 - k - 1, none⟩ (.int .u8 x)).cell? ((⟨w.heap.size, 65 - k - 1, none⟩ : Addr).add j) = some u := by
  obtain ⟨⟨cur, h1, h2, h3⟩, h4, h5, h6⟩ := h
  have hlt := lt_of_block h1
  have h' : wr.heap[w.heap.size] = .cells cur 177 (0, 0) := by simpa [Array.getElem?_eq_getElem hlt] using h1
  have e : hexL r = hexc U :: tailD r k := by rw [h6, hexF_small _ _ hU]; rfl
  have hh : (wr.setCell ⟨w.heap.size, 65 - k - 1, none⟩ (.int .u8 x)).heap[w.heap.size]? = some (.cells (cur.setIfInBounds (65 - k - 1) (.int .u8 x)) 177 (0, 0)) := by
    show (wr.heap.modify w.heap.size _)[w.heap.size]? = _
    rw [Array.getElem?_eq_getElem (by simpa using hlt), Array.getElem_modify_self, h']
    rfl
  refine ⟨e, h4.setCell (Nat.le_refl _) _, ?_⟩
  intro j u hj
  rw [Addr.add_lit]
  have hc : (wr.setCell ⟨w.heap.size, 65 - k - 1, none⟩ (.int .u8 x)).cell? ⟨w.heap.size, 65 - k - 1 + j, none⟩ = (cur.setIfInBounds (65 - k - 1) (.int .u8 x))[65 - k - 1 + j]? := by
    unfold World.cell?
    rw [hh]
    simp
  rw [hc]
  rw [e] at hj
  cases j with
  | zero =>
    have hj' : Value.int .u8 ((hexc U).toNat : Nat) = u := by simpa [byteCells] using hj
    rw [Nat.add_zero, Array.getElem?_setIfInBounds_self_of_lt (by omega), ← hj', hx]
  | succ j =>
    have hj' : (byteCells (tailD r k))[j]? = some u := by simpa [byteCells] using hj
    rw [show 65 - k - 1 + (j + 1) = 65 - k + j by omega, Array.getElem?_setIfInBounds_ne (by omega)]
    exact h3 j u hj'
theorem dig_val (U : Nat) (h : U < 16) (h' : U < digs.size) : ((digs[U]'h').toNat : Int) = ((hexc U).toNat : Int) := by
  rw [← digs_at U h, get_lt digs U h']
theorem HexRel.cell {r k U i : Nat} {w wr : World} (h : HexRel r w wr k U) (hi : i < 65) : (∃ v, wr.cell? ⟨w.heap.size, i, none⟩ = some v) ∧ wr.frozen? ⟨w.heap.size, i, none⟩ = false := by
  obtain ⟨⟨cur, h1, h2, h3⟩, _⟩ := h
  exact ⟨⟨cur[i], by simp [World.cell?, h1, h2, hi]⟩, by simp [World.frozen?, h1]⟩
theorem band_15 (U : Nat) (h : U < 16777216) : bits BinOp.and IntKind.u64 (U : Int) 15 = ((U % 16 : Nat) : Int) := by
  have := u64_and_nat U 15 (by omega) (by omega)
  rw [nat_mask4] at this
  exact this

theorem cut_arr (A : Addr) (hA : A.spot = none) (k : Nat) (hk : k ≤ 5) (wx : World) : (Instr.sliceAt 177 (.pointer (some A)) (some (.int .i64 (((65 - k : Nat) : Int) - 1))) none none).run Tryd.prog wx = .ok (.slice (some (A.add (65 - k - 1))) (k + 1) (k + 1)) wx := by
  have hl : Tryd.prog.arrayLen 177 = 65 := by kernel_rfl
  have he : Tryd.prog.elem 177 = 5 := by kernel_rfl
  have ht : Tryd.prog.underlying 177 = some (.array (Tryd.prog.arrayLen 177) (Tryd.prog.elem 177)) := by rw [hl, he]; exact Tryd.underlying177
  have h := run_sliceAt_array_l (P := Tryd.prog) wx 177 A ht .i64 (((65 - k : Nat) : Int) - 1) (by omega) (by rw [hl]; omega)
  have hs : (sizeOf (Tryd.prog.elem 177)).run Tryd.prog wx = .ok 1 wx := by rw [he]; kernel_rfl
  rw [h, hs, hl]
  have e1 : ((((65 - k : Nat) : Int) - 1).toNat) = 65 - k - 1 := by omega
  simp only [Result.andThen, slicedAt, e1, Nat.mul_one]
  rw [if_neg (by omega), show 65 - (65 - k - 1) = k + 1 by omega]

def AppPost (B n : Nat) (xs : List Value) (l : List UInt8) (w : World) (v : Value) (f : Value → Ending) (e : Ending) (w' : World) : Prop :=
  ∃ v', e = f v' ∧ w'.ownsRow B 5 1 v' (n + l.length) (xs ++ byteCells l) ∧ (∃ wm, Below w.heap.size w wm ∧ w.heap.size ≤ wm.heap.size ∧ wm.grownBy w' v.ownBlock) ∧ v' ≠ .slice none 0 0

set_option maxRecDepth 100000 in
set_option maxHeartbeats 2000000 in
theorem fbits_any (B n : Nat) (v : Value) (xs : List Value) (r : Nat) (hr : r ≤ 1114111) (w : World) (hown : w.ownsRow B 5 1 v n xs) (hn : n ≤ 1073741824) (hB : B ≤ w.heap.size) (hcell : w.cell? ⟨4, 15, none⟩ = some (.int .u8 4)) (hg : 4 < w.heap.size) :
    Calls Tryd.prog 113 #[v, .int .u64 r, .int .i64 16, .bool false, .bool true] w (AppPost B n xs (hexL r) w v (fun v' => .returned (.tuple #[v', .string ByteArray.empty]))) := by
  obtain ⟨i0, hi, hz0, hz1, hz2⟩ := info_parts byte_info
  obtain ⟨o, c, rfl⟩ := own_shape hown
  have HOwn := Lib.hid hown
  clear hown
  have h0 : HexRel r w (w.alloc (.cells Tryd.zeroCells177 177)) 0 r :=
    ⟨⟨_, alloc_new _ _, by kernel_rfl, fun j u hj => by simp [tailD, byteCells] at hj⟩, (Below.refl _ _).alloc (Nat.le_refl _) _, by simp, by simp [tailD, hexL]⟩
  have hb0 : Below w.heap.size w (w.alloc (.cells Tryd.zeroCells177 177)) := (Below.refl _ _).alloc (Nat.le_refl _) _
  have hc0 : (w.alloc (.cells Tryd.zeroCells177 177)).cell? ⟨4, 15, none⟩ = some (.int .u8 4) := (hb0.cell (p := ⟨4, 15, none⟩) hg).trans hcell
  have H0 := Lib.hid h0; have HC0 := Lib.hid hc0
  clear h0 hb0 hc0 hcell
  go_enter Tryd.func113, Tryd.ntmps113
  go_wp2_with fail
  refine (isPow_16 _).mono ?_
  rintro e w1 ⟨rfl, rfl⟩
  go_wp2_with fail
  refine (tz_16 _ HC0.out).mono ?_
  rintro e w1 ⟨rfl, rfl⟩
  go_wp2_with fail
  go_loopw [1, 13] (fun uv iv wr => ∃ k U : Nat, uv = .int .u64 U ∧ iv = .int .i64 (65 - k : Nat) ∧ k ≤ 5 ∧ U < 16 ^ (6 - k) ∧ HexRel r w wr k U) (fun uv _ _ => (RowKit.intOf uv).toNat)
  case atStart => exact ⟨0, r, rfl, rfl, by omega, by simp; omega, H0.out⟩
  case round =>
    obtain ⟨k, U, rfl, rfl, hk, hU, hrel⟩ := hrel
    have hUl := pw_le U k hU
    have HU := Lib.hid hU; have HR := Lib.hid hrel
    clear hU hrel
    by_cases h16 : U < 16
    · have h16' : (U : Int) < 16 := by omega
      have hm : (U : Int) < 36 := by omega
      obtain ⟨⟨vv, hcc⟩, hff⟩ := HR.out.cell (i := 65 - k - 1) (by omega)
      have hsa := cut_arr ⟨w.heap.size, 0, none⟩ rfl k hk
      rw [Addr.add_lit, Nat.zero_add] at hsa
      have hlast := HR.out.last hk h16
      have hlen : (hexL r).length = k + 1 := by
        rw [(hlast _ rfl).1]; simp [tailD_length]
      have HLast := Lib.hid hlast
      have HLen := Lib.hid hlen
      clear hlast hlen
      go_wp2_with (at_builtin; refine wpList_append_own _ rfl (.tmp 95) (.tmp 97) 60 rfl B 5 i0 (.int .u8 0) 1 1 Tryd.underlying60 hi hz0 hz1 hz2 rfl (by decide) (.slice o n c) n xs rfl ?c6 ⟨w.heap.size, 65 - k - 1, none⟩ _ _ (byteCells (hexL r)) rfl ?c0 ?c1 (byteCells_one _) ?c3 ?c4 ?c5 ?_)
      case c6 => exact own_below HOwn.out (HLast.out _ (dig_val U h16 _)).2.1
      case c0 => rw [byteCells_length, HLen.out, Nat.mul_one]
      case c1 =>
        have := (HLast.out _ (dig_val U h16 (by show U < 36; omega))).2.2
        exact this
      case c3 => unfold maxLen; omega
      case c4 => omega
      case c5 => have hz := HR.out.2.1.size; simp; omega
      intro v3 w3 hown3 hgrow3 hnil3
      have hfin : AppPost B n xs (hexL r) w (.slice o n c) (fun v' => .returned (.tuple #[v', .string ByteArray.empty])) (.returned (.tuple #[v3, .string ByteArray.empty])) w3 := by
        refine ⟨v3, rfl, by rw [HLen.out]; exact hown3, ⟨_, (HLast.out _ (dig_val U h16 (by show U < 36; omega))).2.1, (HLast.out _ (dig_val U h16 (by show U < 36; omega))).2.1.size, hgrow3⟩, ?_⟩
        exact fun e => hnil3 e
      have HF := Lib.hid hfin
      obtain ⟨o3, c3, rfl⟩ := own_shape hown3
      clear hown3 hgrow3 hnil3 hfin
      go_wp2_with fail
      go_ret2
      exact HF.out
    · have hst := pw_step U k hk (by omega) HU.out
      have hkk := hst.1
      obtain ⟨⟨vv, hcc⟩, hff⟩ := HR.out.cell (i := 65 - k - 1) (by omega)
      have hba := band_15 U hUl
      have hm : ((U % 16 : Nat) : Int) < 36 := by omega
      have h16' : ¬ ((U : Int) < 16) := by omega
      go_wp2_with (simp only [hba])
      go_roundw
      case rel => exact ⟨k + 1, U / 16, by go_num, by go_num, by omega, hst.2, HR.out.step hkk h16 _ (dig_val _ (by omega) _)⟩
      case measure => simp [RowKit.intOf]; omega

set_option maxHeartbeats 1000000 in
theorem appInt_any (B n : Nat) (v : Value) (xs : List Value) (r : Nat) (hr : r ≤ 1114111) (w : World) (hown : w.ownsRow B 5 1 v n xs) (hn : n ≤ 1073741824) (hB : B ≤ w.heap.size) (hcell : w.cell? ⟨4, 15, none⟩ = some (.int .u8 4)) (hg : 4 < w.heap.size) :
    Calls Tryd.prog 72 #[v, .int .i64 r, .int .i64 16] w (AppPost B n xs (hexL r) w v (fun v' => .returned v')) := by
  have hF := fbits_any B n v xs r hr w hown hn hB hcell hg
  have HF := Lib.hid hF
  obtain ⟨o, c, rfl⟩ := own_shape hown
  have hU : Calls Tryd.prog 103 #[.slice o n c, .int .u64 r, .int .i64 16] w (AppPost B n xs (hexL r) w (.slice o n c) (fun v' => .returned v')) := by
    clear hF hown hcell
    go_enter Tryd.func103, Tryd.ntmps103
    go_wp2_with fail
    refine HF.out.mono ?_
    rintro e w1 ⟨v1, rfl, h1, h2, h3⟩
    obtain ⟨o1, c1, rfl⟩ := own_shape h1
    have HP : Hid (AppPost B n xs (hexL r) w (.slice o n c) (fun v' => .returned v') (.returned (.slice o1 (n + (hexL r).length) c1)) w1) := ⟨_, rfl, h1, h2, h3⟩
    clear h1 h2 h3
    go_wp2_with fail
    go_ret
    exact HP.out
  have hA : Calls Tryd.prog 90 #[.slice o n c, .int .i64 r, .int .i64 16] w (AppPost B n xs (hexL r) w (.slice o n c) (fun v' => .returned v')) := by
    have HU := Lib.hid hU
    clear hF hown hcell hU
    have hneg : ¬ ((r : Int) < 0) := by omega
    go_enter Tryd.func90, Tryd.ntmps90
    go_wp2_with fail
    refine HU.out.mono ?_
    rintro e w1 ⟨v1, rfl, h1, h2, h3⟩
    obtain ⟨o1, c1, rfl⟩ := own_shape h1
    have HP : Hid (AppPost B n xs (hexL r) w (.slice o n c) (fun v' => .returned v') (.returned (.slice o1 (n + (hexL r).length) c1)) w1) := ⟨_, rfl, h1, h2, h3⟩
    clear h1 h2 h3
    go_wp2_with fail
    go_ret
    exact HP.out
  have HA := Lib.hid hA
  clear hF hown hcell hU hA
  go_enter Tryd.func72, Tryd.ntmps72
  go_wp2_with fail
  refine HA.out.mono ?_
  rintro e w1 ⟨v1, rfl, h1, h2, h3⟩
  obtain ⟨o1, c1, rfl⟩ := own_shape h1
  have HP : Hid (AppPost B n xs (hexL r) w (.slice o n c) (fun v' => .returned v') (.returned (.slice o1 (n + (hexL r).length) c1)) w1) := ⟨_, rfl, h1, h2, h3⟩
  clear h1 h2 h3
  go_wp2_with fail
  go_ret
  exact HP.out
end Go.Proofs.YtmbekgfbnapelaaDoor
