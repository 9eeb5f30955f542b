/-
  WALKS: cognatelaw02.FeatureNames.
-/
import Derived.Test.YtmbekgfbnapelaaFull
import Derived.Test.YtmbekgfbnapelaaAlv2
namespace Go.Proofs.Ytmbekgfbnapelaa
open Go.RowKit Go.Lib
set_option linter.unusedVariables false

theorem ck_lit {pf : Option Addr} {bf f0 cf : Nat} {fs : List ByteArray} {pl : Option Addr} {bl l0 cl : Nat} {ls : List Ltr} {w : World} (nf nl : Nat) (hnf : fs.length = nf) (hnl : ls.length = nl) (hF : FsIn pf bf f0 cf fs w) (hL : LsIn pl bl l0 ls w) (b : Bool) (hc : alB fs ls = b) :
    Calls Try.prog 9 #[.agg #[.slice pf nf cf, .slice pl nl cl]] w fun e w' => e = .returned (.int .i64 (if b then 0 else 7)) ∧ Below w.heap.size w w' := by
  subst hnf hnl
  refine (check_any ⟨pf, bf, f0, cf, fs, pl, bl, l0, cl, ls⟩ w ⟨hF, hL⟩).mono ?_
  rintro e w' ⟨rfl, hb⟩
  have e : chk ⟨pf, bf, f0, cf, fs, pl, bl, l0, cl, ls⟩ = if b then 0 else 7 := by rw [← hc]; rfl
  exact ⟨by rw [e], hb⟩
def NaIn (pf : Option Addr) (cf : Nat) (fs : List ByteArray) (pl : Option Addr) (ls : List Ltr) (w : World) : Prop := ∃ bf f0 bl l0, FsIn pf bf f0 cf fs w ∧ LsIn pl bl l0 ls w
theorem NaIn.next {pf : Option Addr} {cf : Nat} {fs : List ByteArray} {pl : Option Addr} {ls : List Ltr} {w w' : World} (h : NaIn pf cf fs pl ls w) (hb : Below w.heap.size w w') : NaIn pf cf fs pl ls w' := by
  obtain ⟨a, b, c, d, h1, h2⟩ := h
  exact ⟨a, b, c, d, h1.next hb, h2.next hb⟩
theorem fl_any (nf nl : Nat) (w : World) (h1 : nf ≤ 25) (h2 : nl ≤ 129) : Calls Try.prog 8 #[.int .i64 nf, .int .i64 nl] w fun e w' => ∃ pf cf pl cl, e = .returned (.agg #[.slice pf nf cf, .slice pl nl cl]) ∧ NaIn pf cf (fsN nf) pl (lsN nl) w' ∧ Below w.heap.size w w' := by
  refine (full_any nf nl w h1 h2).mono ?_
  rintro e w' ⟨⟨pf, bf, f0, cf, fs, pl, bl, l0, cl, ls⟩, rfl, hf, hl, hin, hb⟩
  have hf : fs = fsN nf := hf
  have hl : ls = lsN nl := hl
  subst hf hl
  refine ⟨pf, cf, pl, cl, ?_, ⟨bf, f0, bl, l0, hin.F, hin.L⟩, hb⟩
  show Ending.returned (.agg #[.slice pf (fsN nf).length cf, .slice pl (lsN nl).length cl]) = _
  rw [fsN_length, lsN_length]
theorem ck_na {pf : Option Addr} {cf : Nat} {pl : Option Addr} {cl : Nat} {w : World} (nf nl : Nat) (b : Bool) (hc : alB (fsN nf) (lsN nl) = b) (h : NaIn pf cf (fsN nf) pl (lsN nl) w) :
    Calls Try.prog 9 #[.agg #[.slice pf nf cf, .slice pl nl cl]] w fun e w' => e = .returned (.int .i64 (if b then 0 else 7)) ∧ Below w.heap.size w w' := by
  obtain ⟨_, _, _, _, h1, h2⟩ := h
  exact ck_lit nf nl (fsN_length _) (lsN_length _) h1 h2 b hc
theorem lst0 : (lofR (lsN 128) 0).2 = 5 := by decide +kernel
theorem ls_na {pf : Option Addr} {cf : Nat} {pl : Option Addr} {cl : Nat} {w : World} (n : Nat) (c : Int) (h0 : 0 < n) (hn : n ≤ 129) (hc : (if 128 < n then (4 : Int) else 5) = c) (h : NaIn pf cf (fsN 24) pl (lsN 128) w) (br : Nat) (hr : ∀ j, j < n → w.cell? ⟨br, j, none⟩ = some (.int .i32 0)) :
    Calls Try.prog 10 #[.agg #[.slice pf 24 cf, .slice pl 128 cl], .slice (some ⟨br, 0, none⟩) n n] w fun e w' => e = .returned (.tuple #[.int .u32 0, .int .u32 0, .int .i64 c]) ∧ Below w.heap.size w w' := by
  obtain ⟨bf, f0, bl, l0, h1, h2⟩ := h
  have h := least_any ⟨pf, bf, f0, cf, fsN 24, pl, bl, l0, cl, lsN 128⟩ (some ⟨br, 0, none⟩) br 0 n (List.replicate n 0) w ⟨h1, h2⟩ ⟨fun _ => rfl, fun j hj => by
    have hj : j < n := by simpa using hj
    rw [Nat.zero_add, hr j hj, List.getD_eq_getElem?_getD, List.getElem?_replicate, if_pos hj]; rfl, by simp; omega⟩
  have hok : (⟨pf, bf, f0, cf, fsN 24, pl, bl, l0, cl, lsN 128⟩ : Al).ok = true := ok_a
  have hl : leastR ⟨pf, bf, f0, cf, fsN 24, pl, bl, l0, cl, lsN 128⟩ (List.replicate n 0) = (0, 0, c) := by
    unfold leastR
    rw [hok, if_pos rfl, List.length_replicate]
    by_cases h8 : 128 < n
    · rw [if_pos h8] at hc
      rw [if_pos h8, hc]
    · rw [if_neg h8] at hc
      rw [if_neg h8, if_neg (by omega), ← hc]
      obtain ⟨m, rfl⟩ : ∃ m, n = m + 1 := ⟨n - 1, by omega⟩
      rw [List.replicate_succ, lstS, if_neg (show ¬ (lofR (lsN 128) 0).2 = 0 from by rw [lst0]; decide)]
      rw [lst0]
  rw [hl, List.length_replicate] at h
  have h : Calls Try.prog 10 #[.agg #[.slice pf (fsN 24).length cf, .slice pl (lsN 128).length cl], .slice (some ⟨br, 0, none⟩) n n] w (LstPost (0, 0, c) w) := h
  rw [fsN_length, lsN_length] at h
  exact h
theorem run_zeros (n : Nat) (h : n ≤ 129) : ∃ MC : Array Value, (∀ j, j < n → MC[j]? = some (.int .i32 0)) ∧ ∀ w : World, (Instr.makeSlice 33 (.int .i64 n) (.int .i64 n)).run Try.prog w = .ok (.slice (some ⟨w.heap.size, 0, none⟩) n n) (w.alloc (.cells MC 21)) := by
  obtain ⟨i, hi, hz, h1, h2⟩ := info_parts rune_info
  refine ⟨madeCells (Value.int .i32 0).cells ((n : Int).toNat * i.size), fun j hj => ?_, fun w => ?_⟩
  · rw [h1, Nat.mul_one, Int.toNat_natCast, ← Array.getElem?_toList]
    rw [show (Value.int .i32 0).cells = #[.int .i32 0] from rfl, toList_madeCells_one, List.getElem?_replicate, if_pos hj]
  · have h := run_make (P := Try.prog) w 33 21 i (.int .i32 0) Try.underlying33 hi hz .i64 .i64 n n (by omega) (by omega) (by rw [h2]; omega) (by omega)
    rw [Int.toNat_natCast] at h
    exact h

theorem fi_none (w : World) : FsIn none 0 0 0 [] w := ⟨fun h => absurd h (by decide), fun j hj => absurd hj (by simp), by simp, by simp, fun j hj => absurd hj (by simp)⟩
theorem li_one {w : World} {b : Nat} {r : Int} {p m : Nat} (h0 : w.cell? ⟨b, 0, none⟩ = some (.int .i32 r)) (h1 : w.cell? ⟨b, 1, none⟩ = some (.int .u32 p)) (h2 : w.cell? ⟨b, 2, none⟩ = some (.int .u32 m)) (hb : p < 4294967296 ∧ m < 4294967296 ∧ -2147483648 ≤ r ∧ r ≤ 2147483647) : LsIn (some ⟨b, 0, none⟩) b 0 [⟨r, p, m⟩] w := by
  refine ⟨fun _ => rfl, fun j hj => ?_, fun j hj => ?_, fun j hj => ?_, by simp, fun l hl => ?_⟩
  · obtain rfl : j = 0 := by simp at hj; omega
    exact h0
  · obtain rfl : j = 0 := by simp at hj; omega
    exact h1
  · obtain rfl : j = 0 := by simp at hj; omega
    exact h2
  · simp at hl; subst hl; exact hb
theorem ck_one (W : World) (r : Int) (b : Bool) (hr : -2147483648 ≤ r ∧ r ≤ 2147483647) (hc : alB [] [⟨r, 0, 0⟩] = b) :
    Calls Try.prog 9 #[.agg #[.slice none 0 0, .slice (some ⟨W.heap.size, 0, none⟩) 1 1]] (W.alloc (.cells #[.int .i32 r, .int .u32 0, .int .u32 0] 35)) fun e w' => e = .returned (.int .i64 (if b then 0 else 7)) ∧ Below W.heap.size W w' := by
  refine (ck_lit 0 1 rfl rfl (fi_none _) (li_one (p := 0) (m := 0) (by simp) (by simp) (by simp) ⟨by omega, by omega, hr.1, hr.2⟩) b hc).mono ?_
  rintro e w' ⟨rfl, hb⟩
  exact ⟨rfl, ((Below.refl _ _).alloc (Nat.le_refl _) _).trans (hb.mono (by simp))⟩
theorem may_at : ∀ k : Fin 10, alB [] [⟨mayN.getD k.val 0, 0, 0⟩] = true ∧ -2147483648 ≤ mayN.getD k.val 0 ∧ mayN.getD k.val 0 ≤ 2147483647 := by decide +kernel
theorem not_at : ∀ k : Fin 15, alB [] [⟨notN.getD k.val 0, 0, 0⟩] = false ∧ -2147483648 ≤ notN.getD k.val 0 ∧ notN.getD k.val 0 ≤ 2147483647 := by decide +kernel
def RnIn (b : Nat) (l : List Int) (w : World) : Prop := b < w.heap.size ∧ ∀ j, j < l.length → w.cell? ⟨b, j, none⟩ = some (.int .i32 (l.getD j 0))
theorem RnIn.next {b : Nat} {l : List Int} {w w' : World} (h : RnIn b l w) (hb : Below w.heap.size w w') : RnIn b l w' :=
  ⟨Nat.lt_of_lt_of_le h.1 hb.size, fun j hj => (hb.cell (p := ⟨b, j, none⟩) h.1).trans (h.2 j hj)⟩
theorem RnIn.made (w : World) (l : List Int) (t : TypeId) (cs : Array Value) (h : cs.toList = l.map (Value.int .i32)) : RnIn w.heap.size l (w.alloc (.cells cs t)) := by
  refine ⟨by simp, fun j hj => ?_⟩
  have e : cs[j]? = some (.int .i32 (l.getD j 0)) := by
    rw [← Array.getElem?_toList, h, List.getElem?_map, List.getD_eq_getElem?_getD, List.getElem?_eq_getElem hj]; rfl
  rw [← e]; simp

/-- The long name while it is filled. -/
def LgIn (b k : Nat) (w : World) : Prop := b < w.heap.size ∧ (∀ j, j < 33 → w.cell? ⟨b, j, none⟩ = some (.int .u8 (if j < k then 120 else 0))) ∧ ∀ j, j < 33 → w.frozen? ⟨b, j, none⟩ = false
theorem run_zb : ∃ MC : Array Value, (∀ j, j < 33 → MC[j]? = some (.int .u8 0)) ∧ ∀ w : World, (Instr.makeSlice 36 (.int .i64 33) (.int .i64 33)).run Try.prog w = .ok (.slice (some ⟨w.heap.size, 0, none⟩) 33 33) (w.alloc (.cells MC 5)) := by
  obtain ⟨i, hi, hz, h1, h2⟩ := info_parts byteF_info
  refine ⟨madeCells (Value.int .u8 0).cells ((33 : Int).toNat * i.size), fun j hj => ?_, fun w => ?_⟩
  · rw [h1, Nat.mul_one, ← Array.getElem?_toList]
    rw [show (Value.int .u8 0).cells = #[.int .u8 0] from rfl, toList_madeCells_one, List.getElem?_replicate, if_pos (show j < (33 : Int).toNat from hj)]
  · have h := run_make (P := Try.prog) w 36 5 i (.int .u8 0) Try.underlying36 hi hz .i64 .i64 33 33 (by decide) (by decide) (by rw [h2]; decide) (by decide)
    exact h
theorem LgIn.made (w : World) (MC : Array Value) (t : TypeId) (h : ∀ j, j < 33 → MC[j]? = some (.int .u8 0)) : LgIn w.heap.size 0 (w.alloc (.cells MC t)) := by
  refine ⟨by simp, fun j hj => ?_, fun j hj => by simp⟩
  have := h j hj
  simp [this]
theorem LgIn.set {b k : Nat} {w : World} (h : LgIn b k w) (hk : k < 33) : LgIn b (k + 1) (w.setCell ⟨b, k, none⟩ (.int .u8 120)) := by
  refine ⟨by simpa using h.1, fun j hj => ?_, fun j hj => by rw [World.frozen?_setCell]; exact h.2.2 j hj⟩
  by_cases e : j = k
  · subst e
    rw [World.cell?_setCell_same _ _ _ (h.2.1 j hj), if_pos (by omega)]
  · rw [World.cell?_setCell_other _ _ _ _ (fun h => e (by injection h with _ h2; exact h2.symm)), h.2.1 j hj]
    by_cases h2 : j < k
    · rw [if_pos h2, if_pos (by omega)]
    · rw [if_neg h2, if_neg (by omega)]
theorem LgIn.next {b k : Nat} {w w' : World} (h : LgIn b k w) (hb : Below w.heap.size w w') : LgIn b k w' :=
  ⟨Nat.lt_of_lt_of_le h.1 hb.size, fun j hj => (hb.cell (p := ⟨b, j, none⟩) h.1).trans (h.2.1 j hj), fun j hj => (hb.frozen (p := ⟨b, j, none⟩) h.1).trans (h.2.2 j hj)⟩

theorem fi_one {w : World} {b o c : Nat} {x : ByteArray} (h0 : w.cell? ⟨b, o, none⟩ = some (.string x)) (hc : 1 ≤ c) (hx : x.size ≤ 140737488355328) : FsIn (some ⟨b, o, none⟩) b o c [x] w := by
  refine ⟨fun _ => rfl, fun j hj => ?_, by simpa using hc, by simp, fun j hj => ?_⟩
  · obtain rfl : j = 0 := by simp at hj; omega
    exact h0
  · obtain rfl : j = 0 := by simp at hj; omega
    exact hx
theorem fi_two {w : World} {b : Nat} {x y : ByteArray} (h0 : w.cell? ⟨b, 0, none⟩ = some (.string x)) (h1 : w.cell? ⟨b, 1, none⟩ = some (.string y)) (hx : x.size ≤ 140737488355328) (hy : y.size ≤ 140737488355328) : FsIn (some ⟨b, 0, none⟩) b 0 2 [x, y] w := by
  refine ⟨fun _ => rfl, fun j hj => ?_, by simp, by simp, fun j hj => ?_⟩
  · have hj : j < 2 := hj
    match j, hj with
    | 0, _ => exact h0
    | 1, _ => exact h1
  · have hj : j < 2 := hj
    match j, hj with
    | 0, _ => exact hx
    | 1, _ => exact hy
theorem li_two {w : World} {b : Nat} (h : ∀ j, j < 6 → w.cell? ⟨b, j, none⟩ = (#[Value.int .i32 97, .int .u32 0, .int .u32 0, .int .i32 97, .int .u32 0, .int .u32 0])[j]?) : LsIn (some ⟨b, 0, none⟩) b 0 [⟨97, 0, 0⟩, ⟨97, 0, 0⟩] w := by
  refine ⟨fun _ => rfl, fun j hj => ?_, fun j hj => ?_, fun j hj => ?_, by simp, fun l hl => ?_⟩
  · have hj : j < 2 := hj
    match j, hj with
    | 0, _ => exact h 0 (by omega)
    | 1, _ => exact h 3 (by omega)
  · have hj : j < 2 := hj
    match j, hj with
    | 0, _ => exact h 1 (by omega)
    | 1, _ => exact h 4 (by omega)
  · have hj : j < 2 := hj
    match j, hj with
    | 0, _ => exact h 2 (by omega)
    | 1, _ => exact h 5 (by omega)
  · simp at hl; subst hl; decide
def nmN : List ByteArray := [xN 33, ⟨#[]⟩, ⟨#[65]⟩, ⟨#[97, 49]⟩, ⟨#[195, 169]⟩, ⟨#[97, 32, 98]⟩]
theorem nm_at : ∀ k : Fin 6, alB [nmN.getD k.val ByteArray.empty] [⟨97, 0, 0⟩] = false ∧ (nmN.getD k.val ByteArray.empty).size ≤ 140737488355328 := by decide +kernel
def StIn (b : Nat) (l : List ByteArray) (w : World) : Prop := b < w.heap.size ∧ ∀ j, j < l.length → w.cell? ⟨b, j, none⟩ = some (.string (l.getD j ByteArray.empty))
theorem StIn.next {b : Nat} {l : List ByteArray} {w w' : World} (h : StIn b l w) (hb : Below w.heap.size w w') : StIn b l w' :=
  ⟨Nat.lt_of_lt_of_le h.1 hb.size, fun j hj => (hb.cell (p := ⟨b, j, none⟩) h.1).trans (h.2 j hj)⟩
theorem StIn.made (w : World) (l : List ByteArray) (t : TypeId) (cs : Array Value) (h : cs.toList = l.map Value.string) : StIn w.heap.size l (w.alloc (.cells cs t)) := by
  refine ⟨by simp, fun j hj => ?_⟩
  have e : cs[j]? = some (.string (l.getD j ByteArray.empty)) := by
    rw [← Array.getElem?_toList, h, List.getElem?_map, List.getD_eq_getElem?_getD, List.getElem?_eq_getElem hj]; rfl
  rw [← e]; simp
theorem conv_long {W : World} {b : Nat} (h : LgIn b 33 W) (n : Nat) (hn : n ≤ 33) : (convert 36 9 (.slice (some ⟨b, 0, none⟩) n 33)).run Try.prog W = .ok (.string (xN n)) W := by
  have h := run_convert_bytes_back W 36 9 5 ⟨b, 0, none⟩ 33 (List.replicate n (120 : UInt8)) Try.underlying36 Try.underlying5 Try.underlying9 (by
    intro j hj
    have hj' : j < n := by simpa using hj
    rw [show (⟨b, 0, none⟩ : Addr).add j = ⟨b, j, none⟩ from by (simp [Addr.add]; try omega), h.2.1 j (by omega), if_pos (by omega)]
    simp)
  rw [List.length_replicate] at h
  exact h

structure P2 (b : Nat) (x y : Value) (w : World) : Prop where
  c0 : w.cell? ⟨b, 0, none⟩ = some x
  c1 : w.cell? ⟨b, 1, none⟩ = some y
  lt : b < w.heap.size
theorem P2.next {b : Nat} {x y : Value} {w w' : World} (h : P2 b x y w) (hb : Below w.heap.size w w') : P2 b x y w' :=
  ⟨(hb.cell (p := ⟨b, 0, none⟩) h.lt).trans h.c0, (hb.cell (p := ⟨b, 1, none⟩) h.lt).trans h.c1, Nat.lt_of_lt_of_le h.lt hb.size⟩

set_option maxHeartbeats 8000000 in
set_option maxRecDepth 100000 in
theorem names_walk (w : World) : Calls Try.prog 3 #[] w fun e w' => e = .returned (.bool true) ∧ Below w.heap.size w w' := by
  have HAL := Lib.hid alive_any; have HFU := Lib.hid fl_any
  go_enter Try.func3, Try.ntmps3
  go_wp2_with fail
  refine (HAL.out _).mono ?_
  rintro e w1 ⟨rfl, hb1⟩
  have HB1 := Lib.hid hb1
  clear hb1 HAL
  go_wp2_with fail
  refine (HFU.out 24 128 _ (by omega) (by omega)).mono ?_
  rintro e w2 ⟨pf, cf, pl, cl, rfl, hna, hb2⟩
  have HB2 := Lib.hid (HB1.out.trans (hb2.mono HB1.out.size))
  have HN := Lib.hid hna
  have HP := Lib.hid (show P2 w2.heap.size (.slice pf 24 cf) (.slice pl 128 cl) (w2.alloc (.cells #[.slice pf 24 cf, .slice pl 128 cl] 26)) from ⟨by simp, by simp, by simp⟩)
  replace HN := Lib.hid (HN.out.next ((Below.refl _ _).alloc (Nat.le_refl _) (.cells #[.slice pf 24 cf, .slice pl 128 cl] 26)))
  replace HB2 := Lib.hid (HB2.out.alloc HB2.out.size (.cells #[.slice pf 24 cf, .slice pl 128 cl] 26))
  clear hb2 hna HB1
  go_wp2_with fail
  refine (ck_na 24 128 true ok_a HN.out).mono ?_
  rintro e w3 ⟨rfl, hb⟩
  have HB3 := Lib.hid (HB2.out.trans (hb.mono HB2.out.size))
  replace HN := Lib.hid (HN.out.next hb)
  replace HP := Lib.hid (HP.out.next hb)
  clear hb HB2
  go_wp2_with fail
  refine (HFU.out 25 128 _ (by omega) (by omega)).mono ?_
  rintro e w4 ⟨pf4, cf4, pl4, cl4, rfl, hna, hb⟩
  have HB4 := Lib.hid (HB3.out.trans (hb.mono HB3.out.size))
  replace HN := Lib.hid (HN.out.next hb)
  replace HP := Lib.hid (HP.out.next hb)
  have HN2 := Lib.hid hna
  clear hb HB3 hna
  go_wp2_with fail
  refine (ck_na 25 128 false no_b HN2.out).mono ?_
  rintro e w5 ⟨rfl, hb⟩
  have HB5 := Lib.hid (HB4.out.trans (hb.mono HB4.out.size))
  replace HN := Lib.hid (HN.out.next hb)
  replace HP := Lib.hid (HP.out.next hb)
  clear hb HB4 HN2
  go_wp2_with fail
  refine (HFU.out 24 129 _ (by omega) (by omega)).mono ?_
  rintro e w6 ⟨pf6, cf6, pl6, cl6, rfl, hna, hb⟩
  have HB6 := Lib.hid (HB5.out.trans (hb.mono HB5.out.size))
  replace HN := Lib.hid (HN.out.next hb)
  replace HP := Lib.hid (HP.out.next hb)
  have HN2 := Lib.hid hna
  clear hb HB5 hna
  go_wp2_with fail
  refine (ck_na 24 129 false no_c HN2.out).mono ?_
  rintro e w7 ⟨rfl, hb⟩
  have HB7 := Lib.hid (HB6.out.trans (hb.mono HB6.out.size))
  replace HN := Lib.hid (HN.out.next hb)
  replace HP := Lib.hid (HP.out.next hb)
  clear hb HB6 HN2
  go_wp2_with fail
  refine (HFU.out 24 0 _ (by omega) (by omega)).mono ?_
  rintro e w8 ⟨pf8, cf8, pl8, cl8, rfl, hna, hb⟩
  have HB8 := Lib.hid (HB7.out.trans (hb.mono HB7.out.size))
  replace HN := Lib.hid (HN.out.next hb)
  replace HP := Lib.hid (HP.out.next hb)
  have HN2 := Lib.hid hna
  clear hb HB7 hna
  go_wp2_with fail
  refine (ck_na 24 0 false no_d HN2.out).mono ?_
  rintro e w9 ⟨rfl, hb⟩
  have HB9 := Lib.hid (HB8.out.trans (hb.mono HB8.out.size))
  replace HN := Lib.hid (HN.out.next hb)
  replace HP := Lib.hid (HP.out.next hb)
  clear hb HB8 HN2
  go_wp2_with fail
  refine (HFU.out 0 1 _ (by omega) (by omega)).mono ?_
  rintro e w10 ⟨pf10, cf10, pl10, cl10, rfl, hna, hb⟩
  have HB10 := Lib.hid (HB9.out.trans (hb.mono HB9.out.size))
  replace HN := Lib.hid (HN.out.next hb)
  replace HP := Lib.hid (HP.out.next hb)
  have HN2 := Lib.hid hna
  clear hb HB9 hna
  go_wp2_with fail
  refine (ck_na 0 1 false no_e HN2.out).mono ?_
  rintro e w11 ⟨rfl, hb⟩
  have HB11 := Lib.hid (HB10.out.trans (hb.mono HB10.out.size))
  replace HN := Lib.hid (HN.out.next hb)
  replace HP := Lib.hid (HP.out.next hb)
  clear hb HB10 HN2
  obtain ⟨c0, c1, hlt⟩ : w11.cell? ⟨w2.heap.size, 0, none⟩ = some (.slice pf 24 cf) ∧ w11.cell? ⟨w2.heap.size, 1, none⟩ = some (.slice pl 128 cl) ∧ w2.heap.size < w11.heap.size := ⟨HP.out.c0, HP.out.c1, HP.out.lt⟩
  obtain ⟨MC, hMC, hmk⟩ := run_zeros 129 (by omega)
  replace hmk : ∀ w : World, (Instr.makeSlice 33 (.int .i64 129) (.int .i64 129)).run Try.prog w = .ok (.slice (some ⟨w.heap.size, 0, none⟩) 129 129) (w.alloc (.cells MC 21)) := hmk
  have hmc : ∀ (W : World) j, j < 129 → (W.alloc (.cells MC 21)).cell? ⟨W.heap.size, j, none⟩ = some (.int .i32 0) := fun W j hj => by
    rw [← hMC j hj]; simp
  have KS := Lib.hid (show ∀ W, Below w11.heap.size w11 W → Below w11.heap.size w11 W ∧ W.cell? ⟨w2.heap.size, 0, none⟩ = some (.slice pf 24 cf) ∧ W.cell? ⟨w2.heap.size, 1, none⟩ = some (.slice pl 128 cl) from fun W hb => ⟨hb, (HP.out.next hb).c0, (HP.out.next hb).c1⟩)
  have CL := Lib.hid (fun W (hb : Below w11.heap.size w11 W) (hr : ∀ j, j < 129 → W.cell? ⟨w11.heap.size, j, none⟩ = some (.int .i32 0)) => (ls_na (cf := cf) (cl := cl) 129 4 (by omega) (by omega) (by decide) (HN.out.next hb) w11.heap.size hr).mono fun e w' h => (⟨h.1, hb.trans (h.2.mono hb.size)⟩ : e = _ ∧ Below w11.heap.size w11 w'))
  have HMC := Lib.hid hmc
  clear hmc hMC
  go_upto_region 7 with fail
  go_cut [3, 4, 5] from 50 (fun s3 s4 s5 wc => s5 = .int .i64 4 ∧ Hid (Below w11.heap.size w11 wc))
  case first =>
    go_region_held3 (fun w' => Below w11.heap.size w11 w' ∧ w'.cell? ⟨w2.heap.size, 0, none⟩ = some (.slice pf 24 cf) ∧ w'.cell? ⟨w2.heap.size, 1, none⟩ = some (.slice pl 128 cl)) (first | exact KS.out _ (Below.refl _ _).drew | exact KS.out _ hacc | exact KS.out _ ((Below.refl _ _).drew.alloc (Nat.le_refl _) _) | exact KS.out _ (hacc.alloc hacc.size _)) (first | (go_at_call 10; refine (CL.out _ ((Below.refl _ _).drew.alloc (Nat.le_refl _) _) (HMC.out _)).mono ?_; rintro _ wq ⟨rfl, hacc⟩))
    all_goals
      (try go_wp2_with fail)
      go_meet
      exact ⟨rfl, hacc⟩
  case rest =>
  obtain ⟨rfl, HBc⟩ := hcut
  replace HN := Lib.hid (HN.out.next HBc.out)
  replace HP := Lib.hid (HP.out.next HBc.out)
  have HB12 := Lib.hid (HB11.out.trans (HBc.out.mono HB11.out.size))
  obtain ⟨w12, rfl⟩ : ∃ w12, w12 = wc := ⟨_, rfl⟩
  clear KS CL HMC hmk c0 c1 hlt HBc HB11
  obtain ⟨MC, hMC, hmk⟩ := run_zeros 128 (by omega)
  replace hmk : ∀ w : World, (Instr.makeSlice 33 (.int .i64 128) (.int .i64 128)).run Try.prog w = .ok (.slice (some ⟨w.heap.size, 0, none⟩) 128 128) (w.alloc (.cells MC 21)) := hmk
  have hmc : ∀ (W : World) j, j < 128 → (W.alloc (.cells MC 21)).cell? ⟨W.heap.size, j, none⟩ = some (.int .i32 0) := fun W j hj => by
    rw [← hMC j hj]; simp
  have KS := Lib.hid (show ∀ W, Below w12.heap.size w12 W → Below w12.heap.size w12 W ∧ W.cell? ⟨w2.heap.size, 0, none⟩ = some (.slice pf 24 cf) ∧ W.cell? ⟨w2.heap.size, 1, none⟩ = some (.slice pl 128 cl) from fun W hb => ⟨hb, (HP.out.next hb).c0, (HP.out.next hb).c1⟩)
  have CL := Lib.hid (fun W (hb : Below w12.heap.size w12 W) (hr : ∀ j, j < 128 → W.cell? ⟨w12.heap.size, j, none⟩ = some (.int .i32 0)) => (ls_na (cf := cf) (cl := cl) 128 5 (by omega) (by omega) (by decide) (HN.out.next hb) w12.heap.size hr).mono fun e w' h => (⟨h.1, hb.trans (h.2.mono hb.size)⟩ : e = _ ∧ Below w12.heap.size w12 w'))
  have HMC := Lib.hid hmc
  clear hmc hMC
  go_upto_region 8 with fail
  go_cut [6, 7, 8] from 57 (fun s3 s4 s5 wc => s5 = .int .i64 5 ∧ Hid (Below w12.heap.size w12 wc))
  case first =>
    go_region_held3 (fun w' => Below w12.heap.size w12 w' ∧ w'.cell? ⟨w2.heap.size, 0, none⟩ = some (.slice pf 24 cf) ∧ w'.cell? ⟨w2.heap.size, 1, none⟩ = some (.slice pl 128 cl)) (first | exact KS.out _ (Below.refl _ _).drew | exact KS.out _ hacc | exact KS.out _ ((Below.refl _ _).drew.alloc (Nat.le_refl _) _) | exact KS.out _ (hacc.alloc hacc.size _)) (first | (go_at_call 10; refine (CL.out _ ((Below.refl _ _).drew.alloc (Nat.le_refl _) _) (HMC.out _)).mono ?_; rintro _ wq ⟨rfl, hacc⟩))
    all_goals
      (try go_wp2_with fail)
      go_meet
      exact ⟨rfl, hacc⟩
  case rest =>
  obtain ⟨rfl, HBc⟩ := hcut
  replace HN := Lib.hid (HN.out.next HBc.out)
  replace HP := Lib.hid (HP.out.next HBc.out)
  have HB13 := Lib.hid (HB12.out.trans (HBc.out.mono HB12.out.size))
  obtain ⟨w13, rfl⟩ : ∃ w13, w13 = wc := ⟨_, rfl⟩
  clear KS CL HMC hmk HBc HB12
  clear HN HP
  go_wp2_with fail
  have HM := Lib.hid (RnIn.next (RnIn.made w13 mayN 21 #[.int .i32 97, .int .i32 122, .int .i32 65, .int .i32 90, .int .i32 161, .int .i32 55295, .int .i32 57344, .int .i32 65532, .int .i32 65534, .int .i32 1114111] rfl) ((Below.refl _ _).alloc (Nat.le_refl _) (.cells #[.int .i32 0, .int .i32 32, .int .i32 48, .int .i32 95, .int .i32 64, .int .i32 91, .int .i32 96, .int .i32 123, .int .i32 160, .int .i32 127, .int .i32 55296, .int .i32 57343, .int .i32 65533, .int .i32 1114112, .int .i32 (-1)] 21)))
  have HT := Lib.hid (RnIn.made (w13.alloc (.cells #[.int .i32 97, .int .i32 122, .int .i32 65, .int .i32 90, .int .i32 161, .int .i32 55295, .int .i32 57344, .int .i32 65532, .int .i32 65534, .int .i32 1114111] 21)) notN 21 #[.int .i32 0, .int .i32 32, .int .i32 48, .int .i32 95, .int .i32 64, .int .i32 91, .int .i32 96, .int .i32 123, .int .i32 160, .int .i32 127, .int .i32 55296, .int .i32 57343, .int .i32 65533, .int .i32 1114112, .int .i32 (-1)] rfl)
  have HBl := Lib.hid ((HB13.out.alloc HB13.out.size (.cells #[.int .i32 97, .int .i32 122, .int .i32 65, .int .i32 90, .int .i32 161, .int .i32 55295, .int .i32 57344, .int .i32 65532, .int .i32 65534, .int .i32 1114111] 21)).alloc (by simp; exact Nat.le_succ_of_le HB13.out.size) (.cells #[.int .i32 0, .int .i32 32, .int .i32 48, .int .i32 95, .int .i32 64, .int .i32 91, .int .i32 96, .int .i32 123, .int .i32 160, .int .i32 127, .int .i32 55296, .int .i32 57343, .int .i32 65533, .int .i32 1114112, .int .i32 (-1)] 21))
  go_loopw [11] (fun iv wr => ∃ k : Nat, iv = .int .i64 k ∧ k ≤ 10 ∧ Hid (RnIn w13.heap.size mayN wr) ∧ Hid (RnIn (w13.heap.size + 1) notN wr) ∧ Hid (Below w.heap.size w wr)) (fun iv _ => 10 - (intOf iv).toNat)
  case atStart => exact ⟨0, rfl, by omega, HM, by have := HT.out; simp only [World.size_alloc] at this; exact Lib.hid this, HBl⟩
  case round =>
    obtain ⟨k, rfl, hk, HM, HT, HB⟩ := hrel
    by_cases hkn : k < 10
    · obtain ⟨hm1, hm2⟩ := may_at ⟨k, hkn⟩
      have c0 := HM.out.2 k hkn
      obtain ⟨r, hr⟩ : ∃ r, r = mayN.getD k 0 := ⟨_, rfl⟩
      simp only [] at hm1 hm2
      rw [← hr] at hm1 hm2 c0
      have CK := Lib.hid (fun W => ck_one W r true hm2 hm1)
      clear hm1 hm2 hr
      go_wp2_with fail
      refine (CK.out _).mono ?_
      rintro e w2 ⟨rfl, hb⟩
      replace HM := Lib.hid (HM.out.next hb)
      replace HT := Lib.hid (HT.out.next hb)
      replace HB := Lib.hid (HB.out.trans (hb.mono HB.out.size))
      clear hb CK c0
      go_wp2_with fail
      exact ⟨⟨k + 1, by go_num, by omega, HM, HT, HB⟩, by simp [intOf]; omega⟩
    · obtain rfl : k = 10 := by omega
      clear HM
      go_wp2_with fail
      go_loopw [12] (fun iv wr => ∃ k : Nat, iv = .int .i64 k ∧ k ≤ 15 ∧ Hid (RnIn (w13.heap.size + 1) notN wr) ∧ Hid (Below w.heap.size w wr)) (fun iv _ => 15 - (intOf iv).toNat)
      case atStart => exact ⟨0, rfl, by omega, HT, HB⟩
      case round =>
        obtain ⟨k, rfl, hk, HT, HB⟩ := hrel
        by_cases hkn : k < 15
        · obtain ⟨hm1, hm2⟩ := not_at ⟨k, hkn⟩
          have c0 := HT.out.2 k hkn
          obtain ⟨r, hr⟩ : ∃ r, r = notN.getD k 0 := ⟨_, rfl⟩
          simp only [] at hm1 hm2
          rw [← hr] at hm1 hm2 c0
          have CK := Lib.hid (fun W => ck_one W r false hm2 hm1)
          clear hm1 hm2 hr
          go_wp2_with fail
          refine (CK.out _).mono ?_
          rintro e w20 ⟨rfl, hb⟩
          replace HT := Lib.hid (HT.out.next hb)
          replace HB := Lib.hid (HB.out.trans (hb.mono HB.out.size))
          clear hb CK c0
          go_wp2_with fail
          refine ⟨?_, by simp [intOf]; omega⟩
          exact ⟨_, _, _, _, _, _, _, _, _, _, _, _, _, _, _, _, _, ⟨k + 1, by go_num, by omega, HT, HB⟩, rfl⟩
        · obtain rfl : k = 15 := by omega
          clear HT
          obtain ⟨MC, hMC, hmk⟩ := run_zb
          obtain ⟨M, hM⟩ : ∃ M, M = wr.heap.size := ⟨_, rfl⟩
          have HG := Lib.hid (show LgIn M 0 (wr.alloc (.cells MC 5)) from by
            subst hM
            exact LgIn.made wr MC 5 hMC)
          have HBl := Lib.hid (HB.out.alloc HB.out.size (.cells MC 5))
          have hMw : w.heap.size ≤ M := by rw [hM]; exact HB.out.size
          clear HB hMC
          go_wp2_with fail
          go_loopw [14] (fun iv wr => ∃ k : Nat, iv = .int .i64 k ∧ k ≤ 33 ∧ Hid (LgIn M k wr) ∧ Hid (Below w.heap.size w wr)) (fun iv _ => 33 - (intOf iv).toNat)
          case atStart => exact ⟨0, rfl, by omega, HG, HBl⟩
          case round =>
            clear HG HBl
            obtain ⟨k, rfl, hk, HG, HB⟩ := hrel
            rw [← hM]
            clear hM
            by_cases hkn : k < 33
            · have f0 := HG.out.2.2 k hkn
              have c0 := HG.out.2.1 k hkn
              rw [if_neg (by omega)] at c0
              go_wp2_with fail
              go_roundw
              case rel => exact ⟨k + 1, by go_num, by omega, HG.out.set hkn, HB.out.setCell hMw _⟩
              case measure => simp [intOf]; omega
            · obtain rfl : k = 33 := by omega
              have hG1 := HG.out.next ((Below.refl _ _).alloc (Nat.le_refl _) (.cells #[.int .i32 97, .int .u32 0, .int .u32 0] 35))
              have hc32 := conv_long hG1 32 (by omega)
              have HL := Lib.hid (show LsIn (some ⟨wr.heap.size, 0, none⟩) wr.heap.size 0 [⟨97, 0, 0⟩] (wr.alloc (.cells #[.int .i32 97, .int .u32 0, .int .u32 0] 35)) from li_one (by simp) (by simp) (by simp) ⟨by decide, by decide, by decide, by decide⟩)
              have HG2 := Lib.hid hG1
              have HBl := Lib.hid (HB.out.alloc HB.out.size (.cells #[.int .i32 97, .int .u32 0, .int .u32 0] 35))
              obtain ⟨bl, hbl⟩ : ∃ bl, bl = wr.heap.size := ⟨_, rfl⟩
              rw [← hbl] at HL
              clear hG1 HG HB
              go_wp2_with fail
              have hA2 : Below (wr.alloc (.cells #[.int .i32 97, .int .u32 0, .int .u32 0] 35)).heap.size (wr.alloc (.cells #[.int .i32 97, .int .u32 0, .int .u32 0] 35)) ((wr.alloc (.cells #[.int .i32 97, .int .u32 0, .int .u32 0] 35)).alloc (.cells #[.string (xN 32), .string ⟨#[121]⟩] 9)) := (Below.refl _ _).alloc (Nat.le_refl _) _
              have hg := (ck_lit 2 1 rfl rfl (fi_two (w := (wr.alloc (.cells #[.int .i32 97, .int .u32 0, .int .u32 0] 35)).alloc (.cells #[.string (xN 32), .string ⟨#[121]⟩] 9)) (b := wr.heap.size + 1) (x := xN 32) (y := ⟨#[121]⟩) (by simp) (by simp) (by decide) (by decide)) (HL.out.next hA2) (cl := 1) true good_n)
              rw [hbl] at hg HL
              clear hc32 hbl
              refine hg.mono ?_
              rintro e w21 ⟨rfl, hb⟩
              have hb' := hA2.trans (hb.mono hA2.size)
              replace HL := Lib.hid (HL.out.next hb')
              have hG3 := HG2.out.next hb'
              have HB := Lib.hid (HBl.out.trans (hb'.mono HBl.out.size))
              have hc33 := conv_long hG3 33 (by omega)
              clear hb hb' hA2 hg HG2 hG3 HBl
              obtain ⟨bl, hbl⟩ : ∃ bl, bl = wr.heap.size := ⟨_, rfl⟩
              rw [← hbl] at HL ⊢
              clear hbl
              have HS := Lib.hid (StIn.made w21 nmN 9 #[.string (xN 33), .string ⟨#[]⟩, .string ⟨#[65]⟩, .string ⟨#[97, 49]⟩, .string ⟨#[195, 169]⟩, .string ⟨#[97, 32, 98]⟩] rfl)
              have hA3 : Below w21.heap.size w21 (w21.alloc (.cells #[.string (xN 33), .string ⟨#[]⟩, .string ⟨#[65]⟩, .string ⟨#[97, 49]⟩, .string ⟨#[195, 169]⟩, .string ⟨#[97, 32, 98]⟩] 9)) := (Below.refl _ _).alloc (Nat.le_refl _) _
              replace HL := Lib.hid (HL.out.next hA3)
              replace HB := Lib.hid (HB.out.trans (hA3.mono HB.out.size))
              clear hA3
              go_wp2_with fail
              go_loopw [18] (fun iv wr => ∃ k : Nat, iv = .int .i64 k ∧ k ≤ 6 ∧ Hid (StIn w21.heap.size nmN wr) ∧ Hid (LsIn (some ⟨bl, 0, none⟩) bl 0 [⟨97, 0, 0⟩] wr) ∧ Hid (Below w.heap.size w wr)) (fun iv _ => 6 - (intOf iv).toNat)
              case atStart => exact ⟨0, rfl, by omega, HS, HL, HB⟩
              case round =>
                clear HS HL HB hc33
                obtain ⟨k, rfl, hk, HS, HL, HB⟩ := hrel
                by_cases hkn : k < 6
                · obtain ⟨hm1, hm2⟩ := nm_at ⟨k, hkn⟩
                  have a0 := HS.out.2 k hkn
                  obtain ⟨x, hx⟩ : ∃ x, x = nmN.getD k ByteArray.empty := ⟨_, rfl⟩
                  simp only [] at hm1 hm2
                  rw [← hx] at hm1 hm2 a0
                  have CK := Lib.hid (fun c (hc : 1 ≤ c) => ck_lit (cf := c) (cl := 1) 1 1 rfl rfl (fi_one a0 hc hm2) HL.out false hm1)
                  clear hm1 hm2 hx a0
                  go_wp2_with fail
                  refine (CK.out (6 - k) (by omega)).mono ?_
                  rintro e w22 ⟨rfl, hb⟩
                  replace HS := Lib.hid (HS.out.next hb)
                  replace HL := Lib.hid (HL.out.next hb)
                  replace HB := Lib.hid (HB.out.trans (hb.mono HB.out.size))
                  clear hb CK
                  go_wp2_with fail
                  refine ⟨?_, by simp [intOf]; omega⟩
                  first
                    | exact ⟨k + 1, by go_num, by omega, HS, HL, HB⟩
                    | exact ⟨_, _, _, _, _, _, _, _, _, _, _, _, _, _, _, _, _, ⟨k + 1, by go_num, by omega, HS, HL, HB⟩, rfl⟩
                · obtain rfl : k = 6 := by omega
                  clear HS
                  go_wp2_with fail
                  have hA1 : Below wr.heap.size wr (wr.alloc (.cells #[.string ⟨#[120]⟩, .string ⟨#[120]⟩] 9)) := (Below.refl _ _).alloc (Nat.le_refl _) _
                  refine (ck_lit 2 1 rfl rfl (fi_two (b := wr.heap.size) (x := ⟨#[120]⟩) (y := ⟨#[120]⟩) (by simp) (by simp) (by decide) (by decide)) (HL.out.next hA1) (cl := 1) false twice_n).mono ?_
                  rintro e w23 ⟨rfl, hb⟩
                  have HB2 := Lib.hid (HB.out.trans ((hA1.trans (hb.mono hA1.size)).mono HB.out.size))
                  clear hb HL HB hA1
                  go_wp2_with fail
                  have hA1 : Below w23.heap.size w23 (w23.alloc (.cells #[.int .i32 97, .int .u32 0, .int .u32 0, .int .i32 97, .int .u32 0, .int .u32 0] 35)) := (Below.refl _ _).alloc (Nat.le_refl _) _
                  refine (ck_lit 0 2 rfl rfl (fi_none _) (li_two (b := w23.heap.size) (fun j hj => by simp)) (cl := 2) false both_n).mono ?_
                  rintro e w24 ⟨rfl, hb⟩
                  have HB := Lib.hid (HB2.out.trans ((hA1.trans (hb.mono hA1.size)).mono HB2.out.size))
                  clear hb HB2 hA1
                  go_wp2_with fail
                  have hA1 : Below w24.heap.size w24 ((w24.alloc (.cells #[.string ⟨#[120]⟩] 9)).alloc (.cells #[.int .i32 97, .int .u32 1, .int .u32 1] 35)) := ((Below.refl _ _).alloc (Nat.le_refl _) _).alloc (by simp) _
                  refine (ck_lit 1 1 rfl rfl (fi_one (b := w24.heap.size) (o := 0) (c := 1) (x := ⟨#[120]⟩) (by simp) (by decide) (by decide)) (li_one (b := w24.heap.size + 1) (r := 97) (p := 1) (m := 1) (by simp) (by simp) (by simp) ⟨by decide, by decide, by decide, by decide⟩) (cl := 1) false one_n).mono ?_
                  rintro e w25 ⟨rfl, hb⟩
                  have HB2 := Lib.hid (HB.out.trans ((hA1.trans (hb.mono hA1.size)).mono HB.out.size))
                  clear hb HB hA1
                  go_wp2_with fail
                  have hA1 : Below w25.heap.size w25 ((w25.alloc (.cells #[.string ⟨#[120]⟩] 9)).alloc (.cells #[.int .i32 97, .int .u32 2, .int .u32 0] 35)) := ((Below.refl _ _).alloc (Nat.le_refl _) _).alloc (by simp) _
                  refine (ck_lit 1 1 rfl rfl (fi_one (b := w25.heap.size) (o := 0) (c := 1) (x := ⟨#[120]⟩) (by simp) (by decide) (by decide)) (li_one (b := w25.heap.size + 1) (r := 97) (p := 2) (m := 0) (by simp) (by simp) (by simp) ⟨by decide, by decide, by decide, by decide⟩) (cl := 1) false two_n).mono ?_
                  rintro e w26 ⟨rfl, hb⟩
                  have HB := Lib.hid (HB2.out.trans ((hA1.trans (hb.mono hA1.size)).mono HB2.out.size))
                  clear hb HB2 hA1
                  go_wp2_with fail
                  go_ret
                  exact ⟨rfl, HB.out⟩
end Go.Proofs.Ytmbekgfbnapelaa
