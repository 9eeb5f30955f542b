/-
  WALKS OF THE PROGRAM's runes.showsItself, putShown: what a piece shows.
-/
import Derived.Test.YtmbekgfbnapelaaDoorHex
import Derived.Deep.RegionLaw
import Derived.Deep.AppendLies
namespace Go.Proofs.YtmbekgfbnapelaaDoor
open Go.RowKit Go.Lib
set_option linter.unusedVariables false

/-! ### plain -/
/-- What a piece shows. -/
def shownL (s : ByteArray) (p : Nat) : List UInt8 :=
  if brk s p then [92, 120, hexc ((s.get! p).toNat / 16), hexc ((s.get! p).toNat % 16)]
  else if dR s p = 34 ∨ dR s p = 92 then [92, s.get! p]
  else if 32 ≤ dR s p ∧ dR s p ≤ 126 then [s.get! p]
  else [92, 117] ++ hexL (dR s p) ++ [59]
theorem shown_brk {s : ByteArray} {p : Nat} (h : brk s p = true) : shownL s p = [92, 120, hexc ((s.get! p).toNat / 16), hexc ((s.get! p).toNat % 16)] := by simp [shownL, h]
theorem shown_esc {s : ByteArray} {p : Nat} (h : brk s p = false) (h2 : dR s p = 34 ∨ dR s p = 92) : shownL s p = [92, s.get! p] := by simp [shownL, h, h2]
theorem shown_self {s : ByteArray} {p : Nat} (h : brk s p = false) (h2 : ¬ (dR s p = 34 ∨ dR s p = 92)) (h3 : 32 ≤ dR s p ∧ dR s p ≤ 126) : shownL s p = [s.get! p] := by simp [shownL, h, h2, h3]
theorem shown_u {s : ByteArray} {p : Nat} (h : brk s p = false) (h2 : ¬ (dR s p = 34 ∨ dR s p = 92)) (h3 : ¬ (32 ≤ dR s p ∧ dR s p ≤ 126)) : shownL s p = [92, 117] ++ hexL (dR s p) ++ [59] := by simp [shownL, h, h2, h3]
theorem hexF_length (f n : Nat) : (hexF f n).length ≤ f + 1 := by
  induction f generalizing n with
  | zero => simp [hexF]
  | succ f ih =>
    unfold hexF
    split
    · simp
    · have := ih (n / 16)
      simp; omega
theorem shownL_length (s : ByteArray) (p : Nat) : 1 ≤ (shownL s p).length ∧ (shownL s p).length ≤ 11 := by
  have := hexF_length 7 (dR s p)
  unfold shownL hexL
  repeat' split
  all_goals simp
  omega

/-! ### the frame of a function that appends -/
/-- l put behind xs: in a slice of the call's own; no block that is no row of bytes has turned. -/
def App (B n : Nat) (xs : List Value) (l : List UInt8) (w : World) (f : Value → Ending) (e : Ending) (w' : World) : Prop :=
  ∃ v', e = f v' ∧ w'.ownsRow B 5 1 v' (n + l.length) (xs ++ byteCells l) ∧ Below B w w' ∧ OthersKept 5 none w w'

theorem own_kind {w : World} {B n : Nat} {v : Value} {xs : List Value} (h : w.ownsRow B 5 1 v n xs) : ∀ g, v.ownBlock = some g → ∃ c fz, w.heap[g]? = some (.cells c 5 fz) := by
  intro g hg
  rcases h.2 with ⟨rfl, _⟩ | ⟨g', cap, cur, rfl, _, hgg, _⟩
  · simp [Value.ownBlock] at hg
  · simp [Value.ownBlock] at hg
    subst hg
    exact ⟨cur, _, hgg⟩
theorem others_below {w w' : World} (h : Below w.heap.size w w') : OthersKept 5 none w w' := fun k o hk _ _ => (h.block k (lt_of_block hk)).trans hk
/-- One append: behind new blocks (wm) the row has grown. -/
theorem app_of {B n m : Nat} {xs : List Value} {l : List UInt8} {w wm w' : World} {v v' : Value} {f : Value → Ending} (hB : B ≤ w.heap.size) (hown : w.ownsRow B 5 1 v n xs) (hm : Below w.heap.size w wm)
    (hown' : w'.ownsRow B 5 1 v' m (xs ++ byteCells l)) (hl : m = n + l.length) (hg : wm.grownBy w' v.ownBlock) : App B n xs l w f (f v') w' := by
  subst hl
  have hz := hm.size
  refine ⟨v', rfl, hown', (hm.mono hB).grown hg (by omega) (fun k hk => (hown.lt k hk).1), (others_below hm).grown hg (own_kind (own_below hown hm))⟩
theorem App.of_post {B n : Nat} {xs : List Value} {l : List UInt8} {w w' : World} {v : Value} {f : Value → Ending} {e : Ending} (hB : B ≤ w.heap.size) (hown : w.ownsRow B 5 1 v n xs) (h : AppPost B n xs l w v f e w') : App B n xs l w f e w' := by
  obtain ⟨v', rfl, h1, ⟨wm, h2, h3, h4⟩, _⟩ := h
  exact app_of hB hown h2 h1 rfl h4
theorem others_alloc {w w' : World} (h : OthersKept 5 none w w') (o : Obj) : OthersKept 5 none w (w'.alloc o) := h.alloc o

theorem six_at (n : Nat) (h : n < 16) (h' : n < (⟨#[48, 49, 50, 51, 52, 53, 54, 55, 56, 57, 97, 98, 99, 100, 101, 102]⟩ : ByteArray).size) : (⟨#[48, 49, 50, 51, 52, 53, 54, 55, 56, 57, 97, 98, 99, 100, 101, 102]⟩ : ByteArray)[n]'h' = hexc n := by
  match n, h with
  | 0, _ => rfl | 1, _ => rfl | 2, _ => rfl | 3, _ => rfl | 4, _ => rfl | 5, _ => rfl | 6, _ => rfl | 7, _ => rfl
  | 8, _ => rfl | 9, _ => rfl | 10, _ => rfl | 11, _ => rfl | 12, _ => rfl | 13, _ => rfl | 14, _ => rfl | 15, _ => rfl
  | n + 16, h => omega
theorem band_u8 (b : Nat) (h : b < 256) : bits BinOp.and IntKind.u8 (b : Int) 15 = ((b % 16 : Nat) : Int) := by
  have := u8_and_nat b 15 h (by omega)
  rw [nat_mask4] at this
  exact this

/-- A sixteen out of the program's table. -/
theorem six_run (n : Nat) (h : n < 16) (i : Int) (hi : i = (n : Int)) (wx : World) :
    (Instr.index 9 (.string ⟨#[48, 49, 50, 51, 52, 53, 54, 55, 56, 57, 97, 98, 99, 100, 101, 102]⟩) (.int .u8 i)).run Tryd.prog wx = .ok (.int .u8 ((hexc n).toNat : Nat)) wx := by
  subst hi
  have h2 : (0 : Int) ≤ (n : Int) ∧ (n : Int) < ((⟨#[48, 49, 50, 51, 52, 53, 54, 55, 56, 57, 97, 98, 99, 100, 101, 102]⟩ : ByteArray).size : Int) := ⟨by omega, by show (n : Int) < 16; omega⟩
  rw [run_index_string (P := Tryd.prog) wx 9 _ .u8 (n : Int) Tryd.underlying9]
  rw [dif_pos h2]
  exact congrArg (fun x : UInt8 => Result.ok (Value.int .u8 ((x.toNat : Nat) : Int)) wx) (six_at n h _)

set_option maxHeartbeats 2000000 in
theorem put_brk (B n : Nat) (v : Value) (xs : List Value) (s : ByteArray) (p : Nat) (w : World) (hown : w.ownsRow B 5 1 v n xs) (hn : n ≤ 536870912) (hB : B ≤ w.heap.size) (hb : brk s p = true) :
    Calls Tryd.prog 43 #[v, pieceV s p, .int .u8 (s.get! p).toNat] w (App B n xs (shownL s p) w .returned) := by
  obtain ⟨i0, hi, hz0, hz1, hz2⟩ := info_parts byte_info
  obtain ⟨o, c, rfl⟩ := own_shape hown
  have HO := Lib.hid hown
  have HS := Lib.hid (shown_brk hb)
  obtain ⟨b, hbb⟩ : ∃ b, b = (s.get! p).toNat := ⟨_, rfl⟩
  have hb256 : b < 256 := by rw [hbb]; exact get_u8 s p
  rw [← hbb] at HS ⊢
  unfold pieceV
  rw [hb]
  have hba := band_u8 b hb256
  have hx1 := six_run (b / 16) (by omega) ((b : Int) / 16) (by omega)
  have hx2 := six_run (b % 16) (by omega) ((b : Int) % 16) (by omega)
  obtain ⟨X1, hX1⟩ : ∃ X1 : Int, X1 = ((hexc (b / 16)).toNat : Nat) := ⟨_, rfl⟩
  obtain ⟨X2, hX2⟩ : ∃ X2 : Int, X2 = ((hexc (b % 16)).toNat : Nat) := ⟨_, rfl⟩
  rw [← hX1] at hx1
  rw [← hX2] at hx2
  have hcs : byteCells [92, 120, hexc (b / 16), hexc (b % 16)] = [.int .u8 92, .int .u8 120, .int .u8 X1, .int .u8 X2] := by rw [hX1, hX2]; rfl
  have HCs := Lib.hid hcs
  have hbo : Below w.heap.size w (w.alloc (.cells #[.int .i32 (dR s p), .int .i64 p, .int .i64 (dW s p), .bool true] 85)) := (Below.refl _ _).alloc (Nat.le_refl _) _
  have HBo := Lib.hid hbo
  clear hbo hown hbb hb hX1 hX2 hcs
  go_enter Tryd.func43, Tryd.ntmps43
  go_wp2_with fail
  obtain ⟨W1, hW1⟩ : ∃ W1, W1 = w.alloc (.cells #[.int .i32 (dR s p), .int .i64 p, .int .i64 (dW s p), .bool true] 85) := ⟨_, rfl⟩
  rw [← hW1] at HBo ⊢
  have hz1' := HBo.out.size
  have hrow : Hid (∀ O, ((W1.alloc O).drew).ownsRow B 5 1 (.slice o n c) n xs) := fun O => (own_below HO.out HBo.out).alloc O
  have hnews : Hid (∀ j u, (byteCells [92, 120, hexc (b / 16), hexc (b % 16)])[j]? = some u → ((W1.alloc (.cells #[.int .u8 92, .int .u8 120, .int .u8 X1, .int .u8 X2] 5)).drew).cell? ((⟨W1.heap.size, 0, none⟩ : Addr).add j) = some u) := by
    show ∀ j u, _ → _
    rw [HCs.out]
    exact cells_lit W1 [_, _, _, _] _
  have hbase : Hid (∀ O, B ≤ ((W1.alloc O).drew).heap.size) := fun O => by show B ≤ (W1.alloc O).heap.size; simp; omega
  have hm1 : Hid (n + 4 ≤ maxLen) := by show n + 4 ≤ maxLen; unfold maxLen; omega
  have hm2 : Hid ((n + 4) * 1 ≤ 140737488355328) := by show (n + 4) * 1 ≤ _; omega
  clear hW1
  go_region_law (refine step_append_lies _ rfl (.tmp 10) (.tmp 17) 60 rfl B 5 i0 (.int .u8 0) 1 1 Tryd.underlying60 hi hz0 hz1 hz2 rfl (by decide) (.slice o n c) n xs (by simp [Act.eval]) (hrow.out _) ⟨W1.heap.size, 0, none⟩ 4 4 (byteCells [92, 120, hexc (b / 16), hexc (b % 16)]) (by simp [Act.eval]) rfl hnews.out (byteCells_one _) (by decide) hm1.out hm2.out (hbase.out _) _ rfl ?_; intro g cap w3 hown3 hgrow3 hob3 hlt3)
  all_goals
    have hfin : App B n xs (shownL s p) w .returned (.returned (.slice (some ⟨g, 0, none⟩) (n + 4) cap)) w3 := by
      rw [HS.out]
      exact app_of hB HO.out ((HBo.out.alloc hz1' _).drew) hown3 rfl hgrow3
    have HF := Lib.hid hfin
    clear hown3 hgrow3 hob3 hfin hrow hnews hbase
    go_wp2_with fail
    go_ret
    exact HF.out

/-- The tables, and the library's count of trailing noughts of 16. -/
def Tabs2 (w : World) : Prop := Tabs w ∧ w.cell? ⟨4, 15, none⟩ = some (.int .u8 4)
def GB (B : Nat) : Prop := 0 < B ∧ 1 < B ∧ 4 < B
theorem Tabs2.below {w w' : World} {B : Nat} (h : Tabs2 w) (hB : GB B) (hb : Below B w w') : Tabs2 w' :=
  ⟨h.1.below ⟨hB.1, hB.2.1⟩ hb, (hb.cell (p := ⟨4, 15, none⟩) hB.2.2).trans h.2⟩
theorem Tabs2.gb {w : World} (h : Tabs2 w) : GB w.heap.size := ⟨h.1.2.1, h.1.2.2, World.block_lt_of_cell? _ _ h.2⟩
theorem Tabs2.next {w w' : World} (h : Tabs2 w) (hb : Below w.heap.size w w') : Tabs2 w' := h.below h.gb hb

theorem cells_lit1 (w : World) (O : Obj) (l : List Value) (t : TypeId) : ∀ j u, l[j]? = some u → ((w.alloc O).alloc (.cells l.toArray t)).cell? ((⟨w.heap.size + 1, 0, none⟩ : Addr).add j) = some u := by
  intro j u hj
  have h := cells_lit (w.alloc O) l t j u hj
  rwa [show (w.alloc O).heap.size = w.heap.size + 1 by simp] at h
def showsB (r : Int) : Bool := decide (32 ≤ r ∧ r ≤ 126)
set_option maxHeartbeats 400000 in
theorem shows_any (r : Int) (w : World) : Calls Tryd.prog 71 #[.int .i32 r] w fun e w' => e = .returned (.bool (showsB r)) ∧ w = w' := by
  by_cases h1 : 32 ≤ r
  · by_cases h2 : r ≤ 126
    · have H : Hid (showsB r = true) := decide_eq_true ⟨h1, h2⟩
      go_enter Tryd.func71, Tryd.ntmps71
      go_wp2
      go_ret
      exact ⟨ret_b H.out.symm, rfl⟩
    · have H : Hid (showsB r = false) := decide_eq_false (by omega)
      go_enter Tryd.func71, Tryd.ntmps71
      go_wp2
      go_ret
      exact ⟨ret_b H.out.symm, rfl⟩
  · have H : Hid (showsB r = false) := decide_eq_false (by omega)
    go_enter Tryd.func71, Tryd.ntmps71
    go_wp2
    go_ret
    exact ⟨ret_b H.out.symm, rfl⟩
theorem shows_is (r : Int) (b : Bool) (w : World) (h : showsB r = b) : Calls Tryd.prog 71 #[.int .i32 r] w fun e w' => e = .returned (.bool b) ∧ w = w' := by
  rw [← h]; exact shows_any r w

set_option maxHeartbeats 2000000 in
theorem put_esc (B n : Nat) (v : Value) (xs : List Value) (s : ByteArray) (p : Nat) (w : World) (hown : w.ownsRow B 5 1 v n xs) (hn : n ≤ 536870912) (hB : B ≤ w.heap.size) (hb : brk s p = false) (h2 : dR s p = 34 ∨ dR s p = 92) :
    Calls Tryd.prog 43 #[v, pieceV s p, .int .u8 (s.get! p).toNat] w (App B n xs (shownL s p) w .returned) := by
  obtain ⟨i0, hi, hz0, hz1, hz2⟩ := info_parts byte_info
  obtain ⟨o, c, rfl⟩ := own_shape hown
  have HO := Lib.hid hown
  have HS := Lib.hid (shown_esc hb h2)
  unfold pieceV
  rw [hb]
  obtain ⟨R, hR⟩ : ∃ R, R = dR s p := ⟨_, rfl⟩
  obtain ⟨y, hy⟩ : ∃ y, y = s.get! p := ⟨_, rfl⟩
  rw [← hR] at h2 ⊢
  rw [← hy] at HS ⊢
  have hbo : Hid (∀ O, Below w.heap.size w (w.alloc O)) := fun O => (Below.refl _ _).alloc (Nat.le_refl _) _
  clear hown hb hR hy
  rcases h2 with rfl | rfl
  all_goals
    go_enter Tryd.func43, Tryd.ntmps43
    go_wp2_with (at_builtin; refine wpList_append_own _ rfl (.tmp 28) (.tmp 30) 60 rfl B 5 i0 (.int .u8 0) 1 1 Tryd.underlying60 hi hz0 hz1 hz2 rfl (by decide) (.slice o n c) n xs rfl ((HO.out.alloc _).alloc _) ⟨w.heap.size + 1, 0, none⟩ _ _ (byteCells [92, y]) rfl ?_ ?_ (byteCells_one _) ?_ ?_ ?_ ?_)
    · rfl
    · exact cells_lit1 w _ (byteCells [92, y]) _
    · unfold maxLen; omega
    · omega
    · simp; omega
    · intro v3 w3 hown3 hgrow3 hnil3
      have hfin : App B n xs (shownL s p) w .returned (.returned v3) w3 := by
        rw [HS.out]
        exact app_of hB HO.out ((hbo.out _).alloc (by simp) _) hown3 rfl hgrow3
      have HF := Lib.hid hfin
      obtain ⟨o3, c3, rfl⟩ := own_shape hown3
      clear hown3 hgrow3 hnil3 hfin
      go_wp2_with fail
      go_ret
      exact HF.out

set_option maxHeartbeats 2000000 in
theorem put_self (B n : Nat) (v : Value) (xs : List Value) (s : ByteArray) (p : Nat) (w : World) (hown : w.ownsRow B 5 1 v n xs) (hn : n ≤ 536870912) (hB : B ≤ w.heap.size) (hb : brk s p = false) (h2 : ¬ (dR s p = 34 ∨ dR s p = 92)) (h3 : 32 ≤ dR s p ∧ dR s p ≤ 126) :
    Calls Tryd.prog 43 #[v, pieceV s p, .int .u8 (s.get! p).toNat] w (App B n xs (shownL s p) w .returned) := by
  obtain ⟨i0, hi, hz0, hz1, hz2⟩ := info_parts byte_info
  obtain ⟨o, c, rfl⟩ := own_shape hown
  have HO := Lib.hid hown
  have HS := Lib.hid (shown_self hb h2 h3)
  have HSh : Hid (showsB (dR s p : Int) = true) := decide_eq_true (by omega)
  unfold pieceV
  rw [hb]
  obtain ⟨R, hR⟩ : ∃ R, R = dR s p := ⟨_, rfl⟩
  obtain ⟨y, hy⟩ : ∃ y, y = s.get! p := ⟨_, rfl⟩
  rw [← hR] at h2 h3 HSh ⊢
  rw [← hy] at HS ⊢
  have g1 : ((R : Int) == 34) = false := by rw [beq_eq_false_iff_ne]; omega
  have g2 : ((R : Int) == 92) = false := by rw [beq_eq_false_iff_ne]; omega
  have hbo : Hid (∀ O, Below w.heap.size w (w.alloc O)) := fun O => (Below.refl _ _).alloc (Nat.le_refl _) _
  clear hown hb hR hy h2 h3
  go_enter Tryd.func43, Tryd.ntmps43
  go_wp2_with fail
  refine (shows_is _ true _ HSh.out).mono ?_
  rintro e w1 ⟨rfl, rfl⟩
  go_wp2_with (at_builtin; refine wpList_append_own _ rfl (.tmp 36) (.tmp 38) 60 rfl B 5 i0 (.int .u8 0) 1 1 Tryd.underlying60 hi hz0 hz1 hz2 rfl (by decide) (.slice o n c) n xs rfl ((HO.out.alloc _).alloc _) ⟨w.heap.size + 1, 0, none⟩ _ _ (byteCells [y]) rfl ?_ ?_ (byteCells_one _) ?_ ?_ ?_ ?_)
  · rfl
  · exact cells_lit1 w _ (byteCells [y]) _
  · unfold maxLen; omega
  · omega
  · simp; omega
  · intro v3 w3 hown3 hgrow3 hnil3
    have hfin : App B n xs (shownL s p) w .returned (.returned v3) w3 := by
      rw [HS.out]
      exact app_of hB HO.out ((hbo.out _).alloc (by simp) _) hown3 rfl hgrow3
    have HF := Lib.hid hfin
    obtain ⟨o3, c3, rfl⟩ := own_shape hown3
    clear hown3 hgrow3 hnil3 hfin
    go_wp2_with fail
    go_ret
    exact HF.out

/-- One piece of bytes behind another. -/
theorem App.trans {B n : Nat} {xs : List Value} {l m : List UInt8} {w w1 w2 : World} {f : Value → Ending} {e : Ending} {v1 : Value} (_h0 : True) (h1 : w1.ownsRow B 5 1 v1 (n + l.length) (xs ++ byteCells l) ∧ Below B w w1 ∧ OthersKept 5 none w w1)
    (h2 : App B (n + l.length) (xs ++ byteCells l) m w1 f e w2) : App B n xs (l ++ m) w f e w2 := by
  obtain ⟨v', he, h3, h4, h5⟩ := h2
  refine ⟨v', he, ?_, h1.2.1.trans h4, h1.2.2.trans h5⟩
  rw [List.length_append, byteCells_append, ← List.append_assoc, ← Nat.add_assoc]
  exact h3

set_option maxHeartbeats 4000000 in
theorem put_u (B n : Nat) (v : Value) (xs : List Value) (s : ByteArray) (p : Nat) (w : World) (hown : w.ownsRow B 5 1 v n xs) (hn : n ≤ 536870912) (hB : B ≤ w.heap.size) (hT : Tabs2 w) (hG : GB B) (hb : brk s p = false) (h2 : ¬ (dR s p = 34 ∨ dR s p = 92)) (h3 : ¬ (32 ≤ dR s p ∧ dR s p ≤ 126)) :
    Calls Tryd.prog 43 #[v, pieceV s p, .int .u8 (s.get! p).toNat] w (App B n xs (shownL s p) w .returned) := by
  obtain ⟨i0, hi, hz0, hz1, hz2⟩ := info_parts byte_info
  obtain ⟨o, c, rfl⟩ := own_shape hown
  have HO := Lib.hid hown
  have HS := Lib.hid (shown_u hb h2 h3)
  have HSh : Hid (showsB (dR s p : Int) = false) := decide_eq_false (by omega)
  have hRl := dR_le s p
  unfold pieceV
  rw [hb]
  obtain ⟨R, hR⟩ : ∃ R, R = dR s p := ⟨_, rfl⟩
  obtain ⟨y, hy⟩ : ∃ y, y = s.get! p := ⟨_, rfl⟩
  rw [← hR] at h2 h3 HSh hRl HS ⊢
  rw [← hy]
  have g1 : ((R : Int) == 34) = false := by rw [beq_eq_false_iff_ne]; omega
  have g2 : ((R : Int) == 92) = false := by rw [beq_eq_false_iff_ne]; omega
  have hbo : Hid (∀ O, Below w.heap.size w (w.alloc O)) := fun O => (Below.refl _ _).alloc (Nat.le_refl _) _
  have HT := Lib.hid hT; have HG := Lib.hid hG
  clear hown hb hR hy h2 h3 hT hG
  go_enter Tryd.func43, Tryd.ntmps43
  go_wp2_with fail
  refine (shows_is _ false _ HSh.out).mono ?_
  rintro e w1 ⟨rfl, rfl⟩
  go_wp2_with (at_builtin; refine wpList_append_own _ rfl (.tmp 40) (.tmp 41) 60 rfl B 5 i0 (.int .u8 0) 1 1 Tryd.underlying60 hi hz0 hz1 hz2 rfl (by decide) (.slice o n c) n xs rfl ((HO.out.alloc _).alloc _) ⟨w.heap.size + 1, 0, none⟩ _ _ (byteCells [92, 117]) rfl ?_ ?_ (byteCells_one _) ?_ ?_ ?_ ?_)
  · rfl
  · exact cells_lit1 w _ (byteCells [92, 117]) _
  · unfold maxLen; omega
  · omega
  · simp; omega
  intro v3 w3 hown3 hgrow3 hnil3
  have h1 := app_of (f := .returned) hB HO.out ((hbo.out (.cells #[.int .i32 R, .int .i64 p, .int .i64 (dW s p), .bool false] 85)).alloc (by simp) _) hown3 rfl hgrow3
  obtain ⟨_, he, ho1, hb1, hk1⟩ := h1
  cases he
  have hc1 : w3.cell? ⟨w.heap.size, 0, none⟩ = some (.int .i32 R) := by
    refine hgrow3.cell (by simp) ?_
    intro e
    have h9 : w.heap.size < w.heap.size := (HO.out.lt _ e.symm).2
    omega
  have hz3 := hb1.size
  obtain ⟨o3, c3, rfl⟩ := own_shape hown3
  have H1 := Lib.hid (And.intro ho1 (And.intro hb1 hk1))
  have HT3 := Lib.hid (HT.out.below HG.out hb1)
  clear hown3 hgrow3 hnil3 ho1 hb1 hk1
  go_wp2_with fail
  refine (appInt_any B (n + [92, 117].length) _ (xs ++ byteCells [92, 117]) R hRl _ H1.out.1 (by simp; omega) (by omega) HT3.out.2 HT3.out.gb.2.2).mono ?_
  rintro e w4 h4
  have h4' := App.of_post (by omega) H1.out.1 h4
  obtain ⟨v4, rfl, ho4, hb4, hk4⟩ := h4'
  have hz4 := hb4.size
  have hl16 : (hexL R).length ≤ 8 := hexF_length 7 R
  obtain ⟨o4, c4, rfl⟩ := own_shape ho4
  have H4 := Lib.hid (And.intro ho4 (And.intro hb4 hk4))
  clear h4 ho4 hb4 hk4 hc1
  go_wp2_with (at_builtin; refine wpList_append_own _ rfl (.tmp 48) (.tmp 49) 60 rfl B 5 i0 (.int .u8 0) 1 1 Tryd.underlying60 hi hz0 hz1 hz2 rfl (by decide) _ _ _ rfl (H4.out.1.alloc _) ⟨w4.heap.size, 0, none⟩ _ _ (byteCells [59]) rfl ?_ ?_ (byteCells_one _) ?_ ?_ ?_ ?_)
  · rfl
  · exact cells_lit w4 (byteCells [59]) _
  · unfold maxLen; simp; omega
  · simp; omega
  · simp; omega
  intro v5 w5 hown5 hgrow5 hnil5
  have hfin : App B n xs (shownL s p) w .returned (.returned v5) w5 := by
    rw [HS.out, List.append_assoc]
    refine App.trans trivial H1.out ?_
    refine App.trans trivial H4.out ?_
    refine app_of (by omega) H4.out.1 ((Below.refl _ _).alloc (Nat.le_refl _) _) ?_ rfl hgrow5
    rw [List.append_assoc, List.append_assoc]
    exact hown5
  have HF := Lib.hid hfin
  obtain ⟨o5, c5, rfl⟩ := own_shape hown5
  clear hown5 hgrow5 hnil5 hfin
  go_wp2_with fail
  go_ret
  exact HF.out
end Go.Proofs.YtmbekgfbnapelaaDoor
