/-
  WALKS OF THE DOCUMENT's ANSWER: cognateref01.Less: two texts' pieces held against each other.
-/
import Derived.Test.YthkdfffankpekaaDoorAll
import Derived.Deep.RegionHeld3
namespace Go.Proofs.YthkdfffankpekaaDoor
open Go.RowKit Go.Lib
set_option linter.unusedVariables false

theorem below_undrew {B : Nat} {w w' : World} (h : Below B w.drew w') : Below B w w' := ⟨h.os, h.tape, h.output, h.size, h.block⟩

theorem pieceCs_at (s : ByteArray) : ∀ (l : List Nat) (i j p : Nat), l[i]? = some p → j < 4 → (pieceCs s l)[i * 4 + j]? = (pieceC s p)[j]?
  | [], i, j, p, h, _ => by simp at h
  | a :: l, 0, j, p, h, hj => by
    simp at h; subst h
    simp only [pieceCs, List.flatMap_cons, Nat.zero_mul, Nat.zero_add]
    rw [List.getElem?_append_left (by simpa [pieceC] using hj)]
  | a :: l, i + 1, j, p, h, hj => by
    have ih := pieceCs_at s l i j p (by simpa using h) hj
    simp only [pieceCs, List.flatMap_cons] at ih ⊢
    rw [List.getElem?_append_right (by simp [pieceC]; omega), ← ih]
    congr 1
    simp [pieceC]
    omega

/-- The pieces of a text as they lie in memory, block g. -/
structure Lies (s : ByteArray) (v : Value) (w : World) (g : Nat) : Prop where
  cell : ∀ i p, (starts s)[i]? = some p → w.cell? ⟨g, i * 4, none⟩ = some (.int .i32 (dR s p)) ∧ w.cell? ⟨g, i * 4 + 1, none⟩ = some (.int .i64 p) ∧ w.cell? ⟨g, i * 4 + 2, none⟩ = some (.int .i64 (dW s p)) ∧ w.cell? ⟨g, i * 4 + 3, none⟩ = some (.bool (brk s p))
theorem pieces_lie {s : ByteArray} {B : Nat} {w : World} {v : Value} (h : PiecesAt s B w v) (hne : 0 < (starts s).length) : ∃ g c, v = .slice (some ⟨g, 0, none⟩) (starts s).length c ∧ B ≤ g ∧ g < w.heap.size ∧ Lies s v w g ∧ (starts s).length ≤ c := by
  have h0 := h
  unfold PiecesAt at h0
  rcases h0.2 with ⟨_, h1⟩ | ⟨g, cap, cur, rfl, hb, hg, hnc, _⟩
  · omega
  · refine ⟨g, cap, rfl, hb, (Array.getElem?_eq_some_iff.1 hg).1, ⟨fun i p hp => ?_⟩, hnc⟩
    have hi : i < (starts s).length := (List.getElem?_eq_some_iff.1 hp).1
    have key : ∀ j, j < 4 → w.cell? ⟨g, i * 4 + j, none⟩ = (pieceC s p)[j]? := fun j hj => by
      rw [h0.cellAt (i * 4 + j) (by omega), pieceCs_at s _ i j p hp hj]
    exact ⟨key 0 (by omega), key 1 (by omega), key 2 (by omega), key 3 (by omega)⟩

theorem lessL_end1 (s t : ByteArray) (l m : List Nat) (i : Nat) (h1 : i ≤ l.length) (h2 : i ≤ m.length) (h : ¬ (i < l.length ∧ i < m.length)) : lessL s t (l.drop i) (m.drop i) = decide (l.length < m.length) := by
  rcases Nat.lt_or_ge i l.length with hl | hl
  · have hm : m.length ≤ i := by omega
    rw [List.drop_eq_nil_of_le hm, List.drop_eq_getElem_cons hl]
    simp [lessL]; omega
  · rcases Nat.lt_or_ge i m.length with hm | hm
    · rw [List.drop_eq_nil_of_le hl, List.drop_eq_getElem_cons hm]
      simp [lessL]; omega
    · rw [List.drop_eq_nil_of_le hl, List.drop_eq_nil_of_le hm]
      simp [lessL]; omega
theorem lessL_same (s t : ByteArray) (l m : List Nat) (i p q : Nat) (hl : l[i]? = some p) (hm : m[i]? = some q) (h : wt s p = wt t q) : lessL s t (l.drop i) (m.drop i) = lessL s t (l.drop (i + 1)) (m.drop (i + 1)) := by
  obtain ⟨h1, rfl⟩ := List.getElem?_eq_some_iff.1 hl
  obtain ⟨h2, rfl⟩ := List.getElem?_eq_some_iff.1 hm
  rw [List.drop_eq_getElem_cons h1, List.drop_eq_getElem_cons h2]
  simp [lessL, h]
theorem lessL_ne (s t : ByteArray) (l m : List Nat) (i p q : Nat) (hl : l[i]? = some p) (hm : m[i]? = some q) (h : ¬ wt s p = wt t q) : lessL s t (l.drop i) (m.drop i) = decide (wt s p < wt t q) := by
  obtain ⟨h1, rfl⟩ := List.getElem?_eq_some_iff.1 hl
  obtain ⟨h2, rfl⟩ := List.getElem?_eq_some_iff.1 hm
  rw [List.drop_eq_getElem_cons h1, List.drop_eq_getElem_cons h2]
  simp [lessL, h]

def LessInv (a b : ByteArray) (B : Nat) (w wr : World) (x y : Value) (i : Nat) : Prop :=
  PiecesAt a B wr x ∧ PiecesAt b B wr y ∧ Below B w wr ∧ i ≤ (starts a).length ∧ i ≤ (starts b).length ∧ less a b = lessL a b ((starts a).drop i) ((starts b).drop i)

set_option maxHeartbeats 1000000 in
theorem ref_less_any (a b : ByteArray) (w : World) (ha : a.size ≤ 1073741824) (hb : b.size ≤ 1073741824) :
    Calls Tryd.prog 31 #[.string a, .string b] w fun e w' => e = .returned (.bool (less a b)) ∧ Below w.heap.size w w' := by
  have hla : (starts a).length ≤ a.size := by simpa [starts] using startsF_le a a.size 0
  have hlb : (starts b).length ≤ b.size := by simpa [starts] using startsF_le b b.size 0
  go_enter Tryd.func31, Tryd.ntmps31
  go_wp2_with fail
  refine (all_any a _ ha).mono ?_
  rintro e w1 ⟨x, rfl, hx, hb1⟩
  have HX := Lib.hid hx
  have HB1 := Lib.hid hb1
  obtain ⟨ox, cx, rfl⟩ := own_shape hx
  clear hx hb1
  go_wp2_with fail
  refine (all_any b _ hb).mono ?_
  rintro e w2 ⟨y, rfl, hy, hb2⟩
  have hsz1 := HB1.out.size
  have hinv : LessInv a b w.heap.size w w2 (.slice ox (starts a).length cx) y 0 := ⟨own_below HX.out hb2, own_base hy hsz1, HB1.out.trans (hb2.mono (B' := w.heap.size) hsz1), by omega, by omega, (lessL_less a b).symm⟩
  obtain ⟨oy, cy, rfl⟩ := own_shape hy
  have HI := Lib.hid hinv
  clear hy hb2 hinv HX HB1 hsz1
  go_wp2_with fail
  go_loopw [7] (fun iv wr => ∃ i, iv = .int .i64 (i : Nat) ∧ LessInv a b w.heap.size w wr (.slice ox (starts a).length cx) (.slice oy (starts b).length cy) i) (fun iv _ => (starts a).length - (intOf iv).toNat)
  case atStart => exact ⟨0, rfl, HI.out⟩
  case round =>
    obtain ⟨i, rfl, hin⟩ := hrel
    have HN := Lib.hid hin
    have hi1 := hin.2.2.2.1
    have hi2 := hin.2.2.2.2.1
    have hsz := hin.2.2.1.size
    clear hin HI
    by_cases h1 : i < (starts a).length
    · by_cases h2 : i < (starts b).length
      · obtain ⟨p, hp⟩ : ∃ p, (starts a)[i]? = some p := ⟨_, List.getElem?_eq_getElem h1⟩
        obtain ⟨q, hq⟩ : ∃ q, (starts b)[i]? = some q := ⟨_, List.getElem?_eq_getElem h2⟩
        have hpa : p < a.size := startsF_mem a _ _ _ (List.mem_of_getElem? hp)
        have hqb : q < b.size := startsF_mem b _ _ _ (List.mem_of_getElem? hq)
        obtain ⟨g, c, hg, hgb, hgl, hlie, hcap⟩ := pieces_lie HN.out.1 (by omega)
        obtain ⟨g', c', hg', hgb', hgl', hlie', hcap'⟩ := pieces_lie HN.out.2.1 (by omega)
        simp only [Value.slice.injEq] at hg hg'
        obtain ⟨rfl, _, rfl⟩ := hg
        obtain ⟨rfl, _, rfl⟩ := hg'
        obtain ⟨a0, a1, a2, a3⟩ := hlie.cell i p hp
        obtain ⟨b0, b1, b2, b3⟩ := hlie'.cell i q hq
        go_wp2_with fail
        go_cut [8, 9] from 14 to 43 (fun x y wx => x = .int .i64 (wt a p) ∧ y = .int .i64 (wt b q) ∧ Below wr.heap.size wr wx)
        case first =>
          have cW : ∀ wx, Calls Tryd.prog 46 #[.string a, pieceV a p] wx fun e w' => e = .returned (.int .i64 (wt a p)) ∧ Below wx.heap.size wx w' := fun wx => weight_any a p wx hpa (by unfold maxLen; omega)
          have cV : ∀ wx, Calls Tryd.prog 46 #[.string b, pieceV b q] wx fun e w' => e = .returned (.int .i64 (wt b q)) ∧ Below wx.heap.size wx w' := fun wx => weight_any b q wx hqb (by unfold maxLen; omega)
          unfold pieceV at cW cV
          have HW := Lib.hid cW
          have HV := Lib.hid cV
          clear cW cV
          go_region_held3 (fun w' => Below wr.heap.size wr w' ∧ w'.cell? ⟨g, i * 4, none⟩ = some (.int .i32 (dR a p)) ∧ w'.cell? ⟨g, i * 4 + 1, none⟩ = some (.int .i64 p) ∧ w'.cell? ⟨g, i * 4 + 2, none⟩ = some (.int .i64 (dW a p)) ∧ w'.cell? ⟨g, i * 4 + 3, none⟩ = some (.bool (brk a p)) ∧ w'.cell? ⟨g', i * 4, none⟩ = some (.int .i32 (dR b q)) ∧ w'.cell? ⟨g', i * 4 + 1, none⟩ = some (.int .i64 q) ∧ w'.cell? ⟨g', i * 4 + 2, none⟩ = some (.int .i64 (dW b q)) ∧ w'.cell? ⟨g', i * 4 + 3, none⟩ = some (.bool (brk b q))) (first | exact ⟨(Below.refl _ _).drew, a0, a1, a2, a3, b0, b1, b2, b3⟩ | exact ⟨hacc, (hacc.cell (p := ⟨g, i * 4, none⟩) hgl).trans a0, (hacc.cell (p := ⟨g, i * 4 + 1, none⟩) hgl).trans a1, (hacc.cell (p := ⟨g, i * 4 + 2, none⟩) hgl).trans a2, (hacc.cell (p := ⟨g, i * 4 + 3, none⟩) hgl).trans a3, (hacc.cell (p := ⟨g', i * 4, none⟩) hgl').trans b0, (hacc.cell (p := ⟨g', i * 4 + 1, none⟩) hgl').trans b1, (hacc.cell (p := ⟨g', i * 4 + 2, none⟩) hgl').trans b2, (hacc.cell (p := ⟨g', i * 4 + 3, none⟩) hgl').trans b3⟩) (first | (go_at_call 46; ((with_reducible first | refine (HW.out _).mono ?_ | refine (HV.out _).mono ?_)); rintro e w1 ⟨rfl, hb1⟩; have hacc : Below wr.heap.size wr w1 := (by first | exact below_undrew hb1 | exact hacc.trans (hb1.mono hacc.size))))
          all_goals (try go_wp2_with fail)
          all_goals go_meet
          all_goals exact ⟨rfl, rfl, hacc⟩
        case rest =>
          obtain ⟨rfl, rfl, hbc⟩ := hcut
          have hin2 : LessInv a b w.heap.size w wc (.slice (some ⟨g, 0, none⟩) (starts a).length cx) (.slice (some ⟨g', 0, none⟩) (starts b).length cy) i :=
            ⟨own_below HN.out.1 hbc, own_below HN.out.2.1 hbc, HN.out.2.2.1.trans (hbc.mono (B' := w.heap.size) hsz), HN.out.2.2.2.1, HN.out.2.2.2.2.1, HN.out.2.2.2.2.2⟩
          have HN2 := Lib.hid hin2
          have HP := Lib.hid hp
          have HQ := Lib.hid hq
          clear hin2 hbc hp hq a0 a1 a2 a3 b0 b1 b2 b3 hlie hlie'
          by_cases hr : wt a p = wt b q
          · have hrb : ((wt a p : Int) != (wt b q : Int)) = false := by rw [hr]; simp
            have hv := HN2.out.2.2.2.2.2.trans (lessL_same a b _ _ i p q HP.out HQ.out hr)
            have HV := Lib.hid hv
            clear hv hr
            go_wp2_with fail
            go_roundw
            case rel => exact ⟨i + 1, by go_num, HN2.out.1, HN2.out.2.1, HN2.out.2.2.1, by omega, by omega, HV.out⟩
            case measure => simp [intOf]; omega
          · have hrb : ((wt a p : Int) != (wt b q : Int)) = true := by rw [bne_iff_ne]; omega
            have hv := HN2.out.2.2.2.2.2.trans (lessL_ne a b _ _ i p q HP.out HQ.out hr)
            have HV := Lib.hid hv
            clear hv hr
            go_wp2_with fail
            go_ret
            exact ⟨ret_b (by rw [HV.out, decide_eq_decide]), HN2.out.2.2.1⟩
      · go_wp2_with fail
        go_ret
        have hfin := HN.out.2.2.2.2.2.trans (lessL_end1 a b _ _ i hi1 hi2 (by omega))
        exact ⟨ret_b (by rw [hfin]), HN.out.2.2.1⟩
    · go_wp2_with fail
      go_ret
      have hfin := HN.out.2.2.2.2.2.trans (lessL_end1 a b _ _ i hi1 hi2 (by omega))
      exact ⟨ret_b (by rw [hfin]), HN.out.2.2.1⟩
end Go.Proofs.YthkdfffankpekaaDoor
