/-
  PLAIN LEAN: a quoted text is read as itself.
-/
import Derived.Test.YthkdfffankpekaaDoorReadB
namespace Go.Proofs.YthkdfffankpekaaDoor
open Go.RowKit Go.Lib
set_option linter.unusedVariables false

theorem extract_list (U : ByteArray) (a : Nat) : (U.extract a U.size).data.toList = U.data.toList.drop a := by
  rw [ByteArray.data_extract, Array.toList_extract, List.extract_eq_take_drop]
  rw [List.take_of_length_le]
  rw [List.length_drop]
  simp
def pieceB (s : ByteArray) (p : Nat) : List UInt8 := if brk s p then [s.get! p] else encL (dR s p)
theorem piece_list (s : ByteArray) (p : Nat) (hp : p < s.size) : s.data.toList.drop p = pieceB s p ++ s.data.toList.drop (p + dW s p) := by
  have hz : s.data.toList.length = s.size := by simp
  have one : ∀ q, q < s.size → s.data.toList.drop q = s.get! q :: s.data.toList.drop (q + 1) := by
    intro q hq
    rw [List.drop_eq_getElem_cons (by omega), get_list s q (by omega)]
  unfold pieceB
  cases hb : brk s p with
  | true =>
    have := (brk_eq s p hb).2
    rw [if_pos rfl, this]
    exact one p hp
  | false =>
    rw [if_neg (by simp)]
    have hf := dW_fits s p hp
    have e : ∀ n, n < 256 → ∀ q, (s.get! q).toNat = n → s.get! q = UInt8.ofNat n := by
      intro n hn q hq
      apply UInt8.toNat_inj.1
      rw [hq, u8n n hn]
    rcases shape s p hb with c | c | c | c
    · rw [c.1, encode_1 _ c.2.1, one p hp, e _ (by omega) p c.2.2]; rfl
    · rw [c.1, encode_2 _ (by omega) (by omega), one p hp, one (p + 1) (by omega), e _ (by omega) p c.2.2.2.2.1, e _ (by omega) (p + 1) c.2.2.2.2.2]; rfl
    · rw [c.1, encode_3 _ (by omega) (by omega) (by omega), one p hp, one (p + 1) (by omega), one (p + 1 + 1) (by omega), e _ (by omega) p c.2.2.2.2.2.1, e _ (by omega) (p + 1) c.2.2.2.2.2.2.1, e _ (by omega) (p + 1 + 1) c.2.2.2.2.2.2.2]; rfl
    · rw [c.1, encode_4 _ (by omega) (by omega), one p hp, one (p + 1) (by omega), one (p + 1 + 1) (by omega), one (p + 1 + 1 + 1) (by omega), e _ (by omega) p c.2.2.2.2.1, e _ (by omega) (p + 1) c.2.2.2.2.2.1, e _ (by omega) (p + 1 + 1) c.2.2.2.2.2.2.1, e _ (by omega) (p + 1 + 1 + 1) c.2.2.2.2.2.2.2]; rfl

theorem readB_back (V : ByteArray) (b : Nat) (rest : List UInt8) (hb : 128 ≤ b) (hb2 : b < 256) (hV : V.data.toList = hexc (b / 16) :: hexc (b % 16) :: rest) : readB V = some b := by
  obtain ⟨g1, _, g2⟩ := get_drop V 0 _ [] _ (by rw [List.drop_zero]; exact hV)
  obtain ⟨g3, g4, _⟩ := get_drop V 1 _ [] _ g2
  unfold readB
  rw [g1, g3, hexv_hexc _ (by omega), hexv_hexc _ (by omega), if_pos ⟨by omega, by omega, by omega⟩]
  congr 1
  omega

theorem thing_back (s : ByteArray) (p : Nat) (U : ByteArray) (rest : List UInt8) (hp : p < s.size) (hU : U.data.toList = shownL s p ++ rest) : thing U = (pieceB s p, (shownL s p).length) ∧ (U.get! 0).toNat ≠ 34 := by
  unfold pieceB
  cases hb : brk s p with
  | true =>
    rw [if_pos rfl]
    rw [shown_brk hb] at hU ⊢
    obtain ⟨g1, _, g2⟩ := get_drop U 0 _ [] _ (by rw [List.drop_zero]; exact hU)
    obtain ⟨g3, g4, g5⟩ := get_drop U 1 _ [] _ g2
    have hl := congrArg List.length hU
    have hz : U.data.toList.length = U.size := by simp
    have hr := readB_back (U.extract 2 U.size) (s.get! p).toNat rest (brk_high s p hb) (get_u8 s p) (by rw [extract_list]; exact g5)
    have hy : UInt8.ofNat (s.get! p).toNat = s.get! p := by apply UInt8.toNat_inj.1; rw [u8n _ (get_u8 s p)]
    refine ⟨?_, by rw [g1]; decide⟩
    unfold thing
    rw [g1, g3, if_neg (by decide), if_neg (by rw [hz] at hl; simp at hl; omega), if_neg (by decide), if_pos (by decide), hr]
    show ([UInt8.ofNat (s.get! p).toNat], 4) = _
    rw [hy]; rfl
  | false =>
    rw [if_neg (by simp)]
    have hsh := shape s p hb
    by_cases h2 : dR s p = 34 ∨ dR s p = 92
    · rw [shown_esc hb h2] at hU ⊢
      obtain ⟨g1, _, g2⟩ := get_drop U 0 _ [] _ (by rw [List.drop_zero]; exact hU)
      obtain ⟨g3, g4, g5⟩ := get_drop U 1 _ [] _ g2
      have hy : (s.get! p).toNat = dR s p := by omega
      have hlow : dR s p < 128 := by omega
      have he : encL (dR s p) = [s.get! p] := by
        rw [encode_1 _ hlow]
        congr 1
        apply UInt8.toNat_inj.1
        rw [u8n _ (by omega), hy]
      refine ⟨?_, by rw [g1]; decide⟩
      unfold thing
      rw [g1, g3, if_neg (by decide), if_neg (by omega), if_pos (by omega), he]; rfl
    · by_cases h3 : 32 ≤ dR s p ∧ dR s p ≤ 126
      · rw [shown_self hb h2 h3] at hU ⊢
        obtain ⟨g1, _, g2⟩ := get_drop U 0 _ [] _ (by rw [List.drop_zero]; exact hU)
        have hy : (s.get! p).toNat = dR s p := by omega
        have hlow : dR s p < 128 := by omega
        have he : encL (dR s p) = [s.get! p] := by
          rw [encode_1 _ hlow]
          congr 1
          apply UInt8.toNat_inj.1
          rw [u8n _ (by omega), hy]
        refine ⟨?_, by rw [g1]; omega⟩
        unfold thing
        rw [g1, if_pos (by omega), if_pos (by omega), he]; rfl
      · rw [shown_u hb h2 h3] at hU ⊢
        have hU' : U.data.toList = 92 :: 117 :: (hexL (dR s p) ++ 59 :: rest) := by rw [hU]; simp
        obtain ⟨g1, _, g2⟩ := get_drop U 0 _ [] _ (by rw [List.drop_zero]; exact hU')
        obtain ⟨g3, g4, g5⟩ := get_drop U 1 _ [] _ g2
        have hr := readR_back (U.extract 2 U.size) (dR s p) rest (by rw [extract_list]; exact g5) (dR_le s p) (dR_rune s p) h3
        refine ⟨?_, by rw [g1]; decide⟩
        unfold thing
        rw [g1, g3, if_neg (by decide), if_neg (by omega), if_neg (by decide), if_neg (by decide), if_pos (by decide), hr]
        show (if 0 < (hexL (dR s p)).length + 1 then _ else _) = _
        rw [if_pos (by omega)]
        have e : 2 + ((hexL (dR s p)).length + 1) = ([92, 117] ++ hexL (dR s p) ++ [59]).length := by simp; omega
        show (encL (dR s p), 2 + ((hexL (dR s p)).length + 1)) = _
        rw [e]

theorem unq_back (s t : ByteArray) : ∀ f p a acc, s.size ≤ p + f → p ≤ s.size → 1 ≤ a → t.data.toList.drop a = (startsF s f p).flatMap (shownL s) ++ [34] → unqF t t.size a acc = (acc ++ s.data.toList.drop p, -1)
  | f, p, a, acc, hf, hp, ha, h => by
    by_cases h1 : p < s.size
    · cases f with
      | zero => omega
      | succ f =>
        have e : startsF s (f + 1) p = p :: startsF s f (p + dW s p) := by show (if p < s.size then _ else _) = _; rw [if_pos h1]
        rw [e, List.flatMap_cons, List.append_assoc] at h
        have hl := shownL_length s p
        have hz : t.data.toList.length = t.size := by simp
        have hll := congrArg List.length h
        rw [List.length_drop, List.length_append, hz] at hll
        have hat : a < t.size := by omega
        have hU : (t.extract a t.size).data.toList = shownL s p ++ ((startsF s f (p + dW s p)).flatMap (shownL s) ++ [34]) := by rw [extract_list, h]
        obtain ⟨b1, b2⟩ := thing_back s p _ _ h1 hU
        have hg : t.get! a = (t.extract a t.size).get! 0 := by
          obtain ⟨b, l, hbl⟩ : ∃ b l, shownL s p = b :: l := by
            match shownL s p, hl.1 with
            | b :: l, _ => exact ⟨b, l, rfl⟩
          rw [hbl] at h hU
          rw [(get_drop t a _ [] b h).1, (get_drop (t.extract a t.size) 0 _ [] b (by rw [List.drop_zero]; exact hU)).1]
        rw [unq_step t a acc hat ha, hg, if_neg b2, b1, if_neg (by show ¬ (shownL s p).length = 0; omega)]
        have hw := dW_fits s p h1
        have hpos := dW_pos s p
        have hd : t.data.toList.drop (a + (shownL s p).length) = (startsF s f (p + dW s p)).flatMap (shownL s) ++ [34] := by
          rw [← List.drop_drop, h, List.drop_left]
        show unqF t t.size (a + (shownL s p).length) (acc ++ pieceB s p) = _
        rw [unq_back s t f (p + dW s p) _ _ (by omega) hw (by omega) hd, List.append_assoc, ← piece_list s p h1]
    · have hps : p = s.size := by omega
      rw [startsF_end s f p h1] at h
      obtain ⟨g1, g2, g3⟩ := get_drop t a [] [] 34 h
      have hz : t.data.toList.length = t.size := by simp
      have hl := congrArg List.length g3
      rw [List.length_drop, hz, List.length_nil] at hl
      rw [unq_step t a acc g2 ha, g1, if_pos (by decide), if_neg (by omega)]
      have hd : s.data.toList.drop p = [] := by rw [hps]; simp
      rw [hd, List.append_nil]
theorem quote_unq (s : ByteArray) : unq (strOf (quoteL s)) = (s.data.toList, -1) := by
  have hl : (strOf (quoteL s)).data.toList = 34 :: ((starts s).flatMap (shownL s) ++ [34]) := by rw [strOf_list]; rfl
  obtain ⟨g1, g2, g3⟩ := get_drop (strOf (quoteL s)) 0 _ [] 34 (by rw [List.drop_zero]; exact hl)
  unfold unq
  rw [if_neg (by omega), g1, if_neg (by decide), unq_back s _ s.size 0 1 [] (by omega) (by omega) (by omega) g3]
  simp
theorem strOf_data (s : ByteArray) : strOf s.data.toList = s := by
  unfold strOf
  cases s
  simp
/-- WHAT IS QUOTED IS READ AS ITSELF. -/
theorem plain_quote (s : ByteArray) (hs : s.size ≤ 65536) : plainT (strOf (quoteL s)) = .tuple #[.string s, .int .i64 0, .int .i64 0] := by
  unfold plainT
  rw [quote_unq]
  show (if (0 : Int) ≤ -1 then _ else if 65536 < (strOf s.data.toList).size then _ else _) = _
  rw [if_neg (by decide), strOf_data, if_neg (by omega), if_pos rfl]
end Go.Proofs.YthkdfffankpekaaDoor
