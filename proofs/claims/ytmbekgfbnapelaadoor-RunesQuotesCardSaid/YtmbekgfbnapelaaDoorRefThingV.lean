/-
  WALKS: the document's thing, an escape of a rune's number.
-/
import Derived.Test.YtmbekgfbnapelaaDoorRefThingU
import Derived.BigQuiet
import Derived.Deep.QuietTactic
namespace Go.Proofs.YtmbekgfbnapelaaDoor
open Go.RowKit Go.Lib
set_option linter.unusedVariables false

/-- What holds where the sixteens end. -/
structure ThU (s : ByteArray) (a K : Nat) (R : Nat) (T : List UInt8 × Nat) : Prop where
  sz : s.size ≤ 1073741824
  k7 : K ≤ 7
  r7 : R ≤ 268435456
  no : ¬ (0 < K ∧ a + 2 + K < s.size ∧ (s.get! (a + 2 + K)).toNat = 59 ∧ R ≤ 1114111 ∧ runeB R = true ∧ s.extract (a + 2) (a + 2 + K) = strOf (hexF 6 R) ∧ ¬ (32 ≤ R ∧ R ≤ 126)) → T = ([], 0)
  yes : 0 < K ∧ a + 2 + K < s.size ∧ (s.get! (a + 2 + K)).toNat = 59 ∧ R ≤ 1114111 ∧ runeB R = true ∧ s.extract (a + 2) (a + 2 + K) = strOf (hexF 6 R) ∧ ¬ (32 ≤ R ∧ R ≤ 126) → T = (encL R, 2 + (K + 1))
theorem strOf_inj {a b : List UInt8} (h : strOf a = strOf b) : a = b := by
  have := congrArg (fun x : ByteArray => x.data.toList) h
  simpa [strOf] using this
theorem thU {s : ByteArray} {a : Nat} (hs : s.size ≤ 1073741824) (h0 : (s.get! a).toNat = 92) (ha : a + 1 < s.size) (h2 : (s.get! (a + 1)).toNat = 117) :
    ∃ K, K ≤ 7 ∧ a + 2 + K ≤ s.size ∧ (∀ j, j < K → 0 ≤ hexv (s.get! (a + 2 + j)).toNat) ∧ (K < 7 → a + 2 + K < s.size → hexv (s.get! (a + 2 + K)).toNat < 0) ∧ (∀ j, j < K → dig (s.extract (a + 2) s.size) (j + 1) = dig (s.extract (a + 2) s.size) j * 16 + (hexv (s.get! (a + 2 + j)).toNat).toNat) ∧
      (∀ j, j ≤ 7 → dig (s.extract (a + 2) s.size) j ≤ 268435456) ∧ ThU s a K (dig (s.extract (a + 2) s.size) K) (thing (s.extract a s.size)) := by
  have hUs : (s.extract (a + 2) s.size).size = s.size - (a + 2) := by simp
  have hUg : ∀ j, a + 2 + j < s.size → (s.extract (a + 2) s.size).get! j = s.get! (a + 2 + j) := fun j hj => ext_get s (a + 2) s.size j hj (Nat.le_refl _)
  have hTk : ∀ k, a + 2 + k ≤ s.size → s.extract (a + 2) (a + 2 + k) = strOf (tak (s.extract (a + 2) s.size) k) := fun k hk => tak_ext s (a + 2) k hk
  have hTh := thing_esc ha h0
  rw [h2, if_neg (by omega), if_neg (by omega), if_pos rfl] at hTh
  obtain ⟨T, hT⟩ : ∃ T, T = thing (s.extract a s.size) := ⟨_, rfl⟩
  obtain ⟨U, hU⟩ : ∃ U, U = s.extract (a + 2) s.size := ⟨_, rfl⟩
  rw [← hT, ← hU] at hTh ⊢
  rw [← hU] at hUs hUg hTk
  obtain ⟨K, hsc, hK7, hKs, hKd, hend, hRR⟩ := readR_is U
  have hT2 : T = if numOk U K then (encL (dig U K : Nat), 2 + (K + 1)) else ([], 0) := by
    rw [hTh, hRR]
    by_cases h : numOk U K
    · rw [if_pos h, if_pos h, if_pos (by simp)]
    · rw [if_neg h, if_neg h, if_neg (by simp)]
  have hd7 : ∀ j, j ≤ 7 → dig U j ≤ 268435456 := fun j hj => Nat.le_of_lt (Nat.lt_of_lt_of_le (dig_lt U j) (pow_le7 j hj))
  have hok : numOk U K ↔ (0 < K ∧ a + 2 + K < s.size ∧ (s.get! (a + 2 + K)).toNat = 59 ∧ dig U K ≤ 1114111 ∧ runeB (dig U K) = true ∧ s.extract (a + 2) (a + 2 + K) = strOf (hexF 6 (dig U K)) ∧ ¬ (32 ≤ dig U K ∧ dig U K ≤ 126)) := by
    have hru : runeB (dig U K) = true ↔ (dig U K ≤ 1114111 ∧ (dig U K < 55296 ∨ 57344 ≤ dig U K)) := by unfold runeB; rw [decide_eq_true_iff]; omega
    rw [hru]
    unfold numOk
    constructor
    · rintro ⟨a1, a2, a3, a4, a5, a6, a7⟩
      rw [hUg K (by omega)] at a3
      exact ⟨a1, by omega, a3, a4, ⟨a4, a5⟩, by rw [hTk K (by omega), a6], a7⟩
    · rintro ⟨a1, a2, a3, a4, ⟨_, a5⟩, a6, a7⟩
      rw [← hUg K (by omega)] at a3
      rw [hTk K (by omega)] at a6
      exact ⟨a1, by omega, a3, a4, a5, (strOf_inj a6).symm, a7⟩
  refine ⟨K, hK7, by omega, fun j hj => ?_, fun h1 h3 => ?_, fun j hj => ?_, hd7, ⟨hs, hK7, hd7 K hK7, fun h => ?_, fun h => ?_⟩⟩
  · rw [← hUg j (by omega)]; exact hKd j hj
  · rw [← hUg K h3]; exact hend h1 (by omega)
  · rw [← hUg j (by omega)]; rfl
  · rw [hT2, if_neg (fun hh => h (hok.1 hh))]
  · rw [hT2, if_pos (hok.2 h)]

set_option maxRecDepth 100000 in
set_option maxHeartbeats 1000000 in
theorem rnum_same : ∀ (f n : Nat), n < 16 ^ (f + 1) → f ≤ 7 → ∀ w, Calls Tryd.prog 50 #[.int .i64 n] w fun e w' => e = .returned (.string (strOf (hexF f n))) ∧ w' = w
  | f, n, hn, hf, w => by
    by_cases h1 : n < 16
    · have e : hexF f n = [hexc n] := by
        cases f with
        | zero => rfl
        | succ f => show (if n < 16 then _ else _) = _; rw [if_pos h1]
      have HE := Lib.hid e
      have h1' : (n : Int) < 16 := by omega
      clear hn e
      go_enter Tryd.func50, Tryd.ntmps50
      go_wp2_with fail
      refine (ref_sixteen_any n h1 _).mono ?_
      rintro e w1 ⟨rfl, rfl⟩
      go_wp2_with fail
      go_ret
      exact ⟨ret_str (by rw [HE.out]), rfl⟩
    · cases f with
      | zero => simp at hn; omega
      | succ f =>
        have e : hexF (f + 1) n = hexF f (n / 16) ++ [hexc (n % 16)] := by show (if n < 16 then _ else _) = _; rw [if_neg h1]
        have ih := rnum_same f (n / 16) (by rw [Nat.pow_succ] at hn; omega) (by omega)
        have hl := hexF_length f (n / 16)
        have hn4 : n < 4294967296 := Nat.lt_of_lt_of_le hn (Nat.le_trans (Nat.pow_le_pow_right (by omega) (show f + 1 + 1 ≤ 8 by omega)) (by decide))
        have HE := Lib.hid e
        have cS : ∀ wx, Calls Tryd.prog 75 #[.int .i64 ((n % 16 : Nat) : Int)] wx fun e w' => e = .returned (.string (strOf [hexc (n % 16)])) ∧ w' = wx := fun wx => ref_sixteen_any (n % 16) (by omega) wx
        have HN := Lib.hid ih; have HS := Lib.hid cS
        have h1' : (16 : Int) ≤ (n : Int) := by omega
        obtain ⟨N, hN1, hN2⟩ : ∃ N : Int, (n : Int) ≤ N ∧ N ≤ 4294967296 := ⟨n, by omega, by omega⟩
        clear hn e ih cS hn4
        go_enter Tryd.func50, Tryd.ntmps50
        go_wp2_with fail
        refine (HN.out _).mono ?_
        rintro e w1 ⟨rfl, rfl⟩
        go_wp2_with fail
        refine (HS.out _).mono ?_
        rintro e w2 ⟨rfl, rfl⟩
        have hlen : (strOf (hexF f (n / 16))).size + (strOf [hexc (n % 16)]).size ≤ 9223372036854775807 := by
          have e1 : ∀ l, (strOf l).size = l.length := fun l => by show (strOf l).data.size = _; simp [strOf]
          rw [e1, e1]; simp; omega
        have hcat := fun W => run_string_add_sum (P := Tryd.prog) W (strOf (hexF f (n / 16))) (strOf [hexc (n % 16)]) hlen
        rw [strOf_append] at hcat
        clear hlen
        go_wp2_with fail
        go_ret
        exact ⟨ret_str (by rw [HE.out]), rfl⟩
set_option maxRecDepth 100000 in
set_option maxHeartbeats 16000000 in
theorem thing_u (s : ByteArray) (a : Nat) (w : World) (hs : s.size ≤ 1073741824) (h0 : (s.get! a).toNat = 92) (ha : a + 1 < s.size) (h2 : (s.get! (a + 1)).toNat = 117) :
    Calls Tryd.prog 27 #[.string s, .int .i64 a] w (ThPost (thing (s.extract a s.size)) w) := by
  have hx := get_run' s a (by omega) a rfl
  rw [h0] at hx
  have hx : ∀ (wx : World), (Instr.index 9 (.string s) (.int .i64 a)).run Tryd.prog wx = .ok (.int .u8 92) wx := hx
  have hX := get_run' s (a + 1) ha ((a : Int) + 1) (by omega)
  rw [h2] at hX
  have hX : ∀ (wx : World), (Instr.index 9 (.string s) (.int .i64 ((a : Int) + 1))).run Tryd.prog wx = .ok (.int .u8 117) wx := hX
  obtain ⟨K, hK7, hKs, hKd, hend, hdi, hd7, hT⟩ := thU hs h0 ha h2
  obtain ⟨T, hTT⟩ : ∃ T, T = thing (s.extract a s.size) := ⟨_, rfl⟩
  obtain ⟨D, hD⟩ : ∃ D, D = dig (s.extract (a + 2) s.size) := ⟨_, rfl⟩
  have hD0 : D 0 = 0 := by rw [hD]; rfl
  rw [← hTT, ← hD] at hT
  rw [← hD] at hdi hd7
  rw [← hTT]
  have d1 : (a : Int) + 1 < (s.size : Int) := by omega
  have d2 : ¬ (s.size : Int) ≤ (a : Int) + 1 := by omega
  obtain ⟨SS, hS1, hS2⟩ : ∃ N : Int, (s.size : Int) ≤ N ∧ N ≤ 1073741824 := ⟨s.size, by omega, by omega⟩
  have HKd := Lib.hid hKd; have HDI := Lib.hid hdi; have HD7 := Lib.hid hd7; have HE := Lib.hid hend; have HT := Lib.hid hT; have HSz := Lib.hid hs
  have HKS := Lib.hid hKs
  clear h0 h2 hKd hdi hd7 hend hT hTT hD hs hKs
  go_enter Tryd.func27, Tryd.ntmps27
  go_wp2_with fail
  go_loop [7, 8] (fun kv rv => ∃ i : Nat, kv = .int .i64 ((a + 2 + i : Nat) : Int) ∧ rv = .int .i64 ((D i : Nat) : Int) ∧ i ≤ K) (fun kv _ => s.size - (RowKit.intOf kv).toNat)
  case atStart => exact ⟨0, by go_num, by rw [hD0]; rfl, Nat.zero_le _⟩
  case round =>
    obtain ⟨i, rfl, rfl, hiK⟩ := hrel
    have hs := HSz.out
    have hKs := HKS.out
    obtain ⟨k, hk⟩ : ∃ k, k = a + 2 + i := ⟨_, rfl⟩
    by_cases hiK2 : i < K
    · have hd := HKd.out i hiK2
      have hgi := get_run' s (a + 2 + i) (by omega) ((a + 2 + i : Nat) : Int) rfl
      have hgl := get_u8 s (a + 2 + i)
      have hdi := HDI.out i hiK2
      obtain ⟨x, hxe⟩ : ∃ x, x = (s.get! (a + 2 + i)).toNat := ⟨_, rfl⟩
      rw [← hxe] at hgi hgl hd hdi
      have cX := fun W => worth_any x hgl W
      have bx := hexv_lt x
      obtain ⟨X, hXX⟩ : ∃ X, X = hexv x := ⟨_, rfl⟩
      rw [← hXX] at cX bx hd hdi
      have hr7 := HD7.out i (by omega)
      obtain ⟨R, hR⟩ : ∃ R, R = D i := ⟨_, rfl⟩
      rw [← hR] at hdi hr7 ⊢
      rw [← hk] at hgi ⊢
      have e1 : (k : Int) < (s.size : Int) := by omega
      have e2 : (k : Int) - (a : Int) < 9 := by omega
      have e3 : 0 ≤ (k : Int) - (a : Int) := by omega
      have e4 : (R : Int) ≤ 268435456 := by omega
      have HDI2 := Lib.hid hdi; have CX := Lib.hid cX; have HKK := Lib.hid hk
      clear hdi hxe cX hXX hr7 hR hk hs hKs
      go_wp2_with fail
      refine (CX.out _).mono ?_
      rintro e w1 ⟨rfl, rfl⟩
      go_wp2_with fail
      refine (CX.out _).mono ?_
      rintro e w1 ⟨rfl, rfl⟩
      go_wp2_with fail
      have hk := HKK.out
      go_round
      case rel => exact ⟨i + 1, by rw [hk]; go_num, by rw [HDI2.out]; go_num, by omega⟩
      case measure => simp [RowKit.intOf]; omega
    · obtain rfl : i = K := by omega
      have hTU := HT.out
      have hr7 := hTU.r7
      have hhe := HE.out
      obtain ⟨R, hR⟩ : ∃ R, R = D i := ⟨_, rfl⟩
      rw [← hR] at hTU hr7 ⊢
      have HTU := Lib.hid hTU
      have z3 : (R : Int) ≤ 268435456 := by omega
      have z4 : (k : Int) - (a : Int) ≤ 9 := by omega
      have z5 : (k : Int) ≤ (s.size : Int) := by omega
      have z6 : (a : Int) + 2 ≤ (k : Int) := by omega
      have p1 : IntKind.i64.wrap ((a : Int) + 2) = (a : Int) + 2 := by rw [IntKind.wrap_i64]; omega
      have p2 : 0 ≤ (a : Int) + 2 := by omega
      have p3 : ((a : Int) + 2).toNat = a + 2 := by omega
      have hdrn : ∀ n, Below w.heap.size w (w.drewN n) := fun n => ⟨rfl, rfl, rfl, Nat.le_refl _, fun _ _ => rfl⟩
      have HDN := Lib.hid hdrn; have HKK := Lib.hid hk
      rw [← hk]
      by_cases hin : a + 2 + i < s.size
      · have hgi := get_run' s (a + 2 + i) hin ((a + 2 + i : Nat) : Int) rfl
        have hgl := get_u8 s (a + 2 + i)
        obtain ⟨x, hxe⟩ : ∃ x, x = (s.get! (a + 2 + i)).toNat := ⟨_, rfl⟩
        rw [← hxe] at hgi hgl hhe
        rw [← hk] at hgi
        have HXE := Lib.hid hxe
        have cX := fun W => worth_any x hgl W
        have bx := hexv_lt x
        have h59 : x = 59 → hexv x < 0 := fun e => by rw [e]; decide
        obtain ⟨X, hXX⟩ : ∃ X, X = hexv x := ⟨_, rfl⟩
        rw [← hXX] at cX bx hhe h59
        have CX := Lib.hid cX
        have e1 : (k : Int) < (s.size : Int) := by omega
        have e1' : ¬ (s.size : Int) ≤ (k : Int) := by omega
        have n1 : decide (s.size ≤ k) = false := decide_eq_false (by omega)
        by_cases hX0 : X < 0
        · by_cases hi0 : i = 0
          · have HR := Lib.hid (HTU.out.no (fun h => by omega))
            have c1 : ((k : Int) == (a : Int) + 2) = true := by rw [beq_iff_eq]; omega
            clear hs hKs hTU hr7 hhe hR hxe cX hXX hk hin h59 hdrn
            go_wp2_with fail
            refine (CX.out _).mono ?_
            rintro e w1 ⟨rfl, rfl⟩
            go_wp2_with fail
            go_quiet (fail)
            go_wp2_with fail
            go_ret2
            exact th_none HR.out (HDN.out _)
          · have c1 : ((k : Int) == (a : Int) + 2) = false := by rw [beq_eq_false_iff_ne]; omega
            by_cases hx59 : x = 59
            · have c3 : ((x : Int) == 59) = true := by rw [beq_iff_eq]; omega
              have c3n : ((x : Int) != 59) = false := by rw [bne, c3]; rfl
              by_cases hR1 : R ≤ 1114111
              · have c4 : ¬ (1114111 : Int) < (R : Int) := by omega
                have n4 : decide (1114111 < R) = false := decide_eq_false (by omega)
                have n4' : decide ((1114111 : Int) < (R : Int)) = false := decide_eq_false c4
                have z3' : (R : Int) ≤ 1114111 := by omega
                have z7 : IntKind.i32.wrap (R : Int) = (R : Int) := by rw [IntKind.wrap_i32]; omega
                cases hru : runeB (R : Int) with
                | false =>
                  have HR := Lib.hid (HTU.out.no (fun h => by rw [h.2.2.2.2.1] at hru; cases hru))
                  have cR : ∀ W, Calls Tryd.prog 49 #[.int .i32 (R : Int)] W fun e w' => e = .returned (.bool false) ∧ w' = W := fun W => (rune_is (R : Int) false W hru).mono fun e w' h => ⟨h.1, h.2.symm⟩
                  have CR := Lib.hid cR
                  clear hs hKs hTU hr7 hhe hR hxe cX hXX hk hin h59 hdrn hru cR hx59 hR1
                  go_wp2_with fail
                  refine (CX.out _).mono ?_
                  rintro e w1 ⟨rfl, rfl⟩
                  go_wp2_with fail
                  go_quiet ((go_at_call 49; with_reducible exact Calls.quiet_of_same (CR.out _)))
                  go_wp2_with fail
                  go_ret2
                  exact th_none HR.out (HDN.out _)
                | true =>
                  have cR : ∀ W, Calls Tryd.prog 49 #[.int .i32 (R : Int)] W fun e w' => e = .returned (.bool true) ∧ w' = W := fun W => (rune_is (R : Int) true W hru).mono fun e w' h => ⟨h.1, h.2.symm⟩
                  have cN := fun W => rnum_same 6 R (Nat.lt_of_le_of_lt hR1 (by decide)) (by decide) W
                  have CR := Lib.hid cR
                  have hbeq : ∀ b c : ByteArray, (b.toList == c.toList) = decide (b = c) := fun b c => by
                    rw [ByteArray.toList_eq, ByteArray.toList_eq]
                    by_cases hbc : b = c
                    · subst hbc; simp
                    · rw [decide_eq_false hbc, beq_eq_false_iff_ne]
                      exact fun h => hbc (ByteArray.ext (Array.toList_inj.1 h))
                  obtain ⟨H, hH⟩ : ∃ H, H = strOf (hexF 6 R) := ⟨_, rfl⟩
                  rw [← hH] at cN
                  have CN := Lib.hid cN
                  have hek : s.extract (a + 2) k = s.extract (a + 2) (a + 2 + i) := by rw [hk]
                  have q1 : ¬ (k : Int) < (a : Int) + 2 := by omega
                  by_cases hEH : s.extract (a + 2) k = H
                  · have c6 : (H.toList == (s.extract (a + 2) k).toList) = true := by rw [hbeq, decide_eq_true_iff]; exact hEH.symm
                    have c6n : (H.toList != (s.extract (a + 2) k).toList) = false := by rw [bne, c6]; rfl
                    have hEH2 : s.extract (a + 2) (a + 2 + i) = strOf (hexF 6 R) := by rw [← hek, hEH, hH]
                    by_cases h32 : 32 ≤ R ∧ R ≤ 126
                    · have HR := Lib.hid (HTU.out.no (fun h => h.2.2.2.2.2.2 h32))
                      have n7 : decide (32 ≤ R) = true := decide_eq_true h32.1
                      have n8 : decide (R ≤ 126) = true := decide_eq_true h32.2
                      have n7' : decide ((32 : Int) ≤ (R : Int)) = true := decide_eq_true (by omega)
                      have n8' : decide ((R : Int) ≤ 126) = true := decide_eq_true (by omega)
                      clear hs hKs hTU hr7 hhe hR hxe cX hXX hk hin h59 hdrn hru cR hx59 hR1 cN hH hEH hEH2 hek hbeq h32
                      go_wp2_with fail
                      refine (CX.out _).mono ?_
                      rintro e w1 ⟨rfl, rfl⟩
                      go_wp2_with fail
                      go_quiet (first | (go_at_call 49; with_reducible exact Calls.quiet_of_same (CR.out _)) | (go_at_call 50; with_reducible exact Calls.quiet_of_same (CN.out _)))
                      go_wp2_with fail
                      go_ret2
                      exact th_none HR.out (HDN.out _)
                    · have hok := HTU.out.yes ⟨by omega, hin, by rw [← HXE.out]; exact hx59, hR1, hru, hEH2, h32⟩
                      have HR := Lib.hid hok
                      have k1 := fun W => one_any (R : Int) W
                      unfold OnePost at k1
                      have K1 := Lib.hid k1
                      have hcase : R < 32 ∨ (32 ≤ R ∧ 126 < R) := by omega
                      rcases hcase with h1 | ⟨h1, h2⟩
                      · have n7 : decide (32 ≤ R) = false := decide_eq_false (by omega)
                        have n7' : decide ((32 : Int) ≤ (R : Int)) = false := decide_eq_false (by omega)
                        clear hs hKs hTU hr7 hhe hR hxe cX hXX hk hin h59 hdrn hru cR hx59 hR1 cN hH hEH hEH2 hek hbeq h32 k1 hok h1
                        go_wp2_with fail
                        refine (CX.out _).mono ?_
                        rintro e w1 ⟨rfl, rfl⟩
                        go_wp2_with fail
                        go_quiet (first | (go_at_call 49; with_reducible exact Calls.quiet_of_same (CR.out _)) | (go_at_call 50; with_reducible exact Calls.quiet_of_same (CN.out _)))
                        go_wp2_with fail
                        refine (K1.out _).mono ?_
                        rintro _ w3 ⟨v3, g3, rfl, hv3, hg3, hb3⟩
                        have HF := Lib.hid (th_many (w := w) (W := w) HR.out (show (k : Int) + 1 - (a : Int) = ((2 + (i + 1) : Nat) : Int) by have := HKK.out; omega) hv3 ((HDN.out _).trans hb3))
                        obtain ⟨rfl, hc3⟩ := hv3
                        clear hb3 hc3 hg3
                        go_wp2_with fail
                        go_ret2
                        exact HF.out
                      · have n7 : decide (32 ≤ R) = true := decide_eq_true (by omega)
                        have n7' : decide ((32 : Int) ≤ (R : Int)) = true := decide_eq_true (by omega)
                        have n8 : decide (R ≤ 126) = false := decide_eq_false (by omega)
                        have n8' : decide ((R : Int) ≤ 126) = false := decide_eq_false (by omega)
                        clear hs hKs hTU hr7 hhe hR hxe cX hXX hk hin h59 hdrn hru cR hx59 hR1 cN hH hEH hEH2 hek hbeq h32 k1 hok h1 h2
                        go_wp2_with fail
                        refine (CX.out _).mono ?_
                        rintro e w1 ⟨rfl, rfl⟩
                        go_wp2_with fail
                        go_quiet (first | (go_at_call 49; with_reducible exact Calls.quiet_of_same (CR.out _)) | (go_at_call 50; with_reducible exact Calls.quiet_of_same (CN.out _)))
                        go_wp2_with fail
                        refine (K1.out _).mono ?_
                        rintro _ w3 ⟨v3, g3, rfl, hv3, hg3, hb3⟩
                        have HF := Lib.hid (th_many (w := w) (W := w) HR.out (show (k : Int) + 1 - (a : Int) = ((2 + (i + 1) : Nat) : Int) by have := HKK.out; omega) hv3 ((HDN.out _).trans hb3))
                        obtain ⟨rfl, hc3⟩ := hv3
                        clear hb3 hc3 hg3
                        go_wp2_with fail
                        go_ret2
                        exact HF.out
                  · have HR := Lib.hid (HTU.out.no (fun h => hEH (by rw [hek, hH]; exact h.2.2.2.2.2.1)))
                    have c6 : (H.toList == (s.extract (a + 2) k).toList) = false := by rw [hbeq, decide_eq_false_iff_not]; exact fun h => hEH h.symm
                    have c6n : (H.toList != (s.extract (a + 2) k).toList) = true := by rw [bne, c6]; rfl
                    clear hs hKs hTU hr7 hhe hR hxe cX hXX hk hin h59 hdrn hru cR hx59 hR1 cN hH hEH hek hbeq
                    go_wp2_with fail
                    refine (CX.out _).mono ?_
                    rintro e w1 ⟨rfl, rfl⟩
                    go_wp2_with fail
                    go_quiet (first | (go_at_call 49; with_reducible exact Calls.quiet_of_same (CR.out _)) | (go_at_call 50; with_reducible exact Calls.quiet_of_same (CN.out _)))
                    go_wp2_with fail
                    go_ret2
                    exact th_none HR.out (HDN.out _)
              · have HR := Lib.hid (HTU.out.no (fun h => by omega))
                have c4 : (1114111 : Int) < (R : Int) := by omega
                have n4 : decide (1114111 < R) = true := decide_eq_true (by omega)
                have n4' : decide ((1114111 : Int) < (R : Int)) = true := decide_eq_true c4
                clear hs hKs hTU hr7 hhe hR hxe cX hXX hk hin h59 hdrn hx59 hR1
                go_wp2_with fail
                refine (CX.out _).mono ?_
                rintro e w1 ⟨rfl, rfl⟩
                go_wp2_with fail
                go_quiet (fail)
                go_wp2_with fail
                go_ret2
                exact th_none HR.out (HDN.out _)
            · have HR := Lib.hid (HTU.out.no (fun h => hx59 (by rw [HXE.out]; exact h.2.2.1)))
              have c3 : ((x : Int) == 59) = false := by rw [beq_eq_false_iff_ne]; omega
              have c3n : ((x : Int) != 59) = true := by rw [bne, c3]; rfl
              clear hs hKs hTU hr7 hhe hR hxe cX hXX hk hin h59 hdrn hx59
              go_wp2_with fail
              refine (CX.out _).mono ?_
              rintro e w1 ⟨rfl, rfl⟩
              go_wp2_with fail
              go_quiet (fail)
              go_wp2_with fail
              go_ret2
              exact th_none HR.out (HDN.out _)
        · have hi7 : i = 7 := by
            by_cases h : i < 7
            · exact absurd (hhe h hin) hX0
            · omega
          have HR := Lib.hid (HTU.out.no (fun h => hX0 (h59 (by rw [HXE.out]; exact h.2.2.1))))
          have c1 : ((k : Int) == (a : Int) + 2) = false := by rw [beq_eq_false_iff_ne]; omega
          have c3 : ((x : Int) == 59) = false := by rw [beq_eq_false_iff_ne]; intro h; exact hX0 (h59 (by omega))
          have c3n : ((x : Int) != 59) = true := by rw [bne, c3]; rfl
          have hX0' : 0 ≤ X := by omega
          have e2 : ¬ (k : Int) - (a : Int) < 9 := by omega
          clear hs hKs hTU hr7 hhe hR hxe cX hXX hk hin h59 hdrn hX0 hi7
          go_wp2_with fail
          refine (CX.out _).mono ?_
          rintro e w1 ⟨rfl, rfl⟩
          go_wp2_with fail
          go_quiet (fail)
          go_wp2_with fail
          go_ret2
          exact th_none HR.out (HDN.out _)
      · have HR := Lib.hid (HTU.out.no (fun h => by omega))
        have e1 : ¬ (k : Int) < (s.size : Int) := by omega
        have e1' : (s.size : Int) ≤ (k : Int) := by omega
        have n1 : decide (s.size ≤ k) = true := decide_eq_true (by omega)
        by_cases hi0 : i = 0
        · have c1 : ((k : Int) == (a : Int) + 2) = true := by rw [beq_iff_eq]; omega
          clear hs hKs hTU hr7 hhe hR hk hin hdrn
          go_wp2_with fail
          go_quiet (fail)
          go_wp2_with fail
          go_ret2
          exact th_none HR.out (HDN.out _)
        · have c1 : ((k : Int) == (a : Int) + 2) = false := by rw [beq_eq_false_iff_ne]; omega
          clear hs hKs hTU hr7 hhe hR hk hin hdrn
          go_wp2_with fail
          go_quiet (fail)
          go_wp2_with fail
          go_ret2
          exact th_none HR.out (HDN.out _)
end Go.Proofs.YtmbekgfbnapelaaDoor
