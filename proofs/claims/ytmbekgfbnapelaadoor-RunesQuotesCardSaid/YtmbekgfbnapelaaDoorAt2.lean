/-
  WALKS OF THE DOCUMENT's ANSWER: cognateref01.At where the first byte begins several (made by program: one text for two, three, four bytes).
-/
import Derived.Test.YtmbekgfbnapelaaDoorAt
namespace Go.Proofs.YtmbekgfbnapelaaDoor
open Go.RowKit Go.Lib
set_option linter.unusedVariables false

theorem Kind3.small {b L r0 least : Nat} (h : Kind3 b L r0 least) {s : ByteArray} {p j : Nat} (hj : j + 1 < L) (ht : tails s p j) : accR s p r0 j ≤ 33000 := by
  have e := accR_le s p r0 j ht
  have hr : (r0 ≤ 31 ∧ L = 2) ∨ (r0 ≤ 15 ∧ L = 3) ∨ (r0 ≤ 7 ∧ L = 4) := by unfold Kind3 at h; omega
  have e0 : accB r0 0 = r0 := rfl
  have e1 : accB r0 1 = 64 * r0 + 63 := rfl
  have e2 : accB r0 2 = 64 * (64 * r0 + 63) + 63 := rfl
  have hj3 : j = 0 ∨ j = 1 ∨ j = 2 := by omega
  rcases hj3 with hj3 | hj3 | hj3 <;> rw [hj3] at e ⊢ <;> omega
theorem tails_step {s : ByteArray} {p j : Nat} (h : tails s p j) (ht : tailB (s.get! (p + 1 + j)).toNat = true) : tails s p (j + 1) := fun i hi => by
  by_cases h2 : i < j
  · exact h i h2
  · obtain rfl : i = j := by omega
    exact ht
theorem tails_zero (s : ByteArray) (p : Nat) : tails s p 0 := fun i hi => by omega
theorem accR_zero (s : ByteArray) (p r0 : Nat) : accR s p r0 0 = r0 := rfl
theorem accR_succ (s : ByteArray) (p r0 k : Nat) : accR s p r0 (k + 1) = 64 * accR s p r0 k + ((s.get! (p + 1 + k)).toNat - 128) := rfl
theorem tail_is (b : Nat) (v : Bool) (w : World) (h : tailB b = v) : Calls Tryd.prog 92 #[.int .u8 b] w fun e w' => e = .returned (.bool v) ∧ w = w' := by
  rw [← h]; exact tail_any b w
theorem rune_is (r : Int) (v : Bool) (w : World) (h : runeB r = v) : Calls Tryd.prog 49 #[.int .i32 r] w fun e w' => e = .returned (.bool v) ∧ w = w' := by
  rw [← h]; exact rune_any r w
theorem tail_of {s : ByteArray} {q : Nat} {v : Bool} (h : tailB (s.get! q).toNat = v) (i : Nat) (hi : i < s.size) (e : i = q) : tailB (s[i]'hi).toNat = v := by
  subst e; rw [← get_lt s i hi]; exact h
theorem byte_of {s : ByteArray} {q : Nat} (i : Nat) (hi : i < s.size) (e : i = q) : (s[i]'hi).toNat = (s.get! q).toNat := by
  subst e; rw [← get_lt s i hi]
theorem lead_conv (b : Nat) (c : Nat) (h : c ≤ b) : ((b : Int) - c) = ((b - c : Nat) : Int) := by omega


set_option maxRecDepth 100000 in
set_option maxHeartbeats 2000000 in
theorem ref_at_2 (s : ByteArray) (p : Nat) (w : World) (hp : p < s.size) (hs : s.size ≤ 1073741824) (ha : 192 ≤ (s.get! p).toNat) (hb : (s.get! p).toNat < 224) :
    Calls Tryd.prog 74 #[.string s, .int .i64 p] w fun e w' => e = .returned (pieceV s p) ∧ Below w.heap.size w w' := by
  have hk : Kind3 (s.get! p).toNat 2 ((s.get! p).toNat - 192) 128 := by unfold Kind3; omega
  have HK := Lib.hid hk
  clear hk
  have hg := get_lt s p hp
  have g1 : ¬ (s[p].toNat : Int) < 128 := by rw [← hg]; omega
  have g2 : (192 : Int) ≤ (s[p].toNat : Int) := by rw [← hg]; omega
  have g3 : (s[p].toNat : Int) < 224 := by rw [← hg]; omega
  have HG := Lib.hid hg
  clear hg
  by_cases hn : p + 2 ≤ s.size
  · obtain ⟨r0, hr0⟩ : ∃ r0, r0 = (s.get! p).toNat - 192 := ⟨_, rfl⟩
    rw [← hr0] at HK
    have hr1 : (s[p].toNat : Int) - 192 = (r0 : Int) := by rw [← HG.out]; omega
    have HR := Lib.hid hr1
    clear hr1 hr0 ha hb
    go_enter Tryd.func74, Tryd.ntmps74
    go_wp2_with fail
    rw [HR.out]
    go_loop [7, 9] (fun r i => ∃ j : Nat, j + 1 ≤ 2 ∧ tails s p j ∧ r = .int .i32 (accR s p r0 j) ∧ i = .int .i64 (j + 1 : Nat)) (fun _ i => 2 - (intOf i).toNat)
    case atStart => exact ⟨0, by omega, tails_zero s p, by rw [accR_zero], rfl⟩
    case round =>
      obtain ⟨j, hj, ht, rfl, rfl⟩ := hrel
      have HTl := Lib.hid ht
      clear ht
      by_cases hlt : j + 1 < 2
      · have hsm := HK.out.small hlt HTl.out
        cases hq : tailB (s.get! (p + 1 + j)).toNat with
        | true =>
          have hq2 := (tailB_iff _).1 hq
          have hts := tails_step HTl.out hq
          have HTS := Lib.hid hts
          have HQ := Lib.hid hq
          clear hq hts
          go_wp2_with fail
          refine (tail_is _ true _ ?hh).mono ?_
          case hh => exact tail_of HQ.out _ _ (by omega)
          rintro e w' ⟨rfl, rfl⟩
          go_wp2_with fail
          go_round
          case rel => exact ⟨j + 1, by omega, HTS.out, by rw [accR_succ]; rw [byte_of (q := p + 1 + j) _ _ (by omega)]; go_num, by go_num⟩
          case measure => simp [intOf]; omega
        | false => 
          have hv := pieceV_brk s p (HK.out.tail hlt hq)
          have HV := Lib.hid hv
          have HQ := Lib.hid hq
          clear hv hq
          go_wp2_with fail
          refine (tail_is _ false _ ?hh).mono ?_
          case hh => exact tail_of HQ.out _ _ (by omega)
          rintro e w' ⟨rfl, rfl⟩
          go_wp2_with fail
          exact bodyPost_ret (v := .agg #[.int .i32 65533, .int .i64 p, .int .i64 1, .bool true]) (by simp [results, Tryd.results74, go_sem]) rfl ⟨ret_v HV.out.symm, ((Below.refl _ _).alloc (Nat.le_refl _) _).alloc (by simp) _⟩
      · obtain rfl : j = 2 - 1 := by omega
        have hD := HK.out.done hn HTl.out
        obtain ⟨c, hc⟩ : ∃ c, c = accR s p r0 (2 - 1) := ⟨_, rfl⟩
        have hcl : c ≤ 2200000 := by
          have e := accR_le s p r0 (2 - 1) HTl.out
          have ee : accB r0 (2 - 1) = 64 * r0 + 63 := rfl
          have hr : (r0 ≤ 31 ∧ 2 = 2) ∨ (r0 ≤ 15 ∧ 2 = 3) ∨ (r0 ≤ 7 ∧ 2 = 4) := by have := HK.out; unfold Kind3 at this; omega
          rw [← hc] at e
          omega
        rw [← hc] at hD ⊢
        have HD := Lib.hid hD
        clear hD hc
        by_cases h1 : c < 128
        · have hv := pieceV_brk s p (HD.out.1 (.inl h1))
          have HV := Lib.hid hv
          have h1' : (c : Int) < 128 := by omega
          clear hv h1
          go_wp2_with fail
          exact bodyPost_ret (v := .agg #[.int .i32 65533, .int .i64 p, .int .i64 1, .bool true]) (by simp [results, Tryd.results74, go_sem]) rfl ⟨ret_v HV.out.symm, (((Below.refl _ _).alloc (Nat.le_refl _) _).alloc (by simp) _).alloc (by simp; omega) _⟩
        · have h1' : ¬ (c : Int) < 128 := by omega
          cases hru : runeB (c : Int) with
          | true =>
            have hfin := HD.out.2 (by omega) hru
            have hv := pieceV_not s p _ _ hfin.1 hfin.2.1 hfin.2.2
            have HV := Lib.hid hv
            have HRU := Lib.hid hru
            clear hv hru hfin h1
            go_wp2_with fail
            refine (rune_is _ true _ HRU.out).mono ?_
            rintro e w' ⟨rfl, rfl⟩
            go_wp2_with fail
            exact bodyPost_ret (v := .agg #[.int .i32 c, .int .i64 p, .int .i64 2, .bool false]) (by simp [results, Tryd.results74, go_sem]) rfl ⟨ret_v HV.out.symm, (((Below.refl _ _).alloc (Nat.le_refl _) _).alloc (by simp) _).alloc (by simp; omega) _⟩
          | false =>
            have hv := pieceV_brk s p (HD.out.1 (.inr hru))
            have HV := Lib.hid hv
            have HRU := Lib.hid hru
            clear hv hru h1
            go_wp2_with fail
            refine (rune_is _ false _ HRU.out).mono ?_
            rintro e w' ⟨rfl, rfl⟩
            go_wp2_with fail
            exact bodyPost_ret (v := .agg #[.int .i32 65533, .int .i64 p, .int .i64 1, .bool true]) (by simp [results, Tryd.results74, go_sem]) rfl ⟨ret_v HV.out.symm, (((Below.refl _ _).alloc (Nat.le_refl _) _).alloc (by simp) _).alloc (by simp; omega) _⟩
  · have hv := pieceV_brk s p (HK.out.short (by omega))
    have HV := Lib.hid hv
    clear hv
    go_enter Tryd.func74, Tryd.ntmps74
    go_wp2
    exact bodyPost_ret (v := .agg #[.int .i32 65533, .int .i64 p, .int .i64 1, .bool true]) (by simp [results, Tryd.results74, go_sem]) rfl ⟨ret_v HV.out.symm, ((Below.refl _ _).alloc (Nat.le_refl _) _).alloc (by simp) _⟩

set_option maxRecDepth 100000 in
set_option maxHeartbeats 2000000 in
theorem ref_at_3 (s : ByteArray) (p : Nat) (w : World) (hp : p < s.size) (hs : s.size ≤ 1073741824) (ha : 224 ≤ (s.get! p).toNat) (hb : (s.get! p).toNat < 240) :
    Calls Tryd.prog 74 #[.string s, .int .i64 p] w fun e w' => e = .returned (pieceV s p) ∧ Below w.heap.size w w' := by
  have hk : Kind3 (s.get! p).toNat 3 ((s.get! p).toNat - 224) 2048 := by unfold Kind3; omega
  have HK := Lib.hid hk
  clear hk
  have hg := get_lt s p hp
  have g1 : ¬ (s[p].toNat : Int) < 128 := by rw [← hg]; omega
  have g2 : (224 : Int) ≤ (s[p].toNat : Int) := by rw [← hg]; omega
  have g3 : (s[p].toNat : Int) < 240 := by rw [← hg]; omega
  have HG := Lib.hid hg
  clear hg
  by_cases hn : p + 3 ≤ s.size
  · obtain ⟨r0, hr0⟩ : ∃ r0, r0 = (s.get! p).toNat - 224 := ⟨_, rfl⟩
    rw [← hr0] at HK
    have hr1 : (s[p].toNat : Int) - 224 = (r0 : Int) := by rw [← HG.out]; omega
    have HR := Lib.hid hr1
    clear hr1 hr0 ha hb
    go_enter Tryd.func74, Tryd.ntmps74
    go_wp2_with fail
    rw [HR.out]
    go_loop [7, 9] (fun r i => ∃ j : Nat, j + 1 ≤ 3 ∧ tails s p j ∧ r = .int .i32 (accR s p r0 j) ∧ i = .int .i64 (j + 1 : Nat)) (fun _ i => 3 - (intOf i).toNat)
    case atStart => exact ⟨0, by omega, tails_zero s p, by rw [accR_zero], rfl⟩
    case round =>
      obtain ⟨j, hj, ht, rfl, rfl⟩ := hrel
      have HTl := Lib.hid ht
      clear ht
      by_cases hlt : j + 1 < 3
      · have hsm := HK.out.small hlt HTl.out
        cases hq : tailB (s.get! (p + 1 + j)).toNat with
        | true =>
          have hq2 := (tailB_iff _).1 hq
          have hts := tails_step HTl.out hq
          have HTS := Lib.hid hts
          have HQ := Lib.hid hq
          clear hq hts
          go_wp2_with fail
          refine (tail_is _ true _ ?hh).mono ?_
          case hh => exact tail_of HQ.out _ _ (by omega)
          rintro e w' ⟨rfl, rfl⟩
          go_wp2_with fail
          go_round
          case rel => exact ⟨j + 1, by omega, HTS.out, by rw [accR_succ]; rw [byte_of (q := p + 1 + j) _ _ (by omega)]; go_num, by go_num⟩
          case measure => simp [intOf]; omega
        | false => 
          have hv := pieceV_brk s p (HK.out.tail hlt hq)
          have HV := Lib.hid hv
          have HQ := Lib.hid hq
          clear hv hq
          go_wp2_with fail
          refine (tail_is _ false _ ?hh).mono ?_
          case hh => exact tail_of HQ.out _ _ (by omega)
          rintro e w' ⟨rfl, rfl⟩
          go_wp2_with fail
          exact bodyPost_ret (v := .agg #[.int .i32 65533, .int .i64 p, .int .i64 1, .bool true]) (by simp [results, Tryd.results74, go_sem]) rfl ⟨ret_v HV.out.symm, ((Below.refl _ _).alloc (Nat.le_refl _) _).alloc (by simp) _⟩
      · obtain rfl : j = 3 - 1 := by omega
        have hD := HK.out.done hn HTl.out
        obtain ⟨c, hc⟩ : ∃ c, c = accR s p r0 (3 - 1) := ⟨_, rfl⟩
        have hcl : c ≤ 2200000 := by
          have e := accR_le s p r0 (3 - 1) HTl.out
          have ee : accB r0 (3 - 1) = 64 * (64 * r0 + 63) + 63 := rfl
          have hr : (r0 ≤ 31 ∧ 3 = 2) ∨ (r0 ≤ 15 ∧ 3 = 3) ∨ (r0 ≤ 7 ∧ 3 = 4) := by have := HK.out; unfold Kind3 at this; omega
          rw [← hc] at e
          omega
        rw [← hc] at hD ⊢
        have HD := Lib.hid hD
        clear hD hc
        by_cases h1 : c < 2048
        · have hv := pieceV_brk s p (HD.out.1 (.inl h1))
          have HV := Lib.hid hv
          have h1' : (c : Int) < 2048 := by omega
          clear hv h1
          go_wp2_with fail
          exact bodyPost_ret (v := .agg #[.int .i32 65533, .int .i64 p, .int .i64 1, .bool true]) (by simp [results, Tryd.results74, go_sem]) rfl ⟨ret_v HV.out.symm, (((Below.refl _ _).alloc (Nat.le_refl _) _).alloc (by simp) _).alloc (by simp; omega) _⟩
        · have h1' : ¬ (c : Int) < 2048 := by omega
          cases hru : runeB (c : Int) with
          | true =>
            have hfin := HD.out.2 (by omega) hru
            have hv := pieceV_not s p _ _ hfin.1 hfin.2.1 hfin.2.2
            have HV := Lib.hid hv
            have HRU := Lib.hid hru
            clear hv hru hfin h1
            go_wp2_with fail
            refine (rune_is _ true _ HRU.out).mono ?_
            rintro e w' ⟨rfl, rfl⟩
            go_wp2_with fail
            exact bodyPost_ret (v := .agg #[.int .i32 c, .int .i64 p, .int .i64 3, .bool false]) (by simp [results, Tryd.results74, go_sem]) rfl ⟨ret_v HV.out.symm, (((Below.refl _ _).alloc (Nat.le_refl _) _).alloc (by simp) _).alloc (by simp; omega) _⟩
          | false =>
            have hv := pieceV_brk s p (HD.out.1 (.inr hru))
            have HV := Lib.hid hv
            have HRU := Lib.hid hru
            clear hv hru h1
            go_wp2_with fail
            refine (rune_is _ false _ HRU.out).mono ?_
            rintro e w' ⟨rfl, rfl⟩
            go_wp2_with fail
            exact bodyPost_ret (v := .agg #[.int .i32 65533, .int .i64 p, .int .i64 1, .bool true]) (by simp [results, Tryd.results74, go_sem]) rfl ⟨ret_v HV.out.symm, (((Below.refl _ _).alloc (Nat.le_refl _) _).alloc (by simp) _).alloc (by simp; omega) _⟩
  · have hv := pieceV_brk s p (HK.out.short (by omega))
    have HV := Lib.hid hv
    clear hv
    go_enter Tryd.func74, Tryd.ntmps74
    go_wp2
    exact bodyPost_ret (v := .agg #[.int .i32 65533, .int .i64 p, .int .i64 1, .bool true]) (by simp [results, Tryd.results74, go_sem]) rfl ⟨ret_v HV.out.symm, ((Below.refl _ _).alloc (Nat.le_refl _) _).alloc (by simp) _⟩

set_option maxRecDepth 100000 in
set_option maxHeartbeats 2000000 in
theorem ref_at_4 (s : ByteArray) (p : Nat) (w : World) (hp : p < s.size) (hs : s.size ≤ 1073741824) (ha : 240 ≤ (s.get! p).toNat) (hb : (s.get! p).toNat < 248) :
    Calls Tryd.prog 74 #[.string s, .int .i64 p] w fun e w' => e = .returned (pieceV s p) ∧ Below w.heap.size w w' := by
  have hk : Kind3 (s.get! p).toNat 4 ((s.get! p).toNat - 240) 65536 := by unfold Kind3; omega
  have HK := Lib.hid hk
  clear hk
  have hg := get_lt s p hp
  have g1 : ¬ (s[p].toNat : Int) < 128 := by rw [← hg]; omega
  have g2 : (240 : Int) ≤ (s[p].toNat : Int) := by rw [← hg]; omega
  have g3 : (s[p].toNat : Int) < 248 := by rw [← hg]; omega
  have HG := Lib.hid hg
  clear hg
  by_cases hn : p + 4 ≤ s.size
  · obtain ⟨r0, hr0⟩ : ∃ r0, r0 = (s.get! p).toNat - 240 := ⟨_, rfl⟩
    rw [← hr0] at HK
    have hr1 : (s[p].toNat : Int) - 240 = (r0 : Int) := by rw [← HG.out]; omega
    have HR := Lib.hid hr1
    clear hr1 hr0 ha hb
    go_enter Tryd.func74, Tryd.ntmps74
    go_wp2_with fail
    rw [HR.out]
    go_loop [7, 9] (fun r i => ∃ j : Nat, j + 1 ≤ 4 ∧ tails s p j ∧ r = .int .i32 (accR s p r0 j) ∧ i = .int .i64 (j + 1 : Nat)) (fun _ i => 4 - (intOf i).toNat)
    case atStart => exact ⟨0, by omega, tails_zero s p, by rw [accR_zero], rfl⟩
    case round =>
      obtain ⟨j, hj, ht, rfl, rfl⟩ := hrel
      have HTl := Lib.hid ht
      clear ht
      by_cases hlt : j + 1 < 4
      · have hsm := HK.out.small hlt HTl.out
        cases hq : tailB (s.get! (p + 1 + j)).toNat with
        | true =>
          have hq2 := (tailB_iff _).1 hq
          have hts := tails_step HTl.out hq
          have HTS := Lib.hid hts
          have HQ := Lib.hid hq
          clear hq hts
          go_wp2_with fail
          refine (tail_is _ true _ ?hh).mono ?_
          case hh => exact tail_of HQ.out _ _ (by omega)
          rintro e w' ⟨rfl, rfl⟩
          go_wp2_with fail
          go_round
          case rel => exact ⟨j + 1, by omega, HTS.out, by rw [accR_succ]; rw [byte_of (q := p + 1 + j) _ _ (by omega)]; go_num, by go_num⟩
          case measure => simp [intOf]; omega
        | false => 
          have hv := pieceV_brk s p (HK.out.tail hlt hq)
          have HV := Lib.hid hv
          have HQ := Lib.hid hq
          clear hv hq
          go_wp2_with fail
          refine (tail_is _ false _ ?hh).mono ?_
          case hh => exact tail_of HQ.out _ _ (by omega)
          rintro e w' ⟨rfl, rfl⟩
          go_wp2_with fail
          exact bodyPost_ret (v := .agg #[.int .i32 65533, .int .i64 p, .int .i64 1, .bool true]) (by simp [results, Tryd.results74, go_sem]) rfl ⟨ret_v HV.out.symm, ((Below.refl _ _).alloc (Nat.le_refl _) _).alloc (by simp) _⟩
      · obtain rfl : j = 4 - 1 := by omega
        have hD := HK.out.done hn HTl.out
        obtain ⟨c, hc⟩ : ∃ c, c = accR s p r0 (4 - 1) := ⟨_, rfl⟩
        have hcl : c ≤ 2200000 := by
          have e := accR_le s p r0 (4 - 1) HTl.out
          have ee : accB r0 (4 - 1) = 64 * (64 * (64 * r0 + 63) + 63) + 63 := rfl
          have hr : (r0 ≤ 31 ∧ 4 = 2) ∨ (r0 ≤ 15 ∧ 4 = 3) ∨ (r0 ≤ 7 ∧ 4 = 4) := by have := HK.out; unfold Kind3 at this; omega
          rw [← hc] at e
          omega
        rw [← hc] at hD ⊢
        have HD := Lib.hid hD
        clear hD hc
        by_cases h1 : c < 65536
        · have hv := pieceV_brk s p (HD.out.1 (.inl h1))
          have HV := Lib.hid hv
          have h1' : (c : Int) < 65536 := by omega
          clear hv h1
          go_wp2_with fail
          exact bodyPost_ret (v := .agg #[.int .i32 65533, .int .i64 p, .int .i64 1, .bool true]) (by simp [results, Tryd.results74, go_sem]) rfl ⟨ret_v HV.out.symm, (((Below.refl _ _).alloc (Nat.le_refl _) _).alloc (by simp) _).alloc (by simp; omega) _⟩
        · have h1' : ¬ (c : Int) < 65536 := by omega
          cases hru : runeB (c : Int) with
          | true =>
            have hfin := HD.out.2 (by omega) hru
            have hv := pieceV_not s p _ _ hfin.1 hfin.2.1 hfin.2.2
            have HV := Lib.hid hv
            have HRU := Lib.hid hru
            clear hv hru hfin h1
            go_wp2_with fail
            refine (rune_is _ true _ HRU.out).mono ?_
            rintro e w' ⟨rfl, rfl⟩
            go_wp2_with fail
            exact bodyPost_ret (v := .agg #[.int .i32 c, .int .i64 p, .int .i64 4, .bool false]) (by simp [results, Tryd.results74, go_sem]) rfl ⟨ret_v HV.out.symm, (((Below.refl _ _).alloc (Nat.le_refl _) _).alloc (by simp) _).alloc (by simp; omega) _⟩
          | false =>
            have hv := pieceV_brk s p (HD.out.1 (.inr hru))
            have HV := Lib.hid hv
            have HRU := Lib.hid hru
            clear hv hru h1
            go_wp2_with fail
            refine (rune_is _ false _ HRU.out).mono ?_
            rintro e w' ⟨rfl, rfl⟩
            go_wp2_with fail
            exact bodyPost_ret (v := .agg #[.int .i32 65533, .int .i64 p, .int .i64 1, .bool true]) (by simp [results, Tryd.results74, go_sem]) rfl ⟨ret_v HV.out.symm, (((Below.refl _ _).alloc (Nat.le_refl _) _).alloc (by simp) _).alloc (by simp; omega) _⟩
  · have hv := pieceV_brk s p (HK.out.short (by omega))
    have HV := Lib.hid hv
    clear hv
    go_enter Tryd.func74, Tryd.ntmps74
    go_wp2
    exact bodyPost_ret (v := .agg #[.int .i32 65533, .int .i64 p, .int .i64 1, .bool true]) (by simp [results, Tryd.results74, go_sem]) rfl ⟨ret_v HV.out.symm, ((Below.refl _ _).alloc (Nat.le_refl _) _).alloc (by simp) _⟩
theorem ref_at_any (s : ByteArray) (p : Nat) (w : World) (hp : p < s.size) (hs : s.size ≤ 1073741824) :
    Calls Tryd.prog 74 #[.string s, .int .i64 p] w fun e w' => e = .returned (pieceV s p) ∧ Below w.heap.size w w' := by
  by_cases h1 : (s.get! p).toNat < 128
  · exact ref_at_low s p w hp (by omega) h1
  by_cases h2 : (s.get! p).toNat < 192
  · exact ref_at_dead s p w hp (by omega) (by omega) (.inl h2)
  by_cases h3 : (s.get! p).toNat < 224
  · exact ref_at_2 s p w hp hs (by omega) h3
  by_cases h4 : (s.get! p).toNat < 240
  · exact ref_at_3 s p w hp hs (by omega) h4
  by_cases h5 : (s.get! p).toNat < 248
  · exact ref_at_4 s p w hp hs (by omega) h5
  · exact ref_at_dead s p w hp (by omega) (by omega) (.inr (by omega))
end Go.Proofs.YtmbekgfbnapelaaDoor
