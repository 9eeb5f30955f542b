/-
  WALKS: runes.unquoted, Plain.
-/
import Derived.Test.YtmbekgfbnapelaaDoorPut
import Derived.Laws.StructEq
namespace Go.Proofs.YtmbekgfbnapelaaDoor
open Go.RowKit Go.Lib
set_option linter.unusedVariables false

theorem putRead_any (B n : Nat) (v : Value) (xs : List Value) (u : ByteArray) (w : World) (hown : w.ownsRow B 5 1 v n xs) (hn : n ≤ 536870912) (hB : B ≤ w.heap.size) (hu : 0 < u.size) (hul : u.size ≤ 1073741824) :
    Calls Tryd.prog 47 #[v, .string u] w (PutPost B n xs (thing u) w) := by
  by_cases h0 : (u.get! 0).toNat = 92
  · exact putRead_esc B n v xs u w hown hn hB hu hul h0
  · exact putRead_plain B n v xs u w hown hn hB hu h0

theorem readB_size {u : ByteArray} {m : Nat} (h : readB u = some m) : 2 ≤ u.size := by
  unfold readB at h
  split at h
  · rename_i hh; exact hh.1
  · cases h
theorem rrF_size (u : ByteArray) : ∀ f i r, 0 < (rrF u f i r).2 → (rrF u f i r).2 ≤ u.size
  | 0, _, _ => by simp [rrF]
  | f + 1, i, r => by
    have ih := rrF_size u f (i + 1) (r * 16 + (hexv (u.get! i).toNat).toNat)
    unfold rrF
    split
    · rename_i h1
      split
      · split
        · intro h; exact absurd h (by simp)
        · intro _; show i + 1 ≤ u.size; omega
      · split
        · intro h; exact absurd h (by simp)
        · exact ih
    · intro h; exact absurd h (by simp)
theorem readR_size (u : ByteArray) (h : 0 < (readR u).2) : (readR u).2 ≤ u.size := rrF_size u 7 0 0 h
theorem pair_le {l : List UInt8} {k m : Nat} (h1 : k ≤ m) (h2 : l.length ≤ 4) : ((l, k) : List UInt8 × Nat).2 ≤ m ∧ ((l, k) : List UInt8 × Nat).1.length ≤ 4 := ⟨h1, h2⟩
theorem thing_le (u : ByteArray) (hu : 0 < u.size) : (thing u).2 ≤ u.size ∧ (thing u).1.length ≤ 4 := by
  have hex : (u.extract 2 u.size).size = u.size - 2 := by simp
  unfold thing
  by_cases h0 : (u.get! 0).toNat = 92
  · rw [if_neg (fun hh => hh h0)]
    by_cases h1 : u.size = 1
    · rw [if_pos h1]; exact ⟨Nat.zero_le _, Nat.zero_le _⟩
    · rw [if_neg h1]
      split
      · exact ⟨by show 2 ≤ u.size; omega, by simp⟩
      · split
        · split
          · rename_i m hm
            have := readB_size hm
            exact ⟨by show 4 ≤ u.size; omega, by simp⟩
          · exact ⟨Nat.zero_le _, Nat.zero_le _⟩
        · split
          · split
            · rename_i hk
              have := readR_size _ hk
              generalize readR (u.extract 2 u.size) = q at this ⊢
              have h4 := (encL_length (q.1 : Int)).2
              exact pair_le (by omega) h4
            · exact ⟨Nat.zero_le _, Nat.zero_le _⟩
          · exact ⟨Nat.zero_le _, Nat.zero_le _⟩
  · rw [if_pos h0]
    split
    · exact ⟨by show 1 ≤ u.size; omega, by simp⟩
    · exact ⟨Nat.zero_le _, Nat.zero_le _⟩

/-- What unquoted answers: the text, and where the first wrong thing is (-1: nowhere). -/
def unqF (s : ByteArray) : Nat → Nat → List UInt8 → List UInt8 × Int
  | 0, at_, _ => ([], at_)
  | f + 1, at_, acc => if at_ < s.size then (if (s.get! at_).toNat = 34 then (if at_ + 1 < s.size then ([], at_ + 1) else (acc, -1)) else if (thing (s.extract at_ s.size)).2 = 0 then ([], at_) else unqF s f (at_ + (thing (s.extract at_ s.size)).2) (acc ++ (thing (s.extract at_ s.size)).1)) else ([], at_)
def unq (s : ByteArray) : List UInt8 × Int := if s.size = 0 then ([], 0) else if ¬ (s.get! 0).toNat = 34 then ([], 0) else unqF s s.size 1 []
theorem unqF_out (s : ByteArray) (f at_ : Nat) (acc : List UInt8) (h : ¬ at_ < s.size) : unqF s f at_ acc = ([], (at_ : Int)) := by
  cases f with
  | zero => rfl
  | succ f => show (if at_ < s.size then _ else _) = _; rw [if_neg h]
theorem unqF_at (s : ByteArray) (f a : Nat) (acc : List UInt8) (h : a < s.size) : unqF s (f + 1) a acc = if (s.get! a).toNat = 34 then (if a + 1 < s.size then (([], (a : Int) + 1) : List UInt8 × Int) else (acc, -1)) else if (thing (s.extract a s.size)).2 = 0 then ([], (a : Int)) else unqF s f (a + (thing (s.extract a s.size)).2) (acc ++ (thing (s.extract a s.size)).1) := by
  show (if a < s.size then _ else _) = _
  rw [if_pos h]
theorem unqF_fuel (s : ByteArray) : ∀ f g a acc, s.size ≤ f + a → s.size ≤ g + a → unqF s f a acc = unqF s g a acc
  | 0, g, a, acc, h, _ => by rw [unqF_out s g a acc (by omega)]; rfl
  | f + 1, 0, a, acc, _, h => by rw [unqF_out s (f + 1) a acc (by omega)]; rfl
  | f + 1, g + 1, a, acc, h, k => by
    by_cases ha : a < s.size
    · rw [unqF_at s f a acc ha, unqF_at s g a acc ha]
      split
      · rfl
      · split
        · rfl
        · exact unqF_fuel s f g _ _ (by omega) (by omega)
    · rw [unqF_out s (f + 1) a acc ha, unqF_out s (g + 1) a acc ha]
theorem unq_step (s : ByteArray) (a : Nat) (acc : List UInt8) (h : a < s.size) (h1 : 1 ≤ a) : unqF s s.size a acc = if (s.get! a).toNat = 34 then (if a + 1 < s.size then (([], (a : Int) + 1) : List UInt8 × Int) else (acc, -1)) else if (thing (s.extract a s.size)).2 = 0 then ([], (a : Int)) else unqF s s.size (a + (thing (s.extract a s.size)).2) (acc ++ (thing (s.extract a s.size)).1) := by
  obtain ⟨f, hf⟩ : ∃ f, s.size = f + 1 := ⟨s.size - 1, by omega⟩
  have e : unqF s s.size a acc = unqF s (f + 1) a acc := by rw [hf]
  rw [e, unqF_at s f a acc h]
  split
  · rfl
  · split
    · rfl
    · exact unqF_fuel s f s.size _ _ (by omega) (by omega)
def UnqPost (s : ByteArray) (w : World) (e : Ending) (w' : World) : Prop := e = .returned (.tuple #[.string (strOf (unq s).1), .int .i64 (unq s).2]) ∧ Below w.heap.size w w'
theorem unq_good {s : ByteArray} {w w' : World} {acc : List UInt8} (h : unq s = (acc, -1)) (hw : Below w.heap.size w w') : UnqPost s w (.returned (.tuple #[.string (strOf acc), .int .i64 (-1)])) w' := by
  unfold UnqPost
  rw [h]
  exact ⟨rfl, hw⟩
theorem unq_post {s : ByteArray} {w w' : World} {b : ByteArray} {i : Int} (h : unq s = ([], i)) (hb : b = strOf []) (hw : Below w.heap.size w w') : UnqPost s w (.returned (.tuple #[.string b, .int .i64 i])) w' := by
  subst hb
  unfold UnqPost
  rw [h]
  exact ⟨rfl, hw⟩

set_option maxRecDepth 100000 in
set_option maxHeartbeats 4000000 in
theorem unquoted_any (s : ByteArray) (w : World) (hs : s.size ≤ 1048576) : Calls Tryd.prog 26 #[.string s] w (UnqPost s w) := by
  by_cases h0 : s.size = 0
  · have he : s = ByteArray.empty := by
      apply ByteArray.ext; apply Array.eq_empty_of_size_eq_zero; exact h0
    have HR : Hid (unq s = ([], 0)) := by show unq s = _; unfold unq; rw [if_pos h0]
    subst he
    go_enter Tryd.func26, Tryd.ntmps26
    go_wp2_with fail
    go_ret2
    exact unq_post HR.out rfl (Below.refl _ _)
  have hne : s.toList.isEmpty = false := by
    rw [ByteArray.toList_eq, List.isEmpty_eq_false_iff]
    intro h
    apply h0
    have := congrArg List.length h
    simpa using this
  have hx := get_run' s 0 (by omega) 0 rfl
  have hxl := get_u8 s 0
  obtain ⟨x, hxe⟩ : ∃ x, x = (s.get! 0).toNat := ⟨_, rfl⟩
  rw [← hxe] at hx hxl
  by_cases h1 : x = 34
  · have h1' : ((x : Int) == 34) = true := by rw [beq_iff_eq]; omega
    have HR : Hid (unq s = unqF s s.size 1 []) := by show unq s = _; unfold unq; rw [if_neg h0, if_neg (fun hh => hh (by omega))]
    obtain ⟨i0, hi, hz0, hz1, hz2⟩ := info_parts byte_info
    clear hxe h1
    go_enter Tryd.func26, Tryd.ntmps26
    go_wp2_with (at_make; refine wpList_make_own _ rfl _ _ 60 rfl w.heap.size 5 i0 _ 1 Tryd.underlying60 hi hz0 hz1 .i64 .i64 _ s.size rfl rfl rfl ?c1 ?c2 ?c3 ?_)
    case c1 => rw [hz2]; omega
    case c2 => unfold maxLen; omega
    case c3 => exact Nat.le_refl _
    intro w2 hown2 hgrow2
    have hb2 : Below w.heap.size w w2 := (Below.refl _ _).grown hgrow2 (Nat.le_refl _) (fun k hk => by cases hk)
    have H2 := Lib.hid hown2; have HB2 := Lib.hid hb2
    clear hown2 hgrow2 hb2
    go_wp2_with fail
    go_loopw [4, 5] (fun v av wr => ∃ (a : Nat) (acc : List UInt8), av = .int .i64 (a : Nat) ∧ 1 ≤ a ∧ a ≤ s.size ∧ acc.length ≤ 4 * a ∧ unqF s s.size a acc = unq s ∧ wr.ownsRow w.heap.size 5 1 v acc.length (byteCells acc) ∧ Below w.heap.size w wr) (fun _ av _ => s.size - (RowKit.intOf av).toNat)
    case atStart => exact ⟨1, [], rfl, Nat.le_refl _, by omega, by simp, HR.out.symm, H2.out, HB2.out⟩
    case round =>
      obtain ⟨a, acc, rfl, ha1, has, hacc, hrel, hown, hbw⟩ := hrel
      obtain ⟨N, hN1, hN2⟩ : ∃ N : Int, (s.size : Int) ≤ N ∧ N ≤ 1048576 := ⟨s.size, by omega, by omega⟩
      have HSz := Lib.hid hs
      have HO := Lib.hid hown; have HBw := Lib.hid hbw
      have hsz := hbw.size
      obtain ⟨o, c, rfl⟩ := own_shape hown
      by_cases h2 : a < s.size
      · have hst := unq_step s a acc h2 ha1
        have hya := get_run' s a h2 a rfl
        have hyl := get_u8 s a
        have htl := thing_le (s.extract a s.size) (by simp; omega)
        have hes : (s.extract a s.size).size = s.size - a := by simp
        rw [hes] at htl
        obtain ⟨y, hye⟩ : ∃ y, y = (s.get! a).toNat := ⟨_, rfl⟩
        obtain ⟨U, hU⟩ : ∃ U, U = s.extract a s.size := ⟨_, rfl⟩
        rw [← hye, ← hU, hrel] at hst
        rw [← hye] at hya hyl
        rw [← hU] at htl hes
        have HU := Lib.hid hU
        have hend : ((a : Int) == (s.size : Int)) = false := by rw [beq_eq_false_iff_ne]; omega
        by_cases h3 : y = 34
        · rw [if_pos h3] at hst
          have h3' : ((y : Int) == 34) = true := by rw [beq_iff_eq]; omega
          by_cases h4 : a + 1 < s.size
          · rw [if_pos h4] at hst
            have HS := Lib.hid hst
            clear hst hrel hown hbw hye hU h3 htl hes hs hacc
            go_wp2_with fail
            go_ret2
            exact unq_post (i := (a : Int) + 1) HS.out rfl HBw.out
          · rw [if_neg h4] at hst
            have HS := Lib.hid hst
            have hcv := conv_own hown rfl
            clear hst hrel hown hbw hye hU h3 htl hes hs hacc
            go_wp2_with fail
            go_ret2
            exact unq_good HS.out HBw.out
        · rw [if_neg h3] at hst
          have h3' : ((y : Int) == 34) = false := by rw [beq_eq_false_iff_ne]; omega
          have HP := Lib.hid (fun (wx : World) (hx : wx.ownsRow w.heap.size 5 1 (.slice o acc.length c) acc.length (byteCells acc)) (hb : w.heap.size ≤ wx.heap.size) => putRead_any w.heap.size acc.length (.slice o acc.length c) (byteCells acc) U wx hx (by omega) hb (by omega) (by omega))
          obtain ⟨t, ht⟩ : ∃ t, t = thing U := ⟨_, rfl⟩
          rw [← ht] at hst htl HP
          by_cases h4 : t.2 = 0
          · rw [if_pos h4] at hst
            have HS := Lib.hid hst
            have HTl := Lib.hid htl
            have HAc := Lib.hid hacc
            clear hst hrel hown hbw hye hU h3 ht htl hes hs hacc
            go_wp2_with fail
            rw [← HU.out]
            refine (HP.out _ HO.out hsz).mono ?_
            rintro e w3 ⟨v3, rfl, hown3, hb3, hk3⟩
            rw [h4]
            have HB3 := Lib.hid (HBw.out.trans hb3)
            obtain ⟨o3, c3, rfl⟩ := own_shape hown3
            clear hown3 hb3 hk3
            go_wp2_with fail
            go_ret2
            exact unq_post (i := (a : Int)) HS.out rfl HB3.out
          · rw [if_neg h4] at hst
            have HS := Lib.hid hst
            have h4' : ((t.2 : Int) == 0) = false := by rw [beq_eq_false_iff_ne]; omega
            obtain ⟨K, hK⟩ : ∃ K, K = t.2 := ⟨_, rfl⟩
            have HTl := Lib.hid htl
            have HAc := Lib.hid hacc
            clear hst hrel hown hbw hye hU h3 ht htl hes hs hacc
            go_wp2_with fail
            rw [← HU.out]
            refine (HP.out _ HO.out hsz).mono ?_
            rintro e w3 ⟨v3, rfl, hown3, hb3, hk3⟩
            have htl := HTl.out
            have hacc := HAc.out
            have hs := HSz.out
            rw [← hK] at h4' h4 htl HS ⊢
            have hrow : w3.ownsRow w.heap.size 5 1 v3 (acc ++ t.1).length (byteCells (acc ++ t.1)) := by
              rw [byteCells_append, List.length_append]; exact hown3
            have hlen : (acc ++ t.1).length ≤ 4 * (a + K) := by rw [List.length_append]; omega
            have HB3 := Lib.hid (HBw.out.trans hb3)
            have HR3 := Lib.hid hrow; have HL3 := Lib.hid hlen
            obtain ⟨m, hm⟩ : ∃ m, m = (acc ++ t.1).length := ⟨_, rfl⟩
            rw [← hm] at hrow
            obtain ⟨o3, c3, rfl⟩ := own_shape hrow
            have HM := Lib.hid hm
            have hK4 : a + K ≤ s.size := by omega
            clear hown3 hb3 hk3 hrow hlen htl hK hm hacc hs
            go_wp2_with fail
            first
              | exact ⟨⟨a + K, acc ++ t.1, by go_num, by omega, hK4, HL3.out, HS.out.symm, HR3.out, HB3.out⟩, by simp [RowKit.intOf]; omega⟩
              | (go_roundw
                 case rel => exact ⟨a + K, acc ++ t.1, by go_num, by omega, hK4, HL3.out, HS.out.symm, HR3.out, HB3.out⟩
                 case measure => simp [RowKit.intOf]; omega)
      · obtain rfl : a = s.size := by omega
        have hst := unqF_out s s.size s.size acc h2
        rw [hrel] at hst
        have HS := Lib.hid hst
        clear hst hrel hown hbw
        go_wp2_with fail
        go_ret2
        exact unq_post (i := (s.size : Int)) HS.out rfl HBw.out
  · have h1' : ((x : Int) == 34) = false := by rw [beq_eq_false_iff_ne]; omega
    have HR : Hid (unq s = ([], 0)) := by show unq s = _; unfold unq; rw [if_neg h0, if_pos (by omega)]
    clear hxe h1
    go_enter Tryd.func26, Tryd.ntmps26
    go_wp2_with fail
    go_ret2
    exact unq_post HR.out rfl (Below.refl _ _)
end Go.Proofs.YtmbekgfbnapelaaDoor
