/-
  PLAIN: what chapter 2 says of alphabets, on lists; how an alphabet lies in memory.
  PLAIN: a row of runes in memory.
  WALKS: feature.nameEnd, isName, areFeatures, isRune, featuresOf, isClass.
  WALKS: feature.featuresOf, isClass, isRune.
-/
import Derived.SliceStrings
import Derived.Laws.BitsAllLaws
import Derived.WalkSmall
import Derived.Test.YtmechinlaladiaaDoorZAD
namespace Go.Proofs.YtmechinlaladiaaDoor
open Go.RowKit Go.Lib
set_option linter.unusedVariables false

/-! ### kit -/
theorem bcell {W w1 : World} (hb : RowKit.Below W.heap.size W w1) : (∀ b o, b < W.heap.size → w1.cell? ⟨b, o, none⟩ = W.cell? ⟨b, o, none⟩) ∧ (∀ b o, b < W.heap.size → w1.frozen? ⟨b, o, none⟩ = W.frozen? ⟨b, o, none⟩) :=
  ⟨fun b o h => hb.cell (p := ⟨b, o, none⟩) h, fun b o h => hb.frozen (p := ⟨b, o, none⟩) h⟩
theorem ownF_below {w w' : World} {B e size n : Nat} {v : Value} {xs : List Value} (h : w.ownsRow B e size v n xs) (hb : RowKit.Below w.heap.size w w') : w'.ownsRow B e size v n xs := by
  refine ⟨h.1, ?_⟩
  rcases h.2 with hn | ⟨g, cap, cur, rfl, hbg, hgg, rest⟩
  · exact .inl hn
  · exact .inr ⟨g, cap, cur, rfl, hbg, (hb.block g (Array.getElem?_eq_some_iff.1 hgg).1).trans hgg, rest⟩
theorem ownF_shape {w : World} {B e size n : Nat} {v : Value} {xs : List Value} (h : w.ownsRow B e size v n xs) : ∃ o c, v = .slice o n c := by
  rcases h.2 with ⟨rfl, rfl⟩ | ⟨g, cap, cur, rfl, _⟩
  · exact ⟨_, _, rfl⟩
  · exact ⟨_, _, rfl⟩
theorem lt_of_cell {w : World} {b o : Nat} {v : Value} (h : w.cell? ⟨b, o, none⟩ = some v) : b < w.heap.size := World.block_lt_of_cell? w ⟨b, o, none⟩ h

/-! ### names -/
def azB (c : UInt8) : Bool := decide (97 ≤ c.toNat ∧ c.toNat ≤ 122)
def runL (l : List UInt8) : Nat := (l.takeWhile azB).length
/-- Where the run of a to z ends that begins at p. -/
def endOf (s : ByteArray) (p : Nat) : Nat := p + runL (s.data.toList.drop p)
theorem drop_byte (s : ByteArray) (p : Nat) (h : p < s.size) : s.data.toList.drop p = s[p] :: s.data.toList.drop (p + 1) := by
  rw [List.drop_eq_getElem_cons (by simpa using h)]
  rfl
theorem endOf_go (s : ByteArray) (p : Nat) (h : p < s.size) (ha : azB s[p] = true) : endOf s p = endOf s (p + 1) := by
  unfold endOf runL
  rw [drop_byte s p h, List.takeWhile_cons, ha]
  simp
  omega
theorem endOf_no (s : ByteArray) (p : Nat) (h : p < s.size) (ha : azB s[p] = false) : endOf s p = p := by
  unfold endOf runL
  rw [drop_byte s p h, List.takeWhile_cons, ha]
  simp
theorem endOf_end (s : ByteArray) (p : Nat) (h : ¬ p < s.size) : endOf s p = p := by
  unfold endOf runL
  rw [List.drop_eq_nil_of_le (by simpa using h)]
  rfl
theorem runL_le (l : List UInt8) : runL l ≤ l.length := List.Sublist.length_le (List.takeWhile_sublist _)
theorem endOf_le (s : ByteArray) (p : Nat) (h : p ≤ s.size) : endOf s p ≤ s.size := by
  have := runL_le (s.data.toList.drop p)
  unfold endOf
  simp only [List.length_drop] at this
  have e : s.data.toList.length = s.size := by simp
  omega
theorem endOf_ge (s : ByteArray) (p : Nat) : p ≤ endOf s p := by unfold endOf; omega
theorem runL_all (l : List UInt8) : runL l = l.length ↔ l.all azB = true := by
  induction l with
  | nil => simp [runL]
  | cons c l ih =>
    unfold runL at ih ⊢
    rw [List.takeWhile_cons]
    cases h : azB c with
    | true => simp [h]; simpa using ih
    | false => simp [h]
def nameB (s : ByteArray) : Bool := decide (1 ≤ s.size ∧ s.size ≤ 32) && s.data.toList.all azB
theorem endOf_all (s : ByteArray) : endOf s 0 = s.size ↔ s.data.toList.all azB = true := by
  unfold endOf
  rw [← runL_all]
  have e : s.data.toList.length = s.size := by simp
  simp [e]

/-! ### features -/
def featsB (fs : List ByteArray) : Bool := decide (fs.length ≤ 24) && (List.range fs.length).all fun k => nameB (fs.getD k ByteArray.empty) && !Lib.containsS (fs.take k) (fs.getD k ByteArray.empty)
theorem featsB_iff (fs : List ByteArray) : featsB fs = true ↔ fs.length ≤ 24 ∧ ∀ k, k < fs.length → nameB (fs.getD k ByteArray.empty) = true ∧ Lib.containsS (fs.take k) (fs.getD k ByteArray.empty) = false := by
  unfold featsB
  simp [List.all_eq_true]
theorem featsB_bad (fs : List ByteArray) (k : Nat) (hk : k < fs.length) (h : nameB (fs.getD k ByteArray.empty) = false ∨ Lib.containsS (fs.take k) (fs.getD k ByteArray.empty) = true) : featsB fs = false := by
  cases hf : featsB fs with
  | false => rfl
  | true =>
    have := ((featsB_iff fs).1 hf).2 k hk
    rcases h with h | h
    · rw [h] at this; exact absurd this.1 (by simp)
    · rw [h] at this; exact absurd this.2 (by simp)

/-! ### letters -/
structure Ltr where
  r : Int
  p : Nat
  m : Nat
  deriving DecidableEq, Inhabited
def letB (r : Int) : Bool := (decide (97 ≤ r ∧ r ≤ 122) || decide (65 ≤ r ∧ r ≤ 90)) || (decide (161 ≤ r ∧ r ≠ 65533) && Lib.validRune r)
def allN (k : Nat) : Nat := 2 ^ k - 1
def clsB (k p m : Nat) : Bool := decide ((p ||| m) &&& (4294967295 - allN k) = 0) && decide (p &&& m = 0)
def ltrB (k : Nat) (l : Ltr) : Bool := letB l.r && clsB k l.p l.m
def ltrsB (k : Nat) (ls : List Ltr) : Bool := decide (1 ≤ ls.length ∧ ls.length ≤ 128) && ls.all (ltrB k) && decide (ls.map Ltr.r).Nodup
def alB (fs : List ByteArray) (ls : List Ltr) : Bool := featsB fs && ltrsB fs.length ls
theorem allN_lt {k : Nat} (h : k ≤ 24) : allN k < 16777216 := by
  have : 2 ^ k ≤ 2 ^ 24 := Nat.pow_le_pow_right (by decide) h
  have h0 : 0 < 2 ^ k := Nat.two_pow_pos k
  unfold allN
  omega

/-! ### in memory -/
structure Al where
  pf : Option Addr
  bf : Nat
  f0 : Nat
  cf : Nat
  fs : List ByteArray
  pl : Option Addr
  bl : Nat
  l0 : Nat
  cl : Nat
  ls : List Ltr
def Al.v (A : Al) : Value := .agg #[.slice A.pf A.fs.length A.cf, .slice A.pl A.ls.length A.cl]
def Al.ok (A : Al) : Bool := alB A.fs A.ls
structure FsIn (pf : Option Addr) (bf f0 cf : Nat) (fs : List ByteArray) (w : World) : Prop where
  at_ : 0 < fs.length → pf = some ⟨bf, f0, none⟩
  cells : ∀ j, j < fs.length → w.cell? ⟨bf, f0 + j, none⟩ = some (.string (fs.getD j ByteArray.empty))
  room : fs.length ≤ cf
  big : fs.length ≤ 140737488355328
  small : ∀ j, j < fs.length → (fs.getD j ByteArray.empty).size ≤ 140737488355328
structure LsIn (pl : Option Addr) (bl l0 : Nat) (ls : List Ltr) (w : World) : Prop where
  at_ : 0 < ls.length → pl = some ⟨bl, l0, none⟩
  cr : ∀ j, j < ls.length → w.cell? ⟨bl, l0 + j * 3, none⟩ = some (.int .i32 (ls.getD j default).r)
  cp : ∀ j, j < ls.length → w.cell? ⟨bl, l0 + j * 3 + 1, none⟩ = some (.int .u32 (ls.getD j default).p)
  cm : ∀ j, j < ls.length → w.cell? ⟨bl, l0 + j * 3 + 2, none⟩ = some (.int .u32 (ls.getD j default).m)
  big : ls.length ≤ 140737488355328
  bits : ∀ l ∈ ls, l.p < 4294967296 ∧ l.m < 4294967296 ∧ -2147483648 ≤ l.r ∧ l.r ≤ 2147483647
structure Al.In (A : Al) (w : World) : Prop where
  F : FsIn A.pf A.bf A.f0 A.cf A.fs w
  L : LsIn A.pl A.bl A.l0 A.ls w
theorem FsIn.next {pf : Option Addr} {bf f0 cf : Nat} {fs : List ByteArray} {w w' : World} (h : FsIn pf bf f0 cf fs w) (hb : RowKit.Below w.heap.size w w') : FsIn pf bf f0 cf fs w' :=
  ⟨h.at_, fun j hj => by have h1 := h.cells j hj; rw [hb.cell (p := ⟨bf, f0 + j, none⟩) (lt_of_cell h1)]; exact h1, h.room, h.big, h.small⟩
theorem LsIn.next {pl : Option Addr} {bl l0 : Nat} {ls : List Ltr} {w w' : World} (h : LsIn pl bl l0 ls w) (hb : RowKit.Below w.heap.size w w') : LsIn pl bl l0 ls w' :=
  ⟨h.at_, fun j hj => by have h1 := h.cr j hj; rw [hb.cell (p := ⟨bl, l0 + j * 3, none⟩) (lt_of_cell h1)]; exact h1,
    fun j hj => by have h1 := h.cp j hj; rw [hb.cell (p := ⟨bl, l0 + j * 3 + 1, none⟩) (lt_of_cell h1)]; exact h1,
    fun j hj => by have h1 := h.cm j hj; rw [hb.cell (p := ⟨bl, l0 + j * 3 + 2, none⟩) (lt_of_cell h1)]; exact h1, h.big, h.bits⟩
theorem Al.In.next {A : Al} {w w' : World} (h : A.In w) (hb : RowKit.Below w.heap.size w w') : A.In w' := ⟨h.F.next hb, h.L.next hb⟩
theorem Al.In.alloc {A : Al} {w : World} (h : A.In w) (o : Obj) : A.In (w.alloc o) := h.next ((RowKit.Below.refl _ _).alloc (Nat.le_refl _) _)
theorem LsIn.get {pl : Option Addr} {bl l0 : Nat} {ls : List Ltr} {w : World} (h : LsIn pl bl l0 ls w) (j : Nat) (hj : j < ls.length) :
    (ls.getD j default).p < 4294967296 ∧ (ls.getD j default).m < 4294967296 ∧ -2147483648 ≤ (ls.getD j default).r ∧ (ls.getD j default).r ≤ 2147483647 := by
  rw [List.getD_eq_getElem?_getD, List.getElem?_eq_getElem hj]
  exact h.bits _ (List.getElem_mem hj)

end Go.Proofs.YtmechinlaladiaaDoor
namespace Go.Proofs.YtmechinlaladiaaDoor
open Go.RowKit Go.Lib
set_option linter.unusedVariables false

structure RsIn (pr : Option Addr) (br r0 : Nat) (l : List Int) (w : World) : Prop where
  at_ : 0 < l.length → pr = some ⟨br, r0, none⟩
  cells : ∀ j, j < l.length → w.cell? ⟨br, r0 + j, none⟩ = some (.int .i32 (l.getD j 0))
  big : l.length ≤ 140737488355328
theorem RsIn.next {pr : Option Addr} {br r0 : Nat} {l : List Int} {w w' : World} (h : RsIn pr br r0 l w) (hb : RowKit.Below w.heap.size w w') : RsIn pr br r0 l w' :=
  ⟨h.at_, fun j hj => by have h1 := h.cells j hj; rw [hb.cell (p := ⟨br, r0 + j, none⟩) (lt_of_cell h1)]; exact h1, h.big⟩

/-- A row of runes that a call made, as RsIn. -/
theorem own_rs {w : World} {B : Nat} {v : Value} {l : List Int} (h : w.ownsRow B 21 1 v l.length (l.map E32)) (hb : l.length ≤ 140737488355328) : ∃ pr br cr, v = .slice pr l.length cr ∧ RsIn pr br 0 l w := by
  rcases h.2 with ⟨rfl, hn⟩ | ⟨g, cap, cur, rfl, _⟩
  · exact ⟨none, 0, 0, by rw [hn], ⟨fun h => absurd h (by omega), fun j hj => absurd hj (by omega), hb⟩⟩
  · refine ⟨_, g, cap, rfl, ⟨fun _ => rfl, fun j hj => ?_, hb⟩⟩
    rw [Nat.zero_add, h.cellAt j (by omega), List.getElem?_map, List.getD_eq_getElem?_getD, List.getElem?_eq_getElem hj]
    rfl

/-- Where a rune stands first, from k on; -1: nowhere. -/
def idxI : List Int → Int → Nat → Int
  | [], _, _ => -1
  | y :: l, x, k => if x = y then (k : Int) else idxI l x (k + 1)
theorem idxI_end (l : List Int) (x : Int) (k : Nat) (h : l.length ≤ k) : idxI (l.drop k) x k = -1 := by rw [List.drop_eq_nil_of_le h]; rfl
theorem getD_at {l : List Int} {k : Nat} (hk : k < l.length) : l.getD k 0 = l[k] := by rw [List.getD_eq_getElem?_getD, List.getElem?_eq_getElem hk]; rfl
theorem idxI_yes (l : List Int) (x : Int) (k : Nat) (hk : k < l.length) (h : x = l.getD k 0) : idxI (l.drop k) x k = k := by
  rw [List.drop_eq_getElem_cons hk, idxI, if_pos (by rw [h, getD_at hk])]
theorem idxI_no (l : List Int) (x : Int) (k : Nat) (hk : k < l.length) (h : ¬ x = l.getD k 0) : idxI (l.drop k) x k = idxI (l.drop (k + 1)) x (k + 1) := by
  rw [List.drop_eq_getElem_cons hk, idxI, if_neg (by rw [← getD_at hk]; exact h)]
theorem idxI_ge : ∀ (l : List Int) (x : Int) (k : Nat), -1 ≤ idxI l x k
  | [], _, _ => by simp [idxI]
  | y :: l, x, k => by
    have := idxI_ge l x (k + 1)
    unfold idxI
    split <;> omega
theorem idxI_mem : ∀ (l : List Int) (x : Int) (k : Nat), 0 ≤ idxI l x k ↔ x ∈ l
  | [], _, _ => by simp [idxI]
  | y :: l, x, k => by
    have ih := idxI_mem l x (k + 1)
    unfold idxI
    split
    · rename_i h; subst h; simp
    · rename_i h; rw [ih, List.mem_cons]; exact ⟨Or.inr, fun h' => h'.resolve_left h⟩
end Go.Proofs.YtmechinlaladiaaDoor
namespace Go.Proofs.YtmechinlaladiaaDoor
open Go.RowKit Go.Lib
set_option linter.unusedVariables false

theorem az_eq (s : ByteArray) (k : Nat) (h : k < s.size) : azB s[k] = (decide (97 ≤ (s[k].toNat : Int)) && decide ((s[k].toNat : Int) ≤ 122)) := by
  unfold azB
  rw [Bool.eq_iff_iff]
  simp
  omega

set_option maxHeartbeats 400000 in
theorem nameEnd_any (s : ByteArray) (p : Nat) (w : World) (hs : s.size ≤ 140737488355328) (hp : p ≤ s.size) :
    Calls Tryd.prog 70 #[.string s, .int .i64 p] w fun e w' => e = .returned (.int .i64 (endOf s p)) ∧ w = w' := by
  go_enter Tryd.func70, Tryd.ntmps70
  go_wp2
  go_loop [1] (fun f => ∃ k : Nat, f = .int .i64 k ∧ p ≤ k ∧ k ≤ s.size ∧ Hid (endOf s k = endOf s p)) (fun f => s.size - (intOf f).toNat)
  case atStart => exact ⟨p, rfl, Nat.le_refl _, hp, rfl⟩
  case round =>
    obtain ⟨k, rfl, hpk, hks, HE⟩ := hrel
    by_cases hk : k < s.size
    · cases ha : azB s[k] with
      | true =>
        have h2 := az_eq s k hk
        rw [ha] at h2
        have h3 : 97 ≤ (s[k].toNat : Int) ∧ (s[k].toNat : Int) ≤ 122 := by simpa using h2.symm
        obtain ⟨h4, h5⟩ := h3
        have HA := Lib.hid ha
        clear ha h2
        go_wp2
        go_round
        case rel => exact ⟨k + 1, by go_num, by omega, by omega, (show _ = _ from by rw [← HE.out, endOf_go s k hk HA.out])⟩
        case measure => simp [intOf]; omega
      | false =>
        have h2 := az_eq s k hk
        rw [ha] at h2
        have HA := Lib.hid ha
        clear ha
        by_cases h4 : 97 ≤ (s[k].toNat : Int)
        · have h5 : ¬ (s[k].toNat : Int) ≤ 122 := by
            intro h5
            simp [h4, h5] at h2
          clear h2
          go_wp2
          go_ret
          exact ⟨by rw [← HE.out, endOf_no s k hk HA.out] <;> rfl, rfl⟩
        · clear h2
          go_wp2
          go_ret
          exact ⟨by rw [← HE.out, endOf_no s k hk HA.out] <;> rfl, rfl⟩
    · go_wp2
      go_ret
      exact ⟨by rw [← HE.out, endOf_end s k hk] <;> rfl, rfl⟩

set_option maxHeartbeats 400000 in
theorem isName_any (s : ByteArray) (w : World) (hs : s.size ≤ 140737488355328) :
    Calls Tryd.prog 74 #[.string s] w fun e w' => e = .returned (.bool (nameB s)) ∧ w = w' := by
  have hall := endOf_all s
  obtain ⟨E, hE⟩ : ∃ E, E = endOf s 0 := ⟨_, rfl⟩
  have hc := nameEnd_any s 0
  rw [← hE] at hc hall
  have HC := Lib.hid hc; have HL := Lib.hid hall
  clear hc hall hE
  by_cases h1 : 1 ≤ s.size
  · by_cases h2 : s.size ≤ 32
    · go_enter Tryd.func74, Tryd.ntmps74
      go_wp2_with fail
      refine (HC.out _ hs (Nat.zero_le _)).mono ?_
      rintro e w1 ⟨rfl, rfl⟩
      go_wp2_with fail
      go_ret
      refine ⟨?_, rfl⟩
      have : ((E : Int) == (s.size : Int)) = nameB s := by
        unfold nameB
        rw [Bool.eq_iff_iff]
        simp only [beq_iff_eq, Bool.and_eq_true, decide_eq_true_eq]
        rw [← HL.out]
        omega
      rw [← this] <;> rfl
    · have hn : nameB s = false := by unfold nameB; simp; omega
      have HN := Lib.hid hn
      clear hn
      go_enter Tryd.func74, Tryd.ntmps74
      go_wp2
      go_ret
      exact ⟨by rw [HN.out] <;> rfl, rfl⟩
  · have hn : nameB s = false := by unfold nameB; simp; omega
    have HN := Lib.hid hn
    have h0 : s.size = 0 := by omega
    clear hn
    go_enter Tryd.func74, Tryd.ntmps74
    go_wp2
    go_ret
    exact ⟨by rw [HN.out] <;> rfl, rfl⟩

set_option maxHeartbeats 800000 in
theorem areFeatures_any (pf : Option Addr) (bf f0 cf : Nat) (fs : List ByteArray) (w : World) (hF : FsIn pf bf f0 cf fs w) :
    Calls Tryd.prog 67 #[.slice pf fs.length cf] w fun e w' => e = .returned (.bool (featsB fs)) ∧ w = w' := by
  by_cases h24 : fs.length ≤ 24
  · rcases Nat.eq_zero_or_pos fs.length with h0 | h0
    · have hn : fs = [] := List.length_eq_zero_iff.1 h0
      subst hn
      have hb : featsB [] = true := by decide
      have HB := Lib.hid hb
      clear hb hF
      go_enter Tryd.func67, Tryd.ntmps67
      go_wp2
      go_loop [10] (fun v => v = .int .i64 0) (fun _ => 0)
      case atStart => rfl
      case round =>
        obtain rfl := hrel
        go_wp2
        go_ret
        exact ⟨by rw [HB.out] <;> rfl, rfl⟩
    · obtain rfl := hF.at_ h0
      obtain ⟨n, hn⟩ : ∃ n, n = fs.length := ⟨_, rfl⟩
      have HF := Lib.hid hF
      have hcells := hF.cells
      have hroom := hF.room
      rw [← hn] at h24 h0 hcells hroom ⊢
      obtain ⟨G, hG⟩ : ∃ G : Nat → ByteArray, ∀ t, G t = fs.getD t ByteArray.empty := ⟨fun t => fs.getD t ByteArray.empty, fun _ => rfl⟩
      have cw : ∀ j, j < n → w.cell? ⟨bf, f0 + j, none⟩ = some (.string (G j)) := fun j hj => by rw [hG]; exact hcells j hj
      have HG := Lib.hid hG; have HN := Lib.hid hn
      clear hF hcells hG hn
      go_enter Tryd.func67, Tryd.ntmps67
      go_wp2
      go_loop [10] (fun v => ∃ k : Nat, v = .int .i64 k ∧ k ≤ n ∧ Hid (∀ j, j < k → nameB (fs.getD j ByteArray.empty) = true ∧ Lib.containsS (fs.take j) (fs.getD j ByteArray.empty) = false)) (fun v => n - (intOf v).toNat)
      case atStart => exact ⟨0, rfl, Nat.zero_le _, (show ∀ j, j < 0 → _ from fun j hj => absurd hj (Nat.not_lt_zero _))⟩
      case round =>
        obtain ⟨k, rfl, hk, HP⟩ := hrel
        by_cases hkn : k < n
        · have hsm := HF.out.small k (by rw [← HN.out]; exact hkn)
          rw [← HG.out] at hsm
          cases hb : nameB (G k) with
          | false =>
            have HB := Lib.hid hb
            clear hb
            go_wp2_with fail
            refine (isName_any (G k) _ hsm).mono ?_
            rintro e w1 ⟨rfl, rfl⟩
            rw [HB.out]
            go_wp2_with fail
            go_ret
            exact ⟨by rw [featsB_bad fs k (by rw [← HN.out]; exact hkn) (Or.inl (by rw [← HG.out]; exact HB.out))] <;> rfl, rfl⟩
          | true =>
            have HB := Lib.hid hb
            clear hb
            go_wp2_with fail
            refine (isName_any (G k) _ hsm).mono ?_
            rintro e w1 ⟨rfl, rfl⟩
            rw [HB.out]
            go_wp2_with fail
            refine (Tryd.slices_Contains_string bf f0 k _ fs (G k) _ (by rw [← HN.out]; exact hk) (by omega) HF.out.cells).mono ?_
            rintro e w2 ⟨rfl, rfl⟩
            cases hc : Lib.containsS (fs.take k) (G k) with
            | true =>
              have HC := Lib.hid hc
              clear hc
              go_wp2_with fail
              go_ret
              exact ⟨by rw [featsB_bad fs k (by rw [← HN.out]; exact hkn) (Or.inr (by rw [← HG.out]; exact HC.out))] <;> rfl, rfl⟩
            | false =>
              have HC := Lib.hid hc
              clear hc
              go_wp2_with fail
              go_round
              case rel => exact ⟨k + 1, by go_num, by omega, (show ∀ j, j < k + 1 → _ from fun j hj => by
                by_cases hjk : j < k
                · exact HP.out j hjk
                · obtain rfl : j = k := by omega
                  rw [← HG.out]; exact ⟨HB.out, HC.out⟩)⟩
              case measure => simp [intOf]; omega
        · obtain rfl : k = n := by omega
          go_wp2
          go_ret
          refine ⟨?_, rfl⟩
          rw [(featsB_iff fs).2 ⟨by rw [← HN.out]; exact h24, fun j hj => HP.out j (by rw [HN.out]; exact hj)⟩] <;> rfl
  · have hb : featsB fs = false := by
      cases h : featsB fs with
      | false => rfl
      | true => exact absurd ((featsB_iff fs).1 h).1 h24
    have HB := Lib.hid hb
    have hbig := hF.big
    clear hb hF
    go_enter Tryd.func67, Tryd.ntmps67
    go_wp2
    go_ret
    exact ⟨by rw [HB.out] <;> rfl, rfl⟩

end Go.Proofs.YtmechinlaladiaaDoor
namespace Go.Proofs.YtmechinlaladiaaDoor
open Go.RowKit Go.Lib
set_option linter.unusedVariables false

theorem allN_int (n : Nat) (hn : n ≤ 24) : (((2 : Int) ^ n % 4294967296 - 1) % 4294967296) = (allN n : Int) := by
  have h1 : 2 ^ n ≤ 2 ^ 24 := Nat.pow_le_pow_right (by decide) hn
  have h0 : 0 < 2 ^ n := Nat.two_pow_pos n
  have e : (2 : Int) ^ n = ((2 ^ n : Nat) : Int) := by push_cast; rfl
  rw [e]
  unfold allN
  generalize (2 : Nat) ^ n = p at h0 h1
  omega

set_option maxHeartbeats 400000 in
theorem featuresOf_any (pf pl : Option Addr) (cf n nl cl : Nat) (w : World) (hn : n ≤ 24) :
    Calls Tryd.prog 69 #[.agg #[.slice pf n cf, .slice pl nl cl]] w fun e w' => e = .returned (.int .u32 (allN n)) ∧ Below w.heap.size w w' := by
  have e := allN_int n hn
  have HE := Lib.hid e
  clear e
  go_enter Tryd.func69, Tryd.ntmps69
  go_wp2
  go_ret
  exact ⟨by rw [← HE.out] <;> rfl, (Below.refl _ _).alloc (Nat.le_refl _) _⟩

set_option maxHeartbeats 400000 in
theorem isClass_any (pf pl : Option Addr) (cf n nl cl p m : Nat) (w : World) (hn : n ≤ 24) (hp : p < 4294967296) (hm : m < 4294967296) :
    Calls Tryd.prog 59 #[.agg #[.slice pf n cf, .slice pl nl cl], .int .u32 p, .int .u32 m] w fun e w' => e = .returned (.bool (clsB n p m)) ∧ Below w.heap.size w w' := by
  have hA := allN_lt hn
  have lo : p ||| m < 4294967296 := Nat.or_lt_two_pow (n := 32) hp hm
  have eo := u32_or_nat p m hp hm
  have en := u32_andNot_nat (p ||| m) (allN n) lo (by omega)
  have ea := u32_and_nat p m hp hm
  have hc : clsB n p m = (decide ((p ||| m) &&& (4294967295 - allN n) = 0) && decide (p &&& m = 0)) := rfl
  obtain ⟨O, hO⟩ : ∃ O, O = p ||| m := ⟨_, rfl⟩
  obtain ⟨M, hM⟩ : ∃ M, M = allN n := ⟨_, rfl⟩
  have hF := featuresOf_any pf pl cf n nl cl
  rw [← hO] at eo en hc lo
  rw [← hM] at en hc hA hF
  obtain ⟨X, hX⟩ : ∃ X, X = O &&& (4294967295 - M) := ⟨_, rfl⟩
  obtain ⟨Y, hY⟩ : ∃ Y, Y = p &&& m := ⟨_, rfl⟩
  rw [← hX] at en hc
  rw [← hY] at ea hc
  have HC := Lib.hid hc; have HF := Lib.hid hF
  clear hO hM hX hY hc hF
  by_cases hx : X = 0
  · have hxz : ((X : Int) == 0) = true := by simp [hx]
    go_enter Tryd.func59, Tryd.ntmps59
    go_wp2_with fail
    refine (HF.out _ hn).mono ?_
    rintro e w1 ⟨rfl, hb1⟩
    have HB := Lib.hid hb1
    clear hb1
    go_wp2_with fail
    go_ret
    refine ⟨?_, ((Below.refl _ _).alloc (Nat.le_refl _) _).trans (HB.out.mono (by simp))⟩
    have e1 : ((Y : Int) == 0) = decide (Y = 0) := by rw [Bool.eq_iff_iff]; simp
    rw [HC.out, hx, ← e1] <;> rfl
  · have hxz : ((X : Int) == 0) = false := by simp; omega
    go_enter Tryd.func59, Tryd.ntmps59
    go_wp2_with fail
    refine (HF.out _ hn).mono ?_
    rintro e w1 ⟨rfl, hb1⟩
    have HB := Lib.hid hb1
    clear hb1
    go_wp2_with fail
    go_ret
    refine ⟨?_, ((Below.refl _ _).alloc (Nat.le_refl _) _).trans (HB.out.mono (by simp))⟩
    rw [HC.out]
    simp [hx]

theorem isRune_of (r : Int) (w : World) (b : Bool) (h : letB r = b) (hw : Calls Tryd.prog 76 #[.int .i32 r] w fun e w' => e = .returned (.bool b) ∧ w = w') :
    Calls Tryd.prog 76 #[.int .i32 r] w fun e w' => e = .returned (.bool (letB r)) ∧ w = w' := by rw [h]; exact hw
set_option maxHeartbeats 1000000 in
theorem isRune_any (r : Int) (w : World) :
    Calls Tryd.prog 76 #[.int .i32 r] w fun e w' => e = .returned (.bool (letB r)) ∧ w = w' := by
  by_cases h97 : 97 ≤ r
  · by_cases h122 : r ≤ 122
    · refine isRune_of r w true (by unfold letB; simp [h97, h122]) ?_
      go_enter Tryd.func76, Tryd.ntmps76
      go_wp2
      go_ret
      exact ⟨rfl, rfl⟩
    · have h65 : 65 ≤ r := by omega
      have h90 : ¬ r ≤ 90 := by omega
      by_cases h161 : 161 ≤ r
      · by_cases hb : r = 65533
        · subst hb
          refine isRune_of _ w false (by decide) ?_
          go_enter Tryd.func76, Tryd.ntmps76
          go_wp2
          go_ret
          exact ⟨rfl, rfl⟩
        · have hb1 : (r == 65533) = false := by simp [hb]
          have hb2 : (r != 65533) = true := by simp [hb]
          refine isRune_of r w (Lib.validRune r) (by unfold letB; simp [h122, h90, h161, hb]) ?_
          have hv := Tryd.utf8_ValidRune r
          have HV := Lib.hid hv
          clear hv hb
          go_enter Tryd.func76, Tryd.ntmps76
          go_wp2_with fail
          refine (HV.out _).mono ?_
          rintro e w1 ⟨rfl, rfl⟩
          go_wp2_with fail
          go_ret
          exact ⟨rfl, rfl⟩
      · refine isRune_of r w false (by unfold letB; simp [h122, h90, h161]) ?_
        go_enter Tryd.func76, Tryd.ntmps76
        go_wp2
        go_ret
        exact ⟨rfl, rfl⟩
  · have h161 : ¬ 161 ≤ r := by omega
    by_cases h65 : 65 ≤ r
    · by_cases h90 : r ≤ 90
      · refine isRune_of r w true (by unfold letB; simp [h65, h90]) ?_
        go_enter Tryd.func76, Tryd.ntmps76
        go_wp2
        go_ret
        exact ⟨rfl, rfl⟩
      · refine isRune_of r w false (by unfold letB; simp [h97, h90, h161]) ?_
        go_enter Tryd.func76, Tryd.ntmps76
        go_wp2
        go_ret
        exact ⟨rfl, rfl⟩
    · refine isRune_of r w false (by unfold letB; simp [h97, h65, h161]) ?_
      go_enter Tryd.func76, Tryd.ntmps76
      go_wp2
      go_ret
      exact ⟨rfl, rfl⟩

end Go.Proofs.YtmechinlaladiaaDoor
