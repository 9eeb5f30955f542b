/-
  WALKS OF THE LIBRARY: (*strings.Builder).copyCheck, WriteString, of a builder that the call has made ('Lib.IsBuilder').
  WALKS: feature.bitOf, Bit, Text.
  WALKS: feature.Text.
  WALKS: feature.Parse.
-/
import Derived.Shelf.Strings.Builder1
import Derived.Laws.Externs
import Derived.Laws.Concat
import Derived.Carry
import Derived.Deep.Cut
import Derived.MapKept
import Derived.Test.YtmechinlaladiaaDoorZAE
import Derived.Test.YtmechinlaladiaaDoorZAG
namespace Go.Proofs.YtmechinlaladiaaDoor
open Go.RowKit Go.Lib
set_option linter.unusedVariables false

abbrev IsB (B b : Nat) (bs : List Value) (w : World) : Prop := Lib.IsBuilder 101 5 B b bs w
abbrev BAt (B b : Nat) (p : Value) (bs : List Value) (w : World) : Prop := Lib.BuilderAt 101 5 B b p bs w

theorem b_size : ∃ j : TypeInfo, Tryd.prog.info? 101 = some j ∧ j.size = 2 := by
  obtain ⟨j, hj, hjs⟩ := Option.map_eq_some_iff.1 Tryd.Builder_Extra_169.toX72.sizeBuilder
  exact ⟨j, hj, hjs⟩

set_option maxHeartbeats 1000000 in
set_option maxRecDepth 100000 in
theorem cc_used (b : Nat) (w : World) (h0 : w.cell? ⟨b, 0, none⟩ = some (.pointer (some ⟨b, 0, none⟩))) :
    Calls Tryd.prog 65 #[.pointer (some ⟨b, 0, none⟩)] w fun e w' => e = .returned (.tuple #[]) ∧ w' = w := by
  obtain ⟨j, hj, _⟩ := b_size
  go_enter Tryd.func65, Tryd.ntmps65
  go_wp2
  rw [Lib.run_neq_ptr_same w _ Tryd.underlying98 hj]
  go_wp2
  go_end0
  exact ⟨rfl, rfl⟩

set_option maxHeartbeats 1000000 in
set_option maxRecDepth 100000 in
theorem cc_fresh (b : Nat) (w : World) (h0 : w.cell? ⟨b, 0, none⟩ = some (.pointer none)) (hsh : w.shape? b = some (101, 2)) (hfz : w.frozen? ⟨b, 0, none⟩ = false) :
    Calls Tryd.prog 65 #[.pointer (some ⟨b, 0, none⟩)] w fun e w' => e = .returned (.tuple #[]) ∧ w' = w.setCell ⟨b, 0, none⟩ (.pointer (some ⟨b, 0, none⟩)) := by
  obtain ⟨j, hj, hjs⟩ := b_size
  go_enter Tryd.func65, Tryd.ntmps65
  go_wp2
  rw [Lib.run_to_unsafe w ⟨b, 0, none⟩ Tryd.underlying98 Tryd.underlying135 hj (by rw [hjs]; decide) hsh (Nat.zero_lt_succ 1)]
  simp only [Result.andThen]
  rw [Oper.upon_value]
  go_wp2
  rw [run_callFunc_extern Tryd.func72 (by kernel_rfl) (by kernel_rfl) (by kernel_rfl) (e := Extern.AbiNoEscape.same) (by kernel_rfl)]
  rw [Lib.run_noEscape]
  simp only [Result.andThen]
  rw [Oper.upon_value]
  go_wp2
  rw [Lib.run_from_unsafe w ⟨b, 0, none⟩ Tryd.underlying135 Tryd.underlying98 hj hsh Tryd.Builder_Extra_169.toX72.liesBuilder]
  simp only [Result.andThen]
  rw [Oper.upon_value]
  go_wp2
  go_end0
  exact ⟨rfl, rfl⟩

theorem cc_any (B b : Nat) (bs : List Value) (w : World) (h : IsB B b bs w) :
    Calls Tryd.prog 65 #[.pointer (some ⟨b, 0, none⟩)] w fun e w' => e = .returned (.tuple #[]) ∧ (BAt B b (.pointer (some ⟨b, 0, none⟩)) bs w' ∧ Below B w w') := by
  rcases h with h | h
  · refine (cc_fresh b w h.cell0 h.shape h.frozen0).mono ?_
    rintro e w' ⟨rfl, rfl⟩
    exact ⟨rfl, h.used _, (Below.refl B w).setCell (p := ⟨b, 0, none⟩) h.1 _⟩
  · refine (cc_used b w h.cell0).mono ?_
    rintro e w' ⟨rfl, rfl⟩
    exact ⟨rfl, h, Below.refl B _⟩

theorem byteF_info : (Tryd.prog.info? 5).map (fun i => (i.zero, i.size, i.bytes)) = some (some (.int .u8 0), 1, 1) := by kernel_rfl

set_option maxHeartbeats 2000000 in
set_option maxRecDepth 100000 in
theorem writeS_any (B b : Nat) (bs : List Value) (s : ByteArray) (w : World) (h : IsB B b bs w) (hlen : bs.length + s.size ≤ 140737488355328) (hBw : B ≤ w.heap.size) :
    Calls Tryd.prog 54 #[.pointer (some ⟨b, 0, none⟩), .string s] w fun e w' => e = .returned (.tuple #[.int .i64 s.size, .nilIface]) ∧ (BAt B b (.pointer (some ⟨b, 0, none⟩)) (bs ++ Lib.strCells s) w' ∧ Below B w w') := by
  obtain ⟨i0, hi, hz0, hz1, hz2⟩ := info_parts byteF_info
  have HI0 := Lib.hid hi; have HZ0 := Lib.hid hz0; have HZ1 := Lib.hid hz1; have HZ2 := Lib.hid hz2
  clear hi hz0 hz1 hz2
  go_enter Tryd.func54, Tryd.ntmps54
  go_wp2_with fail
  refine (cc_any B b bs _ h).mono ?_
  rintro e w1 ⟨rfl, h1, hb1⟩
  obtain ⟨hB, v, hbk, hown, hne⟩ := h1
  have c0 : w1.cell? ⟨b, 0, none⟩ = some (.pointer (some ⟨b, 0, none⟩)) := by rw [Lib.cell_of_heap hbk]; rfl
  have c1 : w1.cell? ⟨b, 1, none⟩ = some v := by rw [Lib.cell_of_heap hbk]; rfl
  have HO := Lib.hid hown; have HB1 := Lib.hid hb1; have HBK := Lib.hid hbk; have HNE := Lib.hid hne
  clear hown hb1 hbk hne h
  obtain ⟨ao0, n0, cap0, rfl⟩ : ∃ ao n' cap, v = .slice ao n' cap := by
    rcases HO.out.2 with ⟨hv, _⟩ | ⟨g, cap, cur, hv, _⟩
    · exact ⟨_, _, _, hv⟩
    · exact ⟨_, _, _, hv⟩
  go_wp2_with (at_builtin; refine Lib.wpList_append_own_string _ rfl _ _ 99 9 rfl B 5 i0 Tryd.underlying99 Tryd.underlying9 HI0.out HZ0.out HZ1.out HZ2.out _ _ _ rfl HO.out s rfl ?c3 ?c4 ?c5 ?_)
  case c3 => unfold maxLen; omega
  case c4 => omega
  case c5 => have := HB1.out.size; omega
  intro v' w2 hown' hgrow _
  have hlt : b < w1.heap.size := by
    rcases Nat.lt_or_ge b w1.heap.size with h' | h'
    · exact h'
    · have := HBK.out; simp [Array.getElem?_eq_none h'] at this
  have hb2 : w2.heap[b]? = some (.cells #[.pointer (some ⟨b, 0, none⟩), .slice ao0 n0 cap0] 101 (0, 0)) := by
    rw [hgrow.block b hlt (fun e => HNE.out e.symm)]
    exact HBK.out
  have d0 : w2.cell? ⟨b, 0, none⟩ = some (.pointer (some ⟨b, 0, none⟩)) := by rw [Lib.cell_of_heap hb2]; rfl
  have d1 : w2.cell? ⟨b, 1, none⟩ = some (.slice ao0 n0 cap0) := by rw [Lib.cell_of_heap hb2]; rfl
  have f1 : w2.frozen? ⟨b, 1, none⟩ = false := Lib.frozen_of_heap hb2 1
  obtain ⟨ao, n', cap, rfl⟩ : ∃ ao n' cap, v' = .slice ao n' cap := by
    rcases hown'.2 with ⟨hv, _⟩ | ⟨g, cap, cur, hv, _⟩
    · exact ⟨_, _, _, hv⟩
    · exact ⟨_, _, _, hv⟩
  have HO2 := Lib.hid hown'; have HG := Lib.hid hgrow; have HB2 := Lib.hid hb2
  clear hown' hgrow hb2
  go_wp2
  go_ret2
  refine ⟨rfl, ?_, ?_⟩
  · exact Lib.BuilderAt.put (T := 101) (e := 5) hB HB2.out (bs' := bs ++ Lib.strCells s) (by simpa [Lib.strCells_length] using HO2.out) (by decide)
  · exact (HB1.out.grown HG.out (by have := HB1.out.size; omega) (fun k hk => (HO.out.lt k hk).1)).setCell (p := ⟨b, 1, none⟩) hB _

end Go.Proofs.YtmechinlaladiaaDoor
namespace Go.Proofs.YtmechinlaladiaaDoor
open Go.RowKit Go.Lib
set_option linter.unusedVariables false

theorem toList_eq (s : ByteArray) : s.toList = s.data.toList := Lib.toList_data s
theorem bytes_eq {a b : ByteArray} : (a.toList == b.toList) = decide (a = b) := by
  rw [Bool.eq_iff_iff]
  simp only [beq_iff_eq, decide_eq_true_eq, toList_eq]
  constructor
  · intro h; cases a; cases b; simp at h; rw [h]
  · rintro rfl; rfl
theorem pow_int (k : Nat) (hk : k < 24) : ((2 : Int) ^ k % 4294967296) = ((2 ^ k : Nat) : Int) ∧ (2 ^ k : Nat) < 16777216 ∧ 0 < (2 ^ k : Nat) := by
  have h1 : 2 ^ k < 2 ^ 24 := Nat.pow_lt_pow_right (by decide) hk
  have h0 : 0 < 2 ^ k := Nat.two_pow_pos k
  have e : (2 : Int) ^ k = ((2 ^ k : Nat) : Int) := by push_cast; rfl
  rw [e]
  generalize (2 : Nat) ^ k = p at h0 h1
  omega

/-! ### bitOf, Bit -/
def bitF : List ByteArray → ByteArray → Nat → Nat
  | [], _, _ => 0
  | f :: l, s, i => if f = s then 2 ^ i else bitF l s (i + 1)
def bitI (A : Al) (s : ByteArray) : Nat := bitF A.fs s 0
def bitR (A : Al) (s : ByteArray) : Nat × Int := if A.ok then (if bitI A s = 0 then (0, 8) else (bitI A s, 0)) else (0, 7)
theorem bitF_yes (fs : List ByteArray) (s : ByteArray) (k : Nat) (hk : k < fs.length) (h : fs.getD k ByteArray.empty = s) : bitF (fs.drop k) s k = 2 ^ k := by
  rw [List.getD_eq_getElem?_getD, List.getElem?_eq_getElem hk] at h
  simp only [Option.getD_some] at h
  rw [List.drop_eq_getElem_cons hk, bitF, if_pos h]
theorem bitF_no (fs : List ByteArray) (s : ByteArray) (k : Nat) (hk : k < fs.length) (h : ¬ fs.getD k ByteArray.empty = s) : bitF (fs.drop k) s k = bitF (fs.drop (k + 1)) s (k + 1) := by
  rw [List.getD_eq_getElem?_getD, List.getElem?_eq_getElem hk] at h
  simp only [Option.getD_some] at h
  rw [List.drop_eq_getElem_cons hk, bitF, if_neg h]
theorem bitF_lt : ∀ (l : List ByteArray) (s : ByteArray) (i : Nat), i + l.length ≤ 24 → bitF l s i < 16777216
  | [], _, _, _ => by simp [bitF]
  | f :: l, s, i, h => by
    simp only [List.length_cons] at h
    unfold bitF
    split
    · exact Nat.lt_of_lt_of_le (Nat.pow_lt_pow_right (by decide) (show i < 24 by omega)) (Nat.le_refl _)
    · exact bitF_lt l s (i + 1) (by omega)

set_option maxHeartbeats 800000 in
theorem bitOf_any (pf : Option Addr) (bf f0 cf : Nat) (fs : List ByteArray) (pl : Option Addr) (nl cl : Nat) (s : ByteArray) (w : World) (h24 : fs.length ≤ 24) (hF : FsIn pf bf f0 cf fs w) :
    Calls Tryd.prog 71 #[.agg #[.slice pf fs.length cf, .slice pl nl cl], .string s] w fun e w' => e = .returned (.int .u32 (bitF fs s 0)) ∧ w' = w.alloc (.cells #[.slice pf fs.length cf, .slice pl nl cl] 31) := by
  rcases Nat.eq_zero_or_pos fs.length with h0 | h0
  · obtain rfl : fs = [] := List.length_eq_zero_iff.1 h0
    have hb : bitF [] s 0 = 0 := rfl
    rw [hb]
    clear hF h0 hb h24
    go_enter Tryd.func71, Tryd.ntmps71
    go_wp2
    go_loop [10] (fun v => v = .int .i64 0) (fun _ => 0)
    case atStart => rfl
    case round =>
      obtain rfl := hrel
      go_wp2
      go_ret
      exact ⟨rfl, rfl⟩
  · obtain rfl := hF.at_ h0
    obtain ⟨n, hn⟩ : ∃ n, n = fs.length := ⟨_, rfl⟩
    have hcells := hF.cells
    rw [← hn] at h24 h0 hcells ⊢
    obtain ⟨G, hG⟩ : ∃ G : Nat → ByteArray, ∀ t, G t = fs.getD t ByteArray.empty := ⟨fun t => fs.getD t ByteArray.empty, fun _ => rfl⟩
    have cw : ∀ j, j < n → (w.alloc (.cells #[.slice (some ⟨bf, f0, none⟩) n cf, .slice pl nl cl] 31)).cell? ⟨bf, f0 + j, none⟩ = some (.string (G j)) := fun j hj => by
      rw [World.cell?_alloc_lt _ _ _ (lt_of_cell (hcells j hj)), hG]; exact hcells j hj
    have HG := Lib.hid hG; have HN := Lib.hid hn; have HW := Lib.hid cw
    clear hF hcells hG hn cw
    go_enter Tryd.func71, Tryd.ntmps71
    go_wp2
    have cw := HW.out
    generalize hW1 : w.alloc (.cells #[.slice (some ⟨bf, f0, none⟩) n cf, .slice pl nl cl] 31) = W1 at cw ⊢
    have HW1 := Lib.hid hW1
    clear hW1 HW
    go_loop [10] (fun v => ∃ k : Nat, v = .int .i64 k ∧ k ≤ n ∧ Hid (bitF (fs.drop k) s k = bitF fs s 0)) (fun v => n - (intOf v).toNat)
    case atStart => exact ⟨0, rfl, Nat.zero_le _, rfl⟩
    case round =>
      obtain ⟨k, rfl, hk, HB⟩ := hrel
      by_cases hkn : k < n
      · have hy := bitF_yes fs s k (by rw [← HN.out]; exact hkn)
        have hno := bitF_no fs s k (by rw [← HN.out]; exact hkn)
        rw [← HG.out] at hy hno
        have hbe := bytes_eq (a := G k) (b := s)
        have HY := Lib.hid hy; have HNo := Lib.hid hno
        clear hy hno
        by_cases he : G k = s
        · have hp := pow_int k (by omega)
          obtain ⟨P2, hP2⟩ : ∃ P2, P2 = (2 : Nat) ^ k := ⟨_, rfl⟩
          rw [← hP2] at hp
          obtain ⟨e1, e2, e3⟩ := hp
          have hx : bitF fs s 0 = P2 := by rw [← HB.out, HY.out he, hP2]
          have HX := Lib.hid hx
          have hbt : ((G k).toList == s.toList) = true := by rw [hbe]; simp [he]
          clear hbe hx he hP2
          go_wp2
          go_ret
          exact ⟨by rw [HX.out] <;> rfl, HW1.out.symm⟩
        · have hbt : ((G k).toList == s.toList) = false := by rw [hbe]; simp [he]
          have HE := Lib.hid he
          clear hbe he
          go_wp2
          go_round
          case rel => exact ⟨k + 1, by go_num, by omega, (show _ = _ from by rw [← HB.out, HNo.out HE.out])⟩
          case measure => simp [intOf]; omega
      · obtain rfl : k = n := by omega
        have hx : bitF fs s 0 = 0 := by rw [← HB.out, HN.out, List.drop_length]; rfl
        have HX := Lib.hid hx
        clear hx
        go_wp2
        go_ret
        exact ⟨by rw [HX.out] <;> rfl, HW1.out.symm⟩

end Go.Proofs.YtmechinlaladiaaDoor
namespace Go.Proofs.YtmechinlaladiaaDoor
open Go.RowKit Go.Lib
set_option linter.unusedVariables false

/-- A class's text: the features from number i on. -/
def txtF : List ByteArray → Nat → Nat → Nat → List UInt8
  | [], _, _, _ => []
  | f :: l, i, p, m => (if p &&& 2 ^ i = 0 then (if m &&& 2 ^ i = 0 then [] else 45 :: f.data.toList) else 43 :: f.data.toList) ++ txtF l (i + 1) p m
def textR (A : Al) (p m : Nat) : List UInt8 × Int := if aacR A p m = 0 then (txtF A.fs 0 p m, 0) else ([], aacR A p m)
theorem txtF_at (fs : List ByteArray) (k p m : Nat) (hk : k < fs.length) :
    txtF (fs.drop k) k p m = (if p &&& 2 ^ k = 0 then (if m &&& 2 ^ k = 0 then [] else 45 :: (fs.getD k ByteArray.empty).data.toList) else 43 :: (fs.getD k ByteArray.empty).data.toList) ++ txtF (fs.drop (k + 1)) (k + 1) p m := by
  rw [List.getD_eq_getElem?_getD, List.getElem?_eq_getElem hk, List.drop_eq_getElem_cons hk, txtF]
  rfl
theorem nameB_size {s : ByteArray} (h : nameB s = true) : s.size ≤ 32 := by
  unfold nameB at h
  simp only [Bool.and_eq_true, decide_eq_true_eq] at h
  exact h.1.2
theorem Al.ok_name {A : Al} (h : A.ok = true) (k : Nat) (hk : k < A.fs.length) : nameB (A.fs.getD k ByteArray.empty) = true := by
  rw [Al.ok_eq, Bool.and_eq_true] at h
  exact (((featsB_iff _).1 h.1).2 k hk).1

theorem cat_bytes (c : UInt8) (G : ByteArray) : Lib.strCells (⟨#[c]⟩ ++ G) = byteCells (c :: G.data.toList) := by
  rw [strCells_eq]
  congr 1

theorem cat_size (c : UInt8) (g : ByteArray) : (⟨#[c]⟩ ++ g : ByteArray).size = g.size + 1 := by
  rw [ByteArray.size_append]
  show 1 + g.size = _
  omega

def TextPost (x : List UInt8 × Int) (w : World) (e : Ending) (w' : World) : Prop := e = .returned (.tuple #[.string ⟨x.1.toArray⟩, .int .i64 x.2]) ∧ Below w.heap.size w w'

set_option maxHeartbeats 2000000 in
set_option maxRecDepth 100000 in
theorem textF_any (A : Al) (p m : Nat) (w : World) (hA : A.In w) (hp : p < 4294967296) (hm : m < 4294967296) :
    Calls Tryd.prog 64 #[A.v, .int .u32 p, .int .u32 m] w (TextPost (textR A p m) w) := by
  obtain ⟨pf, pl, nf, cf, nl, cl, hv, hnf, hnl, hpl, hcl, hpf, hcf⟩ := A.parts
  have haac := aac_any A p m
  rw [hv] at haac ⊢
  have HA := Lib.hid hA; have HAAC := Lib.hid haac
  by_cases h0 : aacR A p m = 0
  · have hx : textR A p m = (txtF A.fs 0 p m, 0) := by unfold textR; rw [if_pos h0]
    have hok := aacR_ok0 h0
    have h24 : nf ≤ 24 := by rw [hnf]; exact Al.ok24 hok
    rw [hx]
    have hnm := fun k hk => Al.ok_name hok k hk
    obtain ⟨fs, hfs⟩ : ∃ fs, fs = A.fs := ⟨_, rfl⟩
    have hF0 := fun (w : World) (h : A.In w) => h.F
    rw [← hpf, ← hcf, ← hfs] at hF0
    rw [← hfs] at hnf hnm ⊢
    have H0 := Lib.hid h0; have HNM := Lib.hid hnm; have HF0 := Lib.hid hF0; have HNF := Lib.hid hnf
    obtain ⟨G, hG⟩ : ∃ G : Nat → ByteArray, ∀ t, G t = fs.getD t ByteArray.empty := ⟨fun t => fs.getD t ByteArray.empty, fun _ => rfl⟩
    have HG := Lib.hid hG
    have hat : 0 < nf → pf = some ⟨A.bf, A.f0, none⟩ := fun h => by rw [hpf]; exact hA.F.at_ (by rw [← hfs, ← hnf]; exact h)
    have HAT := Lib.hid hat
    obtain ⟨bf, hbf⟩ : ∃ b, b = A.bf := ⟨_, rfl⟩
    obtain ⟨f0, hf0⟩ : ∃ b, b = A.f0 := ⟨_, rfl⟩
    rw [← hbf, ← hf0] at HF0 HAT
    clear hA haac hv hnf hnl hpl hcl hpf hcf hx hok hnm hF0 hfs hG hat h0 hbf hf0
    go_enter Tryd.func64, Tryd.ntmps64
    go_wp2_with fail
    refine (HAAC.out _ (HA.out.alloc _) hp hm).mono ?_
    rintro e w1 ⟨rfl, hb1⟩
    rw [H0.out]
    obtain ⟨hcc, hff⟩ := bcell hb1
    have hz1 := hb1.size
    simp only [World.size_alloc] at hz1
    have hlt0 : w.heap.size < w1.heap.size := by omega
    have hne0 : ¬ w.heap.size = w1.heap.size := by omega
    have cb0 : w1.cell? ⟨w.heap.size, 0, none⟩ = some (.slice pf nf cf) := by rw [hcc _ _ (by simp)]; simp
    have hbw1 : Below w.heap.size w w1 := ((Below.refl _ _).alloc (Nat.le_refl _) _).trans (hb1.mono (by simp))
    have HBW1 := Lib.hid hbw1
    clear hb1 hcc hff hbw1
    go_wp2_with fail
    go_loopw [23] (fun i wr => ∃ (k : Nat) (pre : List UInt8), i = .int .i64 k ∧ k ≤ nf ∧ pre.length ≤ 33 * k ∧ Hid (pre ++ txtF (fs.drop k) k p m = txtF fs 0 p m) ∧ Hid (IsB w1.heap.size w1.heap.size (byteCells pre) wr) ∧ Hid (Below w1.heap.size w1 wr) ∧ w1.heap.size < wr.heap.size) (fun i _ => nf - (intOf i).toNat)
    case atStart => exact ⟨0, [], rfl, Nat.zero_le _, Nat.le_refl _, rfl, Lib.fresh_isBuilder _ _ _, (Below.refl _ _).alloc (Nat.le_refl _) _, by simp⟩
    case round =>
      obtain ⟨k, pre, rfl, hk, hpre, HT, HI, HB, hszr⟩ := hrel
      have hbw : Below w.heap.size w wr := HBW1.out.trans (HB.out.mono (by omega))
      have HBW := Lib.hid hbw
      clear hbw
      by_cases hkn : k < nf
      · obtain rfl := HAT.out (by omega)
        have c0 := (HF0.out wr (HA.out.next HBW.out)).cells k (by rw [← HNF.out]; exact hkn)
        have hsz := nameB_size (HNM.out k (by rw [← HNF.out]; exact hkn))
        have htx := txtF_at fs k p m (by rw [← HNF.out]; exact hkn)
        rw [← HG.out] at c0 hsz htx
        obtain ⟨g, hg⟩ : ∃ g, g = G k := ⟨_, rfl⟩
        rw [← hg] at c0 hsz htx
        obtain ⟨e1, e2, e3⟩ := pow_int k (by omega)
        have ex := u32_and_nat p (2 ^ k) hp (by omega)
        have ey := u32_and_nat m (2 ^ k) hm (by omega)
        obtain ⟨P2, hP2⟩ : ∃ P2, P2 = (2 : Nat) ^ k := ⟨_, rfl⟩
        rw [← hP2] at e1 e2 e3 ex ey htx
        obtain ⟨X, hX⟩ : ∃ X, X = p &&& P2 := ⟨_, rfl⟩
        obtain ⟨Y, hY⟩ : ∃ X, X = m &&& P2 := ⟨_, rfl⟩
        rw [← hX] at ex htx
        rw [← hY] at ey htx
        have HTX := Lib.hid htx
        clear htx hg hP2 hX hY
        by_cases hx0 : X = 0
        · have hx1 : ((X : Int) == 0) = true := by simp [hx0]
          have hx2 : ((X : Int) != 0) = false := by simp [hx0]
          by_cases hy0 : Y = 0
          · have hy1 : ((Y : Int) == 0) = true := by simp [hy0]
            have hy2 : ((Y : Int) != 0) = false := by simp [hy0]
            have hst := HTX.out
            rw [if_pos hx0, if_pos hy0, List.nil_append] at hst
            have HST := Lib.hid hst
            clear hst hx0 hy0
            go_wp2_with fail
            go_roundw
            case rel => exact ⟨k + 1, pre, by go_num, by omega, by omega, (show _ = _ from by rw [← HT.out, HST.out]), HI, HB, hszr⟩
            case measure => simp [intOf]; omega
          · have hy1 : ((Y : Int) == 0) = false := by simp; omega
            have hy2 : ((Y : Int) != 0) = true := by simp; omega
            have hst := HTX.out
            rw [if_pos hx0, if_neg hy0] at hst
            have HST := Lib.hid hst
            have hcat := run_string_add_sum (P := Tryd.prog) wr ⟨#[45]⟩ g (by show 1 + g.size ≤ _; omega)
            clear hst hx0 hy0
            have hwr := writeS_any w1.heap.size w1.heap.size (byteCells pre) ((⟨#[45]⟩ : ByteArray) ++ g) wr HI.out (by rw [byteCells_length, cat_size]; omega) (by omega)
            have HWR := Lib.hid hwr
            clear hwr
            go_wp2_with fail
            (with_reducible refine HWR.out.mono ?_)
            rintro e w3 ⟨rfl, hI3, hB3⟩
            rw [cat_bytes, ← byteCells_append] at hI3
            have hz3 := hB3.size
            have HI3 := Lib.hid hI3; have HB3 := Lib.hid hB3
            clear hI3 hB3 hcat
            go_wp2_with fail
            go_roundw
            case rel => exact ⟨k + 1, pre ++ 45 :: g.data.toList, by go_num, by omega, (by have : g.data.size = g.size := rfl; simp only [List.length_append, List.length_cons, Array.length_toList]; omega), (show _ = _ from by rw [← HT.out, HST.out, List.append_assoc]), Or.inr HI3.out, HB.out.trans HB3.out, by omega⟩
            case measure => simp [intOf]; omega
        · have hx1 : ((X : Int) == 0) = false := by simp; omega
          have hx2 : ((X : Int) != 0) = true := by simp; omega
          have hst := HTX.out
          rw [if_neg hx0] at hst
          have HST := Lib.hid hst
          have hcat := run_string_add_sum (P := Tryd.prog) wr ⟨#[43]⟩ g (by show 1 + g.size ≤ _; omega)
          clear hst hx0
          have hwr := writeS_any w1.heap.size w1.heap.size (byteCells pre) ((⟨#[43]⟩ : ByteArray) ++ g) wr HI.out (by rw [byteCells_length, cat_size]; omega) (by omega)
          have HWR := Lib.hid hwr
          clear hwr
          go_wp2_with fail
          (with_reducible refine HWR.out.mono ?_)
          rintro e w3 ⟨rfl, hI3, hB3⟩
          rw [cat_bytes, ← byteCells_append] at hI3
          have hz3 := hB3.size
          have HI3 := Lib.hid hI3; have HB3 := Lib.hid hB3
          clear hI3 hB3 hcat
          go_wp2_with fail
          go_roundw
          case rel => exact ⟨k + 1, pre ++ 43 :: g.data.toList, by go_num, by omega, (by have : g.data.size = g.size := rfl; simp only [List.length_append, List.length_cons, Array.length_toList]; omega), (show _ = _ from by rw [← HT.out, HST.out, List.append_assoc]), Or.inr HI3.out, HB.out.trans HB3.out, by omega⟩
          case measure => simp [intOf]; omega
      · obtain rfl : k = nf := by omega
        have hx : pre = txtF fs 0 p m := by rw [← HT.out, HNF.out, List.drop_length, txtF, List.append_nil]
        have HX := Lib.hid hx
        clear hx
        go_wp2_with fail
        refine (Tryd.Builder_String_any w1.heap.size w1.heap.size pre _ HI.out (by omega)).mono ?_
        rintro e w3 ⟨rfl, hB3⟩
        have HB3 := Lib.hid hB3
        clear hB3
        go_wp2_with fail
        go_ret2
        exact ⟨by rw [← HX.out] <;> rfl, HBW1.out.trans ((HB.out.trans HB3.out).mono (by omega))⟩
  · have hx : textR A p m = ([], aacR A p m) := by unfold textR; rw [if_neg h0]
    rw [hx]
    obtain ⟨c, hc⟩ : ∃ c, c = aacR A p m := ⟨_, rfl⟩
    rw [← hc] at HAAC h0 ⊢
    have hk1 : (c == 0) = false := by simp [h0]
    have hk2 : (c != 0) = true := by simp [h0]
    clear hA haac hv hnf hnl hpl hcl hpf hcf hx hc h0
    go_enter Tryd.func64, Tryd.ntmps64
    go_wp2_with fail
    refine (HAAC.out _ (HA.out.alloc _) hp hm).mono ?_
    rintro e w1 ⟨rfl, hb1⟩
    have HB1 := Lib.hid hb1
    clear hb1
    go_wp2_with fail
    go_ret2
    exact ⟨rfl, ((Below.refl _ _).alloc (Nat.le_refl _) _).trans (HB1.out.mono (by simp))⟩

end Go.Proofs.YtmechinlaladiaaDoor
namespace Go.Proofs.YtmechinlaladiaaDoor
open Go.RowKit Go.Lib Go.MapKept
set_option linter.unusedVariables false

/-! ### the signs' map -/
def sgM1 : Array MapEntry := #[{ key := .int .i32 43, val := .int .i64 0, born := 0 }]
def sgM2 : Array MapEntry := #[{ key := .int .i32 43, val := .int .i64 0, born := 0 }, { key := .int .i32 45, val := .int .i64 1, born := 1 }]
theorem undT : (Tryd.prog).underlying 131 = some (.map 21 3) := by kernel_rfl
theorem undK : (Tryd.prog).underlying 21 = some (.int .i32) := by kernel_rfl
theorem sg_check (key : Int) (w : World) : (Instr.checkKey false 10000 21 (.int .i32 key)).run Tryd.prog w = .ok () w :=
  MapKept.run_checkKey (k := .int .i32 key) undK (by simp [MapKept.IsKey]) false 9999
theorem sg_new (w : World) (o : Obj) : (w.alloc o).heap[w.heap.size]? = some o := Array.getElem?_push_size
theorem sg_set (w : World) (o o' : Obj) : ({ w.alloc o with heap := (w.alloc o).heap.setIfInBounds w.heap.size o' } : World) = w.alloc o' := by
  have h : (w.heap.push o).setIfInBounds w.heap.size o' = w.heap.push o' := by
    apply Array.ext_getElem?
    intro i
    simp only [Array.getElem?_setIfInBounds, Array.getElem?_push, Array.size_push]
    split <;> split <;> first | rfl | omega | (subst_vars; simp_all)
  show ({ w with heap := (w.heap.push o).setIfInBounds w.heap.size o' } : World) = { w with heap := w.heap.push o' }
  rw [h]
theorem sg_up1 (w : World) : (Instr.mapUpdate 131 (.map (some w.heap.size)) (.int .i32 43) (.int .i64 0)).run Tryd.prog (w.alloc (.map #[] 0)) = .ok () (w.alloc (.map sgM1 1)) := by
  have hf : Instr.findNow (.int .i32) (.int .i32 43) (#[] : Array MapEntry).toList 0 = some none := rfl
  have hb := sg_new w (.map #[] 0)
  rw [← sg_set w (.map #[] 0) (.map sgM1 1)]
  generalize w.alloc (.map #[] 0) = W at hb ⊢
  simp only [Instr.mapUpdate, Sem.run_bind, run_underlying undT, MapKept.run_getObj_map hb, sg_check, MapKept.run_findKey undK hf, MapKept.run_setObj_map _ hb, Result.andThen]
  rfl
theorem sg_up2 (w : World) : (Instr.mapUpdate 131 (.map (some w.heap.size)) (.int .i32 45) (.int .i64 1)).run Tryd.prog (w.alloc (.map sgM1 1)) = .ok () (w.alloc (.map sgM2 2)) := by
  have hf : Instr.findNow (.int .i32) (.int .i32 45) sgM1.toList 0 = some none := by kernel_rfl
  have hb := sg_new w (.map sgM1 1)
  have hp : sgM1.push { key := .int .i32 45, val := .int .i64 1, born := 1 } = sgM2 := rfl
  rw [← sg_set w (.map sgM1 1) (.map sgM2 2)]
  generalize w.alloc (.map sgM1 1) = W at hb ⊢
  rw [← hp]
  generalize sgM1 = M at hb hf ⊢
  simp only [Instr.mapUpdate, Sem.run_bind, run_underlying undT, MapKept.run_getObj_map hb, sg_check, MapKept.run_findKey undK hf, MapKept.run_setObj_map _ hb, Result.andThen]
def sideI (b : Nat) : Int := if b = 45 then 1 else 0
def isSg (b : Nat) : Bool := decide (b = 43) || decide (b = 45)
theorem sg_zero (w : World) : (zeroValue 3).run Tryd.prog w = .ok (.int .i64 0) w := by kernel_rfl
theorem sg_look (w : World) (b : Nat) (c : Nat) (h : w.heap[b]? = some (.map sgM2 2)) : (Instr.lookup 131 (.map (some b)) (.int .i32 (c : Int)) true).run Tryd.prog w = .ok (.tuple #[.int .i64 (sideI c), .bool (isSg c)]) w := by
  have hk : ∀ b, (Instr.checkKey b 10000 21 (.int .i32 (c:Int))).run Tryd.prog w = .ok () w := fun b => MapKept.run_checkKey (k := .int .i32 (c:Int)) undK (by simp [MapKept.IsKey]) b 9999
  have hf : Instr.findNow (.int .i32) (.int .i32 (c:Int)) sgM2.toList 0 = some (if c = 43 then some (0, .int .i64 0) else if c = 45 then some (1, .int .i64 1) else none) := by
    have e1 : ((c : Int) == 43) = decide (c = 43) := by rw [Bool.eq_iff_iff]; simp; omega
    have e2 : ((c : Int) == 45) = decide (c = 45) := by rw [Bool.eq_iff_iff]; simp; omega
    simp only [sgM2, Instr.findNow, Instr.sameNow, if_pos, e1, e2]
    by_cases h1 : c = 43
    · simp [h1]
    · by_cases h2 : c = 45
      · simp [h2]
      · simp [h1, h2]
  by_cases h1 : c = 43
  · rw [if_pos h1] at hf
    subst h1
    simp only [Instr.lookup, Sem.run_bind, Sem.run_pure, run_underlying undT, MapKept.run_getObj_map h, hk, MapKept.run_findKey undK hf, Result.andThen]
    rfl
  · rw [if_neg h1] at hf
    by_cases h2 : c = 45
    · rw [if_pos h2] at hf
      subst h2
      simp only [Instr.lookup, Sem.run_bind, Sem.run_pure, run_underlying undT, MapKept.run_getObj_map h, hk, MapKept.run_findKey undK hf, Result.andThen]
      rfl
    · rw [if_neg h2] at hf
      simp only [Instr.lookup, Sem.run_bind, Sem.run_pure, run_underlying undT, MapKept.run_getObj_map h, hk, MapKept.run_findKey undK hf, sg_zero, Result.andThen]
      simp [sideI, isSg, h1, h2]
end Go.Proofs.YtmechinlaladiaaDoor
