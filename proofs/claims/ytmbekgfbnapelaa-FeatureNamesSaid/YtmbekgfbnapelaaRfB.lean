/-
  WALKS: cognateref02.Check.
  WALKS: cognateref02.Check.
-/
import Derived.Test.YtmbekgfbnapelaaRfA
import Derived.Deep.QuietTactic
import Derived.BigQuiet
namespace Go.Proofs.Ytmbekgfbnapelaa
open Go.RowKit Go.Lib
set_option linter.unusedVariables false

/-! ### plain -/
def fT (fs : List ByteArray) (i j : Nat) : Bool := nameB (fs.getD i ByteArray.empty) && (List.range j).all fun k => !decide (fs.getD k ByteArray.empty = fs.getD i ByteArray.empty)
theorem fT_snoc (fs : List ByteArray) (i j : Nat) : fT fs i (j + 1) = (fT fs i j && !decide (fs.getD j ByteArray.empty = fs.getD i ByteArray.empty)) := by
  unfold fT
  rw [List.range_succ, List.all_append, Bool.and_assoc]
  simp
def lT (n : Nat) (ls : List Ltr) (i j : Nat) : Bool := ltrB n (ls.getD i default) && (List.range j).all fun k => !decide ((ls.getD k default).r = (ls.getD i default).r)
theorem lT_snoc (n : Nat) (ls : List Ltr) (i j : Nat) : lT n ls i (j + 1) = (lT n ls i j && !decide ((ls.getD j default).r = (ls.getD i default).r)) := by
  unfold lT
  rw [List.range_succ, List.all_append, Bool.and_assoc]
  simp
theorem getS_el {l : List ByteArray} {k : Nat} (hk : k < l.length) : l.getD k ByteArray.empty = l[k] := by rw [List.getD_eq_getElem?_getD, List.getElem?_eq_getElem hk]; rfl
theorem getL_el {l : List Ltr} {k : Nat} (hk : k < l.length) : l.getD k default = l[k] := by rw [List.getD_eq_getElem?_getD, List.getElem?_eq_getElem hk]; rfl
theorem feats_all {fs : List ByteArray} (h24 : fs.length ≤ 24) : featsB fs = true ↔ ∀ i, i < fs.length → fT fs i i = true := by
  rw [featsB_iff]
  have key : ∀ k, k < fs.length → (Lib.containsS (fs.take k) (fs.getD k ByteArray.empty) = false ↔ ((List.range k).all fun j => !decide (fs.getD j ByteArray.empty = fs.getD k ByteArray.empty)) = true) := by
    intro k hk
    rw [List.all_eq_true]
    constructor
    · intro h j hj
      have hj' := List.mem_range.1 hj
      rw [Bool.not_eq_true', decide_eq_false_iff_not]
      intro he
      have : Lib.containsS (fs.take k) (fs.getD k ByteArray.empty) = true := by
        rw [Lib.containsS_iff, ← he, getS_el (show j < fs.length by omega)]
        exact List.mem_take_iff_getElem.2 ⟨j, by omega, rfl⟩
      rw [this] at h
      exact absurd h (by decide)
    · intro h
      rw [← Bool.not_eq_true, Lib.containsS_iff]
      intro hm
      obtain ⟨j, hj, he⟩ := List.mem_take_iff_getElem.1 hm
      have := h j (List.mem_range.2 (by omega))
      rw [Bool.not_eq_true', decide_eq_false_iff_not, getS_el (show j < fs.length by omega)] at this
      exact this he
  constructor
  · rintro ⟨_, h⟩ i hi
    obtain ⟨h1, h2⟩ := h i hi
    unfold fT
    rw [h1, (key i hi).1 h2]
    rfl
  · intro h
    refine ⟨h24, fun k hk => ?_⟩
    have h1 := h k hk
    unfold fT at h1
    rw [Bool.and_eq_true] at h1
    exact ⟨h1.1, (key k hk).2 h1.2⟩
theorem ltrs_all {n : Nat} {ls : List Ltr} (h1 : 1 ≤ ls.length) (h128 : ls.length ≤ 128) : ltrsB n ls = true ↔ ∀ i, i < ls.length → lT n ls i i = true := by
  unfold ltrsB
  rw [decide_eq_true ⟨h1, h128⟩, Bool.true_and, Bool.and_eq_true, List.all_eq_true, decide_eq_true_eq]
  constructor
  · rintro ⟨h2, h3⟩ i hi
    unfold lT
    rw [Bool.and_eq_true, List.all_eq_true]
    refine ⟨by rw [getL_el hi]; exact h2 _ (List.getElem_mem hi), fun k hk => ?_⟩
    have hk' := List.mem_range.1 hk
    rw [Bool.not_eq_true', decide_eq_false_iff_not, getL_el (by omega), getL_el hi]
    have := List.pairwise_iff_getElem.1 h3 k i (by rw [List.length_map]; omega) (by rw [List.length_map]; exact hi) hk'
    simpa using this
  · intro h
    have hh : ∀ i, i < ls.length → ltrB n (ls.getD i default) = true ∧ ∀ k, k < i → ¬ (ls.getD k default).r = (ls.getD i default).r := fun i hi => by
      have := h i hi
      unfold lT at this
      rw [Bool.and_eq_true, List.all_eq_true] at this
      refine ⟨this.1, fun k hk => ?_⟩
      have h4 := this.2 k (List.mem_range.2 hk)
      rw [Bool.not_eq_true', decide_eq_false_iff_not] at h4
      exact h4
    refine ⟨fun x hx => ?_, ?_⟩
    · obtain ⟨i, hi, rfl⟩ := List.getElem_of_mem hx
      rw [← getL_el hi]
      exact (hh i hi).1
    · unfold List.Nodup
      rw [List.pairwise_iff_getElem]
      intro i j hi hj hij
      rw [List.length_map] at hi hj
      have := (hh j hj).2 i hij
      rw [getL_el hi, getL_el hj] at this
      simpa using this
end Go.Proofs.Ytmbekgfbnapelaa
namespace Go.Proofs.Ytmbekgfbnapelaa
open Go.RowKit Go.Lib
set_option linter.unusedVariables false

theorem Bx.drewN {A : Al} {F L : Value} {w : World} {b : Nat} {wk : World} (h : Bx A F L w b wk) (n : Nat) : Bx A F L w b (wk.drewN n) := h.next ⟨rfl, rfl, rfl, Nat.le_refl _, fun _ _ => rfl⟩
theorem bytesR_eq {a b : ByteArray} : (a.toList == b.toList) = decide (a = b) := by
  rw [Bool.eq_iff_iff]
  simp only [beq_iff_eq, decide_eq_true_eq, Lib.toList_data]
  constructor
  · intro h; cases a; cases b; simp at h; rw [h]
  · rintro rfl; rfl
theorem chk_facts (A : Al) (h24 : A.fs.length ≤ 24) (h1 : 1 ≤ A.ls.length) (h128 : A.ls.length ≤ 128) :
    (∀ i, i < A.fs.length → fT A.fs i i = false → chk A = 7) ∧ (∀ i, i < A.ls.length → lT A.fs.length A.ls i i = false → chk A = 7) ∧
    ((∀ i, i < A.fs.length → fT A.fs i i = true) → (∀ i, i < A.ls.length → lT A.fs.length A.ls i i = true) → chk A = 0) := by
  refine ⟨fun i hi h => chk_no ?_, fun i hi h => chk_no ?_, fun h h' => chk_ok ?_⟩
  · rw [Al.ok_eq]
    cases hf : featsB A.fs with
    | false => rfl
    | true => rw [(feats_all h24).1 hf i hi] at h; exact absurd h (by decide)
  · rw [Al.ok_eq]
    cases hf : ltrsB A.fs.length A.ls with
    | false => rw [Bool.and_false]
    | true => rw [(ltrs_all h1 h128).1 hf i hi] at h; exact absurd h (by decide)
  · rw [Al.ok_eq, (feats_all h24).2 h, (ltrs_all h1 h128).2 h']; rfl
theorem chk_far (A : Al) (h : 24 < A.fs.length ∨ A.ls.length < 1 ∨ 128 < A.ls.length) : chk A = 7 := by
  refine chk_no ?_
  rw [Al.ok_eq]
  cases hf : featsB A.fs with
  | false => rfl
  | true =>
    have h24 := ((featsB_iff _).1 hf).1
    unfold ltrsB
    rw [decide_eq_false (by omega)]
    rfl
def RchkPost (C : Int) (w : World) (e : Ending) (w' : World) : Prop := e = .returned (.int .i64 C) ∧ Below w.heap.size w w'

set_option maxHeartbeats 2000000 in
set_option maxRecDepth 100000 in
theorem rcheck_far (A : Al) (w : World) (hA : A.In w) (h : 24 < A.fs.length ∨ A.ls.length < 1 ∨ 128 < A.ls.length) :
    Calls Try.prog 23 #[A.v] w (RchkPost (chk A) w) := by
  rw [chk_far A h]
  obtain ⟨pf, pl, nf, cf, nl, cl, hv, hnf, hnl, hpl, hcl, hpf, hcf⟩ := A.parts
  rw [hv]
  rw [← hnf, ← hnl] at h
  clear hA hv hnf hnl hpl hcl hpf hcf
  have hcase : (24 < nf) ∨ (¬ 24 < nf ∧ nl = 0) ∨ (¬ 24 < nf ∧ 128 < nl) := by omega
  rcases hcase with z1 | ⟨z1, rfl⟩ | ⟨z1, z2⟩
  · have y1 : (24 : Int) < (nf : Int) := by omega
    go_enter Try.func23, Try.ntmps23
    go_wp2_with fail
    go_ret
    exact ⟨rfl, (Below.refl _ _).alloc (Nat.le_refl _) _⟩
  · have y1 : ¬ (24 : Int) < (nf : Int) := by omega
    go_enter Try.func23, Try.ntmps23
    go_wp2_with fail
    go_ret
    exact ⟨rfl, (Below.refl _ _).alloc (Nat.le_refl _) _⟩
  · have y1 : ¬ (24 : Int) < (nf : Int) := by omega
    have y2 : (128 : Int) < (nl : Int) := by omega
    have y3 : ¬ (nl : Int) < 1 := by omega
    go_enter Try.func23, Try.ntmps23
    go_wp2_with fail
    go_ret
    exact ⟨rfl, (Below.refl _ _).alloc (Nat.le_refl _) _⟩

set_option maxHeartbeats 8000000 in
set_option maxRecDepth 100000 in
theorem rcheck_near (A : Al) (w : World) (hA : A.In w) (h24 : A.fs.length ≤ 24) (h1 : 1 ≤ A.ls.length) (h128 : A.ls.length ≤ 128) :
    Calls Try.prog 23 #[A.v] w (RchkPost (chk A) w) := by
  obtain ⟨q1, q2, q3⟩ := chk_facts A h24 h1 h128
  have hFc := fun (wk : World) (h : A.In wk) => h.F
  have hLc := fun (wk : World) (h : A.In wk) => h.L
  have hsm := hA.F.small
  have hbits := fun j hj => hA.L.get j hj
  obtain ⟨C, hC⟩ : ∃ C, C = chk A := ⟨_, rfl⟩
  rw [← hC] at q1 q2 q3 ⊢
  obtain ⟨pf, pl, nf, cf, nl, cl, hv, hnf, hnl, hpl, hcl, hpf, hcf⟩ := A.parts
  have hmay := fun p m w hp hm => rmay_any pf pl cf nf nl cl p m w (by rw [hnf]; exact h24) hp hm
  rw [hv]
  obtain ⟨fs, hfs⟩ : ∃ l, l = A.fs := ⟨_, rfl⟩
  obtain ⟨bf, hbf⟩ : ∃ l, l = A.bf := ⟨_, rfl⟩
  obtain ⟨f0, hf0⟩ : ∃ l, l = A.f0 := ⟨_, rfl⟩
  obtain ⟨ls, hls⟩ : ∃ l, l = A.ls := ⟨_, rfl⟩
  obtain ⟨bl, hbl⟩ : ∃ l, l = A.bl := ⟨_, rfl⟩
  obtain ⟨l0, hl0⟩ : ∃ l, l = A.l0 := ⟨_, rfl⟩
  rw [← hpf, ← hbf, ← hf0, ← hcf, ← hfs] at hFc
  rw [← hpl, ← hbl, ← hl0, ← hls] at hLc
  rw [← hfs] at hsm q1 q2 q3 h24 hnf
  rw [← hls] at hbits q2 q3 h1 h128 hnl
  rw [← hnf] at q1 q2 q3 h24 hsm
  rw [← hnl] at q2 q3 h1 h128 hbits
  have hs := Bx.start (F := .slice pf nf cf) (L := .slice pl nl cl) hA
  have HS := Lib.hid hs; have HFc := Lib.hid hFc; have HLc := Lib.hid hLc; have HSM := Lib.hid hsm; have HBITS := Lib.hid hbits; have Q1 := Lib.hid q1; have Q2 := Lib.hid q2; have Q3 := Lib.hid q3; have HMAY := Lib.hid hmay; have HNF := Lib.hid hnf; have HNL := Lib.hid hnl
  have y1 : ¬ (24 : Int) < (nf : Int) := by omega
  have y2 : ¬ (128 : Int) < (nl : Int) := by omega
  have y3 : ¬ (nl : Int) < 1 := by omega
  clear hs hFc hLc hsm hbits q1 q2 q3 hmay hC hv hnf hnl hpl hcl hpf hcf hfs hbf hf0 hls hbl hl0 hA
  go_enter Try.func23, Try.ntmps23
  go_wp2_with fail
  go_loopw [3] (fun iv wr => ∃ i : Nat, iv = .int .i64 i ∧ i ≤ nf ∧ Hid (∀ k, k < i → fT fs k k = true) ∧ Hid (Bx A (.slice pf nf cf) (.slice pl nl cl) w w.heap.size wr)) (fun iv _ => nf - (intOf iv).toNat)
  case atStart => exact ⟨0, rfl, Nat.zero_le _, fun k hk => absurd hk (by omega), HS⟩
  case round =>
    clear HS
    obtain ⟨i, rfl, hi, HI, HX⟩ := hrel
    obtain ⟨c0, c1, hlt⟩ : wr.cell? ⟨w.heap.size, 0, none⟩ = some (.slice pf nf cf) ∧ wr.cell? ⟨w.heap.size, 1, none⟩ = some (.slice pl nl cl) ∧ w.heap.size < wr.heap.size := ⟨HX.out.c0, HX.out.c1, HX.out.lt⟩
    by_cases hin : i < nf
    · have hfl : i < fs.length := by rw [← HNF.out]; exact hin
      obtain rfl := (HFc.out wr HX.out.i).at_ (by omega)
      have a0 := (HFc.out wr HX.out.i).cells i hfl
      have kn := fun w => rname_any (fs.getD i ByteArray.empty) w (HSM.out i hin)
      have hT0 : fT fs i 0 = nameB (fs.getD i ByteArray.empty) := by unfold fT; simp
      rw [← hT0] at kn
      obtain ⟨s, hs⟩ : ∃ q, q = fs.getD i ByteArray.empty := ⟨_, rfl⟩
      rw [← hs] at a0 kn
      have KN := Lib.hid kn; have HSs := Lib.hid hs
      obtain ⟨t0, ht0⟩ : ∃ t, t = fT fs i 0 := ⟨_, rfl⟩
      rw [← ht0] at KN
      have HT0 := Lib.hid ht0
      clear kn hT0 hs ht0
      go_wp2_with fail
      refine (KN.out _).mono ?_
      rintro _ w2 ⟨rfl, rfl⟩
      clear KN
      go_wp2_with fail
      go_loopw [4, 5] (fun tv jv wd => ∃ (t : Bool) (j : Nat), tv = .bool t ∧ jv = .int .i64 j ∧ j ≤ i ∧ Hid (t = fT fs i j) ∧ Hid (Bx A (.slice (some ⟨bf, f0, none⟩) nf cf) (.slice pl nl cl) w w.heap.size wd)) (fun _ jv _ => i - (intOf jv).toNat)
      case atStart => exact ⟨t0, 0, rfl, rfl, Nat.zero_le _, HT0, HX⟩
      case round =>
        clear c0 c1 hlt a0 HX
        obtain ⟨t, j, rfl, rfl, hj, HT, HX⟩ := hrel
        obtain ⟨c0, c1, hlt⟩ : wr.cell? ⟨w.heap.size, 0, none⟩ = some (.slice (some ⟨bf, f0, none⟩) nf cf) ∧ wr.cell? ⟨w.heap.size, 1, none⟩ = some (.slice pl nl cl) ∧ w.heap.size < wr.heap.size := ⟨HX.out.c0, HX.out.c1, HX.out.lt⟩
        have HD := Lib.hid (fun nq => HX.out.drewN nq)
        by_cases hji : j < i
        · have hsn := fT_snoc fs i j
          have hjf : j < fs.length := by omega
          have a0 := (HFc.out wr HX.out.i).cells i hfl
          have b0 := (HFc.out wr HX.out.i).cells j hjf
          rw [← HSs.out] at hsn a0
          have hjz : (j : Int) < (nf : Int) := by omega
          have hiz : (i : Int) < (nf : Int) := by omega
          obtain ⟨r, hr⟩ : ∃ q, q = fs.getD j ByteArray.empty := ⟨_, rfl⟩
          rw [← hr] at hsn b0
          have HSN := Lib.hid hsn
          clear hsn hr hjf
          cases t with
          | false =>
            go_wp2_with fail
            go_quiet (fail)
            go_wp2_with fail
            go_roundw
            case rel => exact ⟨false, j + 1, rfl, by go_num, by omega, (show _ = _ by rw [HSN.out, ← HT.out]; rfl), HD.out _⟩
            case measure => simp [intOf]; omega
          | true =>
            by_cases hrs : r = s
            · have e1 : (r.toList == s.toList) = true := by rw [bytesR_eq]; simp [hrs]
              have HRS := Lib.hid hrs
              clear hrs
              go_wp2_with fail
              go_quiet (fail)
              go_wp2_with fail
              go_roundw
              case rel => exact ⟨false, j + 1, rfl, by go_num, by omega, (show _ = _ by rw [HSN.out, ← HT.out, decide_eq_true HRS.out]; rfl), HD.out _⟩
              case measure => simp [intOf]; omega
            · have e1 : (r.toList == s.toList) = false := by rw [bytesR_eq]; simp [hrs]
              have HRS := Lib.hid hrs
              clear hrs
              go_wp2_with fail
              go_quiet (fail)
              go_wp2_with fail
              go_roundw
              case rel => exact ⟨true, j + 1, rfl, by go_num, by omega, (show _ = _ by rw [HSN.out, ← HT.out, decide_eq_false HRS.out]; rfl), HD.out _⟩
              case measure => simp [intOf]; omega
        · obtain rfl : j = i := by omega
          cases t with
          | false =>
            have h7 := Q1.out j hin HT.out.symm
            have H7 := Lib.hid h7
            clear h7
            go_wp2_with fail
            go_ret
            exact ⟨by rw [H7.out] <;> rfl, HX.out.below⟩
          | true =>
            go_wp2_with fail
            go_roundw
            case rel =>
              refine ⟨j + 1, by go_num, by omega, fun k hk => ?_, HX⟩
              by_cases hkj : k = j
              · subst hkj; exact HT.out.symm
              · exact HI.out k (by omega)
            case measure => simp [intOf]; omega
    · have HFA := Lib.hid (show ∀ k, k < nf → fT fs k k = true from fun k hk => HI.out k (by omega))
      clear HI
      go_wp2_with fail
      go_loopw [6] (fun iv wr => ∃ i : Nat, iv = .int .i64 i ∧ i ≤ nl ∧ Hid (∀ k, k < i → lT nf ls k k = true) ∧ Hid (Bx A (.slice pf nf cf) (.slice pl nl cl) w w.heap.size wr)) (fun iv _ => nl - (intOf iv).toNat)
      case atStart => exact ⟨0, rfl, Nat.zero_le _, fun k hk => absurd hk (by omega), HX⟩
      case round =>
        clear c0 c1 hlt HX
        obtain ⟨i, rfl, hi, HI, HX⟩ := hrel
        obtain ⟨c0, c1, hlt⟩ : wr.cell? ⟨w.heap.size, 0, none⟩ = some (.slice pf nf cf) ∧ wr.cell? ⟨w.heap.size, 1, none⟩ = some (.slice pl nl cl) ∧ w.heap.size < wr.heap.size := ⟨HX.out.c0, HX.out.c1, HX.out.lt⟩
        by_cases hin : i < nl
        · have hll : i < ls.length := by rw [← HNL.out]; exact hin
          obtain rfl := (HLc.out wr HX.out.i).at_ (by omega)
          have a0 := (HLc.out wr HX.out.i).cr i hll
          have a1 := (HLc.out wr HX.out.i).cp i hll
          have a2 := (HLc.out wr HX.out.i).cm i hll
          obtain ⟨b1, b2, _, _⟩ := HBITS.out i hin
          have hT0 : lT nf ls i 0 = (letB (ls.getD i default).r && clsB nf (ls.getD i default).p (ls.getD i default).m) := by unfold lT ltrB; simp
          obtain ⟨R, hR⟩ : ∃ q, q = (ls.getD i default).r := ⟨_, rfl⟩
          obtain ⟨Pp, hPp⟩ : ∃ q, q = (ls.getD i default).p := ⟨_, rfl⟩
          obtain ⟨Mm, hMm⟩ : ∃ q, q = (ls.getD i default).m := ⟨_, rfl⟩
          rw [← hR] at a0 hT0
          rw [← hPp] at a1 b1 hT0
          rw [← hMm] at a2 b2 hT0
          have HRr := Lib.hid hR
          have kl := fun w => rletter_any R w
          have km := fun w => HMAY.out Pp Mm w b1 b2
          obtain ⟨t0, ht0⟩ : ∃ t, t = lT nf ls i 0 := ⟨_, rfl⟩
          rw [← ht0] at hT0
          have HT0 := Lib.hid ht0
          have hxw : Bx A (.slice pf nf cf) (.slice (some ⟨bl, l0, none⟩) nl cl) w w.heap.size (wr.alloc (.cells #[.int .i32 R, .int .u32 Pp, .int .u32 Mm] 35)) := HX.out.alloc _
          have HXA := Lib.hid hxw
          have hbox : (wr.alloc (.cells #[.int .i32 R, .int .u32 Pp, .int .u32 Mm] 35)).cell? ⟨wr.heap.size, 0, none⟩ = some (.int .i32 R) := by simp
          have HBOX := Lib.hid hbox
          obtain ⟨lb, hlb⟩ : ∃ b, b = letB R := ⟨_, rfl⟩
          rw [← hlb] at kl hT0
          obtain ⟨cb, hcb⟩ : ∃ b, b = clsB nf Pp Mm := ⟨_, rfl⟩
          rw [← hcb] at km hT0
          have KL := Lib.hid kl; have KM := Lib.hid km; have HTT := Lib.hid hT0
          clear kl km hT0 ht0 hxw hbox hlb hcb hR hPp hMm
          go_wp2_with fail
          refine (KL.out _).mono ?_
          rintro _ w2 ⟨rfl, rfl⟩
          cases lb with
          | false =>
            have HTS := Lib.hid (show false = lT nf ls i 0 by rw [← HT0.out, HTT.out]; rfl)
            go_wp2_with fail
            go_loopw [8, 9] (fun tv jv wd => ∃ (t : Bool) (j : Nat), tv = .bool t ∧ jv = .int .i64 j ∧ j ≤ i ∧ Hid (t = lT nf ls i j) ∧ wd.cell? ⟨wr.heap.size, 0, none⟩ = some (.int .i32 R) ∧ Hid (Bx A (.slice pf nf cf) (.slice (some ⟨bl, l0, none⟩) nl cl) w w.heap.size wd)) (fun _ jv _ => i - (intOf jv).toNat)
            case atStart => exact ⟨false, 0, rfl, rfl, Nat.zero_le _, HTS, HBOX.out, HXA⟩
            case round =>
              clear HX HXA HBOX a0 a1 a2
              obtain ⟨t, j, rfl, rfl, hj, HT, hbc, HX⟩ := hrel
              obtain ⟨c0, c1, hlt⟩ : wr.cell? ⟨w.heap.size, 0, none⟩ = some (.slice pf nf cf) ∧ wr.cell? ⟨w.heap.size, 1, none⟩ = some (.slice (some ⟨bl, l0, none⟩) nl cl) ∧ w.heap.size < wr.heap.size := ⟨HX.out.c0, HX.out.c1, HX.out.lt⟩
              have HD := Lib.hid (fun nq => HX.out.drewN nq)
              by_cases hji : j < i
              · have hsn := lT_snoc nf ls i j
                have hjf : j < ls.length := by omega
                have b0 := (HLc.out wr HX.out.i).cr j hjf
                rw [← HRr.out] at hsn
                have hjz : (j : Int) < (nl : Int) := by omega
                obtain ⟨r, hr⟩ : ∃ q, q = (ls.getD j default).r := ⟨_, rfl⟩
                rw [← hr] at hsn b0
                have HSN := Lib.hid hsn
                clear hsn hr hjf
                cases t with
                | false =>
                  go_wp2_with fail
                  go_quiet (fail)
                  go_wp2_with fail
                  go_roundw
                  case rel => exact ⟨false, j + 1, rfl, by go_num, by omega, (show _ = _ by rw [HSN.out, ← HT.out]; rfl), hbc, HD.out _⟩
                  case measure => simp [intOf]; omega
                | true =>
                  by_cases hrs : r = R
                  · have e1 : (r != R) = false := by simp [hrs]
                    have HRS := Lib.hid hrs
                    clear hrs
                    go_wp2_with fail
                    go_quiet (fail)
                    go_wp2_with fail
                    go_roundw
                    case rel => exact ⟨false, j + 1, rfl, by go_num, by omega, (show _ = _ by rw [HSN.out, ← HT.out, decide_eq_true HRS.out]; rfl), hbc, HD.out _⟩
                    case measure => simp [intOf]; omega
                  · have e1 : (r != R) = true := by simp [hrs]
                    have HRS := Lib.hid hrs
                    clear hrs
                    go_wp2_with fail
                    go_quiet (fail)
                    go_wp2_with fail
                    go_roundw
                    case rel => exact ⟨true, j + 1, rfl, by go_num, by omega, (show _ = _ by rw [HSN.out, ← HT.out, decide_eq_false HRS.out]; rfl), hbc, HD.out _⟩
                    case measure => simp [intOf]; omega
              · obtain rfl : j = i := by omega
                cases t with
                | false =>
                  have h7 := Q2.out j hin HT.out.symm
                  have H7 := Lib.hid h7
                  clear h7
                  go_wp2_with fail
                  go_ret
                  exact ⟨by rw [H7.out] <;> rfl, HX.out.below⟩
                | true =>
                  go_wp2_with fail
                  go_roundw
                  case rel =>
                    refine ⟨j + 1, by go_num, by omega, fun k hk => ?_, HX⟩
                    by_cases hkj : k = j
                    · subst hkj; exact HT.out.symm
                    · exact HI.out k (by omega)
                  case measure => simp [intOf]; omega
          | true =>
            have HTS := Lib.hid (show cb = lT nf ls i 0 by rw [← HT0.out, HTT.out]; rfl)
            go_wp2_with fail
            refine (KM.out _).mono ?_
            rintro _ w3 ⟨rfl, hb3⟩
            have HXB := Lib.hid (HXA.out.next hb3)
            have hbx3 : w3.cell? ⟨wr.heap.size, 0, none⟩ = some (.int .i32 R) := by rw [hb3.cell (p := ⟨wr.heap.size, 0, none⟩) (by simp)]; exact HBOX.out
            clear hb3 c0 c1 hlt a0 a1 a2
            obtain ⟨c0, c1, hlt⟩ : w3.cell? ⟨w.heap.size, 0, none⟩ = some (.slice pf nf cf) ∧ w3.cell? ⟨w.heap.size, 1, none⟩ = some (.slice (some ⟨bl, l0, none⟩) nl cl) ∧ w.heap.size < w3.heap.size := ⟨HXB.out.c0, HXB.out.c1, HXB.out.lt⟩
            go_wp2_with fail
            go_loopw [8, 9] (fun tv jv wd => ∃ (t : Bool) (j : Nat), tv = .bool t ∧ jv = .int .i64 j ∧ j ≤ i ∧ Hid (t = lT nf ls i j) ∧ wd.cell? ⟨wr.heap.size, 0, none⟩ = some (.int .i32 R) ∧ Hid (Bx A (.slice pf nf cf) (.slice (some ⟨bl, l0, none⟩) nl cl) w w.heap.size wd)) (fun _ jv _ => i - (intOf jv).toNat)
            case atStart => exact ⟨cb, 0, rfl, rfl, Nat.zero_le _, HTS, hbx3, HXB⟩
            case round =>
              clear HX HXA HBOX HXB hbx3
              obtain ⟨t, j, rfl, rfl, hj, HT, hbc, HX⟩ := hrel
              obtain ⟨c0, c1, hlt⟩ : wr.cell? ⟨w.heap.size, 0, none⟩ = some (.slice pf nf cf) ∧ wr.cell? ⟨w.heap.size, 1, none⟩ = some (.slice (some ⟨bl, l0, none⟩) nl cl) ∧ w.heap.size < wr.heap.size := ⟨HX.out.c0, HX.out.c1, HX.out.lt⟩
              have HD := Lib.hid (fun nq => HX.out.drewN nq)
              by_cases hji : j < i
              · have hsn := lT_snoc nf ls i j
                have hjf : j < ls.length := by omega
                have b0 := (HLc.out wr HX.out.i).cr j hjf
                rw [← HRr.out] at hsn
                have hjz : (j : Int) < (nl : Int) := by omega
                obtain ⟨r, hr⟩ : ∃ q, q = (ls.getD j default).r := ⟨_, rfl⟩
                rw [← hr] at hsn b0
                have HSN := Lib.hid hsn
                clear hsn hr hjf
                cases t with
                | false =>
                  go_wp2_with fail
                  go_quiet (fail)
                  go_wp2_with fail
                  go_roundw
                  case rel => exact ⟨false, j + 1, rfl, by go_num, by omega, (show _ = _ by rw [HSN.out, ← HT.out]; rfl), hbc, HD.out _⟩
                  case measure => simp [intOf]; omega
                | true =>
                  by_cases hrs : r = R
                  · have e1 : (r != R) = false := by simp [hrs]
                    have HRS := Lib.hid hrs
                    clear hrs
                    go_wp2_with fail
                    go_quiet (fail)
                    go_wp2_with fail
                    go_roundw
                    case rel => exact ⟨false, j + 1, rfl, by go_num, by omega, (show _ = _ by rw [HSN.out, ← HT.out, decide_eq_true HRS.out]; rfl), hbc, HD.out _⟩
                    case measure => simp [intOf]; omega
                  · have e1 : (r != R) = true := by simp [hrs]
                    have HRS := Lib.hid hrs
                    clear hrs
                    go_wp2_with fail
                    go_quiet (fail)
                    go_wp2_with fail
                    go_roundw
                    case rel => exact ⟨true, j + 1, rfl, by go_num, by omega, (show _ = _ by rw [HSN.out, ← HT.out, decide_eq_false HRS.out]; rfl), hbc, HD.out _⟩
                    case measure => simp [intOf]; omega
              · obtain rfl : j = i := by omega
                cases t with
                | false =>
                  have h7 := Q2.out j hin HT.out.symm
                  have H7 := Lib.hid h7
                  clear h7
                  go_wp2_with fail
                  go_ret
                  exact ⟨by rw [H7.out] <;> rfl, HX.out.below⟩
                | true =>
                  go_wp2_with fail
                  go_roundw
                  case rel =>
                    refine ⟨j + 1, by go_num, by omega, fun k hk => ?_, HX⟩
                    by_cases hkj : k = j
                    · subst hkj; exact HT.out.symm
                    · exact HI.out k (by omega)
                  case measure => simp [intOf]; omega
        · have h0 := Q3.out HFA.out fun k hk => HI.out k (by omega)
          have H0 := Lib.hid h0
          clear h0
          go_wp2_with fail
          go_ret
          exact ⟨by rw [H0.out] <;> rfl, HX.out.below⟩

/-- The document's Check answers as the program's. -/
theorem rcheck_any (A : Al) (w : World) (hA : A.In w) : Calls Try.prog 23 #[A.v] w (RchkPost (chk A) w) := by
  by_cases h : 24 < A.fs.length ∨ A.ls.length < 1 ∨ 128 < A.ls.length
  · exact rcheck_far A w hA h
  · exact rcheck_near A w hA (by omega) (by omega) (by omega)
end Go.Proofs.Ytmbekgfbnapelaa
