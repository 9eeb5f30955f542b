/-
  WALKS: cognatelaw02.FeatureBack, its four ways; the whole.
-/
import Derived.Test.YtopkddbahbmdhaaBack
namespace Go.Proofs.Ytopkddbahbmdhaa
open Go.RowKit Go.Lib
set_option linter.unusedVariables false
theorem u_text2 {A : Al} {p m : Nat} {w : World} {T : List UInt8} {c : Int} (h : A.In w) (hp : p < 4294967296) (hm : m < 4294967296) (e : textR A p m = (T, c)) :
    Calls Try.prog 28 #[A.v, .int .u32 p, .int .u32 m] w fun e w' => e = .returned (.tuple #[.string ⟨T.toArray⟩, .int .i64 c]) ∧ Below w.heap.size w w' := by
  have hc := text_any A p m w h hp hm
  rw [e] at hc
  exact hc
theorem u_parse2 {A : Al} {s : ByteArray} {w : World} {p m t : Nat} {c : Int} (h : A.In w) (e : parR A s = (p, m, t, c)) :
    Calls Try.prog 29 #[A.v, .string s] w fun e w' => e = .returned (.tuple #[.int .u32 p, .int .u32 m, .int .i64 t, .int .i64 c]) ∧ Below w.heap.size w w' := by
  have hc := parse_any A s w h
  rw [e] at hc
  exact hc

set_option maxHeartbeats 4000000 in
set_option maxRecDepth 100000 in
theorem back_00 (A : Al) (p m : Nat) (s : ByteArray) (w : World) (hA : A.In w) (hp : p < 4294967296) (hm : m < 4294967296) (hs : ¬ 5000 < s.size) (ha : aacR A p m = 0) (p2 m2 : Nat) (h2 : parR A s = (p2, m2, 0, 0)) (hp2 : p2 < 4294967296) (hm2 : m2 < 4294967296) (ha2 : aacR A p2 m2 = 0) :
    Calls Try.prog 9 #[A.v, .int .u32 p, .int .u32 m, .string s] w fun e w' => e = .returned (.bool true) ∧ Below w.heap.size w w' := by
  have HAL := Lib.hid alive_any
  have k2 := fun w (h : A.In w) => u_parse2 h h2
  have hb1 := text_back hp hm ha
  obtain ⟨T0, hT⟩ := textR_yes ha
  rw [hT] at hb1
  have kt := fun w (h : A.In w) => u_text2 h hp hm hT
  have k1 := fun w (h : A.In w) => u_parse2 h hb1
  simp only [] at kt k1
  have q1 : ((p : Int) == (p : Int)) = true := by simp
  have q2 : ((m : Int) == (m : Int)) = true := by simp
  have hb2 := text_back hp2 hm2 ha2
  obtain ⟨U0, hU⟩ := textR_yes ha2
  rw [hU] at hb2
  have kt2 := fun w (h : A.In w) => u_text2 h hp2 hm2 hU
  have k3 := fun w (h : A.In w) => u_parse2 h hb2
  simp only [] at kt2 k3
  have q4 : ((p2 : Int) == (p2 : Int)) = true := by simp
  have q5 : ((m2 : Int) == (m2 : Int)) = true := by simp
  obtain ⟨pf, pl, nf, cf, nl, cl, hv, hnf, hnl, hpl, hcl, hpf, hcf⟩ := A.parts
  rw [hv] at kt k2 k1 kt2 k3 ⊢
  obtain ⟨T, hTT⟩ : ∃ T : ByteArray, T = ⟨T0.toArray⟩ := ⟨_, rfl⟩
  rw [← hTT] at kt k1
  obtain ⟨U, hUU⟩ : ∃ T : ByteArray, T = ⟨U0.toArray⟩ := ⟨_, rfl⟩
  rw [← hUU] at kt2 k3
  have KT := Lib.hid kt
  have K2 := Lib.hid k2
  have K1 := Lib.hid k1
  have KT2 := Lib.hid kt2
  have K3 := Lib.hid k3
  have hs' : ¬ (5000 : Int) < (s.size : Int) := by omega
  have hbx := Bx.start (F := .slice pf nf cf) (L := .slice pl nl cl) hA
  have HS := Lib.hid hbx
  clear hbx hA hs h2 hv hnf hnl hpl hcl hpf hcf hp hm kt k2 k1 kt2 k3 ha hT hTT hb1 hU hUU hb2 hp2 hm2 ha2
  go_enter Try.func9, Try.ntmps9
  go_wp2_with fail
  refine (HAL.out _).mono ?_
  rintro _ w1 ⟨rfl, hb⟩
  have hs := HS.out.next hb
  obtain ⟨c0, c1, hlt⟩ : w1.cell? ⟨w.heap.size, 0, none⟩ = some (.slice pf nf cf) ∧ w1.cell? ⟨w.heap.size, 1, none⟩ = some (.slice pl nl cl) ∧ w.heap.size < w1.heap.size := ⟨hs.c0, hs.c1, hs.lt⟩
  clear HS
  have HS := Lib.hid hs
  clear hs hb
  go_wp2_with fail
  refine (KT.out _ HS.out.i).mono ?_
  rintro _ w2 ⟨rfl, hb⟩
  have hs := HS.out.next hb
  obtain ⟨c0, c1, hlt⟩ : w2.cell? ⟨w.heap.size, 0, none⟩ = some (.slice pf nf cf) ∧ w2.cell? ⟨w.heap.size, 1, none⟩ = some (.slice pl nl cl) ∧ w.heap.size < w2.heap.size := ⟨hs.c0, hs.c1, hs.lt⟩
  clear HS
  have HS := Lib.hid hs
  clear hs hb
  go_wp2_with fail
  refine (K1.out _ HS.out.i).mono ?_
  rintro _ w3 ⟨rfl, hb⟩
  have hs := HS.out.next hb
  obtain ⟨c0, c1, hlt⟩ : w3.cell? ⟨w.heap.size, 0, none⟩ = some (.slice pf nf cf) ∧ w3.cell? ⟨w.heap.size, 1, none⟩ = some (.slice pl nl cl) ∧ w.heap.size < w3.heap.size := ⟨hs.c0, hs.c1, hs.lt⟩
  clear HS
  have HS := Lib.hid hs
  clear hs hb
  go_wp2_with fail
  refine (K2.out _ HS.out.i).mono ?_
  rintro _ w4 ⟨rfl, hb⟩
  have hs := HS.out.next hb
  obtain ⟨c0, c1, hlt⟩ : w4.cell? ⟨w.heap.size, 0, none⟩ = some (.slice pf nf cf) ∧ w4.cell? ⟨w.heap.size, 1, none⟩ = some (.slice pl nl cl) ∧ w.heap.size < w4.heap.size := ⟨hs.c0, hs.c1, hs.lt⟩
  clear HS
  have HS := Lib.hid hs
  clear hs hb
  go_wp2_with fail
  refine (KT2.out _ HS.out.i).mono ?_
  rintro _ w5 ⟨rfl, hb⟩
  have hs := HS.out.next hb
  obtain ⟨c0, c1, hlt⟩ : w5.cell? ⟨w.heap.size, 0, none⟩ = some (.slice pf nf cf) ∧ w5.cell? ⟨w.heap.size, 1, none⟩ = some (.slice pl nl cl) ∧ w.heap.size < w5.heap.size := ⟨hs.c0, hs.c1, hs.lt⟩
  clear HS
  have HS := Lib.hid hs
  clear hs hb
  go_wp2_with fail
  refine (K3.out _ HS.out.i).mono ?_
  rintro _ w6 ⟨rfl, hb⟩
  have hs := HS.out.next hb
  obtain ⟨c0, c1, hlt⟩ : w6.cell? ⟨w.heap.size, 0, none⟩ = some (.slice pf nf cf) ∧ w6.cell? ⟨w.heap.size, 1, none⟩ = some (.slice pl nl cl) ∧ w.heap.size < w6.heap.size := ⟨hs.c0, hs.c1, hs.lt⟩
  clear HS
  have HS := Lib.hid hs
  clear hs hb
  go_wp2_with fail
  go_ret
  exact ⟨rfl, HS.out.below⟩

set_option maxHeartbeats 4000000 in
set_option maxRecDepth 100000 in
theorem back_01 (A : Al) (p m : Nat) (s : ByteArray) (w : World) (hA : A.In w) (hp : p < 4294967296) (hm : m < 4294967296) (hs : ¬ 5000 < s.size) (ha : aacR A p m = 0) (t : Nat) (e2 : Int) (h2 : parR A s = (0, 0, t, e2)) (he2 : e2 ≠ 0) (ht : t ≤ s.size) :
    Calls Try.prog 9 #[A.v, .int .u32 p, .int .u32 m, .string s] w fun e w' => e = .returned (.bool true) ∧ Below w.heap.size w w' := by
  have HAL := Lib.hid alive_any
  have k2 := fun w (h : A.In w) => u_parse2 h h2
  have hb1 := text_back hp hm ha
  obtain ⟨T0, hT⟩ := textR_yes ha
  rw [hT] at hb1
  have kt := fun w (h : A.In w) => u_text2 h hp hm hT
  have k1 := fun w (h : A.In w) => u_parse2 h hb1
  simp only [] at kt k1
  have q1 : ((p : Int) == (p : Int)) = true := by simp
  have q2 : ((m : Int) == (m : Int)) = true := by simp
  have q4 : (e2 == 0) = false := by simp [he2]
  have q5 : (e2 != 0) = true := by simp [he2]
  have q6 : (t : Int) ≤ (s.size : Int) := by omega
  have q7 : (0 : Int) ≤ (t : Int) := by omega
  obtain ⟨pf, pl, nf, cf, nl, cl, hv, hnf, hnl, hpl, hcl, hpf, hcf⟩ := A.parts
  rw [hv] at kt k2 k1 ⊢
  obtain ⟨T, hTT⟩ : ∃ T : ByteArray, T = ⟨T0.toArray⟩ := ⟨_, rfl⟩
  rw [← hTT] at kt k1
  have KT := Lib.hid kt
  have K2 := Lib.hid k2
  have K1 := Lib.hid k1
  have hs' : ¬ (5000 : Int) < (s.size : Int) := by omega
  have hbx := Bx.start (F := .slice pf nf cf) (L := .slice pl nl cl) hA
  have HS := Lib.hid hbx
  clear hbx hA hs h2 hv hnf hnl hpl hcl hpf hcf hp hm kt k2 k1 ha hT hTT hb1 he2 ht
  go_enter Try.func9, Try.ntmps9
  go_wp2_with fail
  refine (HAL.out _).mono ?_
  rintro _ w1 ⟨rfl, hb⟩
  have hs := HS.out.next hb
  obtain ⟨c0, c1, hlt⟩ : w1.cell? ⟨w.heap.size, 0, none⟩ = some (.slice pf nf cf) ∧ w1.cell? ⟨w.heap.size, 1, none⟩ = some (.slice pl nl cl) ∧ w.heap.size < w1.heap.size := ⟨hs.c0, hs.c1, hs.lt⟩
  clear HS
  have HS := Lib.hid hs
  clear hs hb
  go_wp2_with fail
  refine (KT.out _ HS.out.i).mono ?_
  rintro _ w2 ⟨rfl, hb⟩
  have hs := HS.out.next hb
  obtain ⟨c0, c1, hlt⟩ : w2.cell? ⟨w.heap.size, 0, none⟩ = some (.slice pf nf cf) ∧ w2.cell? ⟨w.heap.size, 1, none⟩ = some (.slice pl nl cl) ∧ w.heap.size < w2.heap.size := ⟨hs.c0, hs.c1, hs.lt⟩
  clear HS
  have HS := Lib.hid hs
  clear hs hb
  go_wp2_with fail
  refine (K1.out _ HS.out.i).mono ?_
  rintro _ w3 ⟨rfl, hb⟩
  have hs := HS.out.next hb
  obtain ⟨c0, c1, hlt⟩ : w3.cell? ⟨w.heap.size, 0, none⟩ = some (.slice pf nf cf) ∧ w3.cell? ⟨w.heap.size, 1, none⟩ = some (.slice pl nl cl) ∧ w.heap.size < w3.heap.size := ⟨hs.c0, hs.c1, hs.lt⟩
  clear HS
  have HS := Lib.hid hs
  clear hs hb
  go_wp2_with fail
  refine (K2.out _ HS.out.i).mono ?_
  rintro _ w4 ⟨rfl, hb⟩
  have hs := HS.out.next hb
  obtain ⟨c0, c1, hlt⟩ : w4.cell? ⟨w.heap.size, 0, none⟩ = some (.slice pf nf cf) ∧ w4.cell? ⟨w.heap.size, 1, none⟩ = some (.slice pl nl cl) ∧ w.heap.size < w4.heap.size := ⟨hs.c0, hs.c1, hs.lt⟩
  clear HS
  have HS := Lib.hid hs
  clear hs hb
  go_wp2_with fail
  go_ret
  exact ⟨rfl, HS.out.below⟩

set_option maxHeartbeats 4000000 in
set_option maxRecDepth 100000 in
theorem back_10 (A : Al) (p m : Nat) (s : ByteArray) (w : World) (hA : A.In w) (hp : p < 4294967296) (hm : m < 4294967296) (hs : ¬ 5000 < s.size) (ha : ¬ aacR A p m = 0) (p2 m2 : Nat) (h2 : parR A s = (p2, m2, 0, 0)) (hp2 : p2 < 4294967296) (hm2 : m2 < 4294967296) (ha2 : aacR A p2 m2 = 0) :
    Calls Try.prog 9 #[A.v, .int .u32 p, .int .u32 m, .string s] w fun e w' => e = .returned (.bool true) ∧ Below w.heap.size w w' := by
  have HAL := Lib.hid alive_any
  have k2 := fun w (h : A.In w) => u_parse2 h h2
  have kt := fun w (h : A.In w) => u_text2 h hp hm (textR_no ha)
  obtain ⟨E, hE⟩ : ∃ E, E = aacR A p m := ⟨_, rfl⟩
  rw [← hE] at kt ha
  have q1 : (E == 0) = false := by simp [ha]
  have q2 : (E != 0) = true := by simp [ha]
  have q3 : ((⟨([] : List UInt8).toArray⟩ : ByteArray).toList.isEmpty) = true := by rw [toList_eq]; rfl
  obtain ⟨T0, hT0⟩ : ∃ T : ByteArray, T = ⟨([] : List UInt8).toArray⟩ := ⟨_, rfl⟩
  rw [← hT0] at kt q3
  have hb2 := text_back hp2 hm2 ha2
  obtain ⟨U0, hU⟩ := textR_yes ha2
  rw [hU] at hb2
  have kt2 := fun w (h : A.In w) => u_text2 h hp2 hm2 hU
  have k3 := fun w (h : A.In w) => u_parse2 h hb2
  simp only [] at kt2 k3
  have q4 : ((p2 : Int) == (p2 : Int)) = true := by simp
  have q5 : ((m2 : Int) == (m2 : Int)) = true := by simp
  obtain ⟨pf, pl, nf, cf, nl, cl, hv, hnf, hnl, hpl, hcl, hpf, hcf⟩ := A.parts
  rw [hv] at kt k2 kt2 k3 ⊢
  obtain ⟨U, hUU⟩ : ∃ T : ByteArray, T = ⟨U0.toArray⟩ := ⟨_, rfl⟩
  rw [← hUU] at kt2 k3
  have KT := Lib.hid kt
  have K2 := Lib.hid k2
  have KT2 := Lib.hid kt2
  have K3 := Lib.hid k3
  have hs' : ¬ (5000 : Int) < (s.size : Int) := by omega
  have hbx := Bx.start (F := .slice pf nf cf) (L := .slice pl nl cl) hA
  have HS := Lib.hid hbx
  clear hbx hA hs h2 hv hnf hnl hpl hcl hpf hcf hp hm kt k2 kt2 k3 ha hE hT0 hU hUU hb2 hp2 hm2 ha2
  go_enter Try.func9, Try.ntmps9
  go_wp2_with fail
  refine (HAL.out _).mono ?_
  rintro _ w1 ⟨rfl, hb⟩
  have hs := HS.out.next hb
  obtain ⟨c0, c1, hlt⟩ : w1.cell? ⟨w.heap.size, 0, none⟩ = some (.slice pf nf cf) ∧ w1.cell? ⟨w.heap.size, 1, none⟩ = some (.slice pl nl cl) ∧ w.heap.size < w1.heap.size := ⟨hs.c0, hs.c1, hs.lt⟩
  clear HS
  have HS := Lib.hid hs
  clear hs hb
  go_wp2_with fail
  refine (KT.out _ HS.out.i).mono ?_
  rintro _ w2 ⟨rfl, hb⟩
  have hs := HS.out.next hb
  obtain ⟨c0, c1, hlt⟩ : w2.cell? ⟨w.heap.size, 0, none⟩ = some (.slice pf nf cf) ∧ w2.cell? ⟨w.heap.size, 1, none⟩ = some (.slice pl nl cl) ∧ w.heap.size < w2.heap.size := ⟨hs.c0, hs.c1, hs.lt⟩
  clear HS
  have HS := Lib.hid hs
  clear hs hb
  go_wp2_with fail
  refine (K2.out _ HS.out.i).mono ?_
  rintro _ w4 ⟨rfl, hb⟩
  have hs := HS.out.next hb
  obtain ⟨c0, c1, hlt⟩ : w4.cell? ⟨w.heap.size, 0, none⟩ = some (.slice pf nf cf) ∧ w4.cell? ⟨w.heap.size, 1, none⟩ = some (.slice pl nl cl) ∧ w.heap.size < w4.heap.size := ⟨hs.c0, hs.c1, hs.lt⟩
  clear HS
  have HS := Lib.hid hs
  clear hs hb
  go_wp2_with fail
  refine (KT2.out _ HS.out.i).mono ?_
  rintro _ w5 ⟨rfl, hb⟩
  have hs := HS.out.next hb
  obtain ⟨c0, c1, hlt⟩ : w5.cell? ⟨w.heap.size, 0, none⟩ = some (.slice pf nf cf) ∧ w5.cell? ⟨w.heap.size, 1, none⟩ = some (.slice pl nl cl) ∧ w.heap.size < w5.heap.size := ⟨hs.c0, hs.c1, hs.lt⟩
  clear HS
  have HS := Lib.hid hs
  clear hs hb
  go_wp2_with fail
  refine (K3.out _ HS.out.i).mono ?_
  rintro _ w6 ⟨rfl, hb⟩
  have hs := HS.out.next hb
  obtain ⟨c0, c1, hlt⟩ : w6.cell? ⟨w.heap.size, 0, none⟩ = some (.slice pf nf cf) ∧ w6.cell? ⟨w.heap.size, 1, none⟩ = some (.slice pl nl cl) ∧ w.heap.size < w6.heap.size := ⟨hs.c0, hs.c1, hs.lt⟩
  clear HS
  have HS := Lib.hid hs
  clear hs hb
  go_wp2_with fail
  go_ret
  exact ⟨rfl, HS.out.below⟩

set_option maxHeartbeats 4000000 in
set_option maxRecDepth 100000 in
theorem back_11 (A : Al) (p m : Nat) (s : ByteArray) (w : World) (hA : A.In w) (hp : p < 4294967296) (hm : m < 4294967296) (hs : ¬ 5000 < s.size) (ha : ¬ aacR A p m = 0) (t : Nat) (e2 : Int) (h2 : parR A s = (0, 0, t, e2)) (he2 : e2 ≠ 0) (ht : t ≤ s.size) :
    Calls Try.prog 9 #[A.v, .int .u32 p, .int .u32 m, .string s] w fun e w' => e = .returned (.bool true) ∧ Below w.heap.size w w' := by
  have HAL := Lib.hid alive_any
  have k2 := fun w (h : A.In w) => u_parse2 h h2
  have kt := fun w (h : A.In w) => u_text2 h hp hm (textR_no ha)
  obtain ⟨E, hE⟩ : ∃ E, E = aacR A p m := ⟨_, rfl⟩
  rw [← hE] at kt ha
  have q1 : (E == 0) = false := by simp [ha]
  have q2 : (E != 0) = true := by simp [ha]
  have q3 : ((⟨([] : List UInt8).toArray⟩ : ByteArray).toList.isEmpty) = true := by rw [toList_eq]; rfl
  obtain ⟨T0, hT0⟩ : ∃ T : ByteArray, T = ⟨([] : List UInt8).toArray⟩ := ⟨_, rfl⟩
  rw [← hT0] at kt q3
  have q4 : (e2 == 0) = false := by simp [he2]
  have q5 : (e2 != 0) = true := by simp [he2]
  have q6 : (t : Int) ≤ (s.size : Int) := by omega
  have q7 : (0 : Int) ≤ (t : Int) := by omega
  obtain ⟨pf, pl, nf, cf, nl, cl, hv, hnf, hnl, hpl, hcl, hpf, hcf⟩ := A.parts
  rw [hv] at kt k2 ⊢
  have KT := Lib.hid kt
  have K2 := Lib.hid k2
  have hs' : ¬ (5000 : Int) < (s.size : Int) := by omega
  have hbx := Bx.start (F := .slice pf nf cf) (L := .slice pl nl cl) hA
  have HS := Lib.hid hbx
  clear hbx hA hs h2 hv hnf hnl hpl hcl hpf hcf hp hm kt k2 ha hE hT0 he2 ht
  go_enter Try.func9, Try.ntmps9
  go_wp2_with fail
  refine (HAL.out _).mono ?_
  rintro _ w1 ⟨rfl, hb⟩
  have hs := HS.out.next hb
  obtain ⟨c0, c1, hlt⟩ : w1.cell? ⟨w.heap.size, 0, none⟩ = some (.slice pf nf cf) ∧ w1.cell? ⟨w.heap.size, 1, none⟩ = some (.slice pl nl cl) ∧ w.heap.size < w1.heap.size := ⟨hs.c0, hs.c1, hs.lt⟩
  clear HS
  have HS := Lib.hid hs
  clear hs hb
  go_wp2_with fail
  refine (KT.out _ HS.out.i).mono ?_
  rintro _ w2 ⟨rfl, hb⟩
  have hs := HS.out.next hb
  obtain ⟨c0, c1, hlt⟩ : w2.cell? ⟨w.heap.size, 0, none⟩ = some (.slice pf nf cf) ∧ w2.cell? ⟨w.heap.size, 1, none⟩ = some (.slice pl nl cl) ∧ w.heap.size < w2.heap.size := ⟨hs.c0, hs.c1, hs.lt⟩
  clear HS
  have HS := Lib.hid hs
  clear hs hb
  go_wp2_with fail
  refine (K2.out _ HS.out.i).mono ?_
  rintro _ w4 ⟨rfl, hb⟩
  have hs := HS.out.next hb
  obtain ⟨c0, c1, hlt⟩ : w4.cell? ⟨w.heap.size, 0, none⟩ = some (.slice pf nf cf) ∧ w4.cell? ⟨w.heap.size, 1, none⟩ = some (.slice pl nl cl) ∧ w.heap.size < w4.heap.size := ⟨hs.c0, hs.c1, hs.lt⟩
  clear HS
  have HS := Lib.hid hs
  clear hs hb
  go_wp2_with fail
  go_ret
  exact ⟨rfl, HS.out.below⟩

/-- 'cognatelaw02.FeatureBack' answers true, whatever the input. -/
theorem lawBack (A : Al) (p m : Nat) (s : ByteArray) (w : World) (hA : A.In w) (hp : p < 4294967296) (hm : m < 4294967296) :
    Calls Try.prog 9 #[A.v, .int .u32 p, .int .u32 m, .string s] w fun e w' => e = .returned (.bool true) ∧ Below w.heap.size w w' := by
  by_cases hs : 5000 < s.size
  · exact back_long A p m s w hA hs
  · by_cases ha : aacR A p m = 0
    · rcases parR_cases A s with ⟨t, e, h2, he, ht⟩ | ⟨p2, m2, h2, hp2, hm2, ha2⟩
      · exact back_01 A p m s w hA hp hm hs ha t e h2 he ht
      · exact back_00 A p m s w hA hp hm hs ha p2 m2 h2 hp2 hm2 ha2
    · rcases parR_cases A s with ⟨t, e, h2, he, ht⟩ | ⟨p2, m2, h2, hp2, hm2, ha2⟩
      · exact back_11 A p m s w hA hp hm hs ha t e h2 he ht
      · exact back_10 A p m s w hA hp hm hs ha p2 m2 h2 hp2 hm2 ha2
end Go.Proofs.Ytopkddbahbmdhaa
