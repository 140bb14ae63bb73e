/- The walk of the law's own helper same: both readers take alike. -/
import Derived.Test.YtehbgkbnbaogoaaR2
import Derived.Test.YtehbgkbnbaogoaaW6T
import Derived.Test.YtehbgkbnbaogoaaO1
import Derived.Deep.DrawnRows
import Derived.BigQuiet
namespace Go.Proofs.Ytehbgkbnbaogoaa
open Go.RowKit
set_option linter.unusedSimpArgs false
set_option linter.unusedVariables false
theorem Step.other3 {b : Nat} {w w' : World} {s : ByteArray} (h : Step b w w' s) (k o : Nat) (hk : k < w.heap.size) (hne : k ≠ b) : w'.cell? ⟨k, o, none⟩ = w.cell? ⟨k, o, none⟩ :=
  World.cell?_of_block (w := w) (h.block k hk hne)
theorem Step.other4 {b : Nat} {w w' : World} {s : ByteArray} (h : Step b w w' s) (k o : Nat) (hk : k < w.heap.size) (hne : k ≠ b) : w'.frozen? ⟨k, o, none⟩ = w.frozen? ⟨k, o, none⟩ :=
  World.frozen?_of_block (w := w) (h.block k hk hne)
/-- A call that turns the readers in blocks br and bq alone: both hold s' now. -/
structure Step2 (br bq : Nat) (w w' : World) (s' : ByteArray) : Prop where
  os : w'.os = w.os
  tape : w'.tape = w.tape
  output : w'.output = w.output
  size : w.heap.size ≤ w'.heap.size
  cellr : w'.cell? ⟨br, 0, none⟩ = some (.string s')
  cellq : w'.cell? ⟨bq, 0, none⟩ = some (.string s')
  frozenr : w'.frozen? ⟨br, 0, none⟩ = false
  frozenq : w'.frozen? ⟨bq, 0, none⟩ = false
  block : ∀ k, k < w.heap.size → k ≠ br → k ≠ bq → w'.heap[k]? = w.heap[k]?
theorem step2 {br bq : Nat} {w w1 w2 : World} {o : Obj} {s' : ByteArray} (hne : br ≠ bq) (hbr : br < w.heap.size) (hbq : bq < w.heap.size) (h1 : Step br (w.alloc o) w1 s') (h2 : Step bq w1 w2 s') : Step2 br bq w w2 s' := by
  have z1 := h1.size
  have z2 := h2.size
  simp at z1
  refine ⟨h2.os.trans h1.os, h2.tape.trans h1.tape, h2.output.trans h1.output, by omega, ?_, h2.cell, ?_, h2.frozen, fun k hk k1 k2 => ?_⟩
  · rw [h2.other3 br 0 (by omega) hne]; exact h1.cell
  · rw [h2.other4 br 0 (by omega) hne]; exact h1.frozen
  · rw [h2.block k (by omega) k2, h1.block k (by simp; omega) k1, Below.heap_alloc _ _ _ hk]
theorem step2_end {br bq : Nat} {w : World} {o : Obj} {s : ByteArray} (hbr : br < w.heap.size) (hbq : bq < w.heap.size) (hcr : w.cell? ⟨br, 0, none⟩ = some (.string s)) (hcq : w.cell? ⟨bq, 0, none⟩ = some (.string s))
    (hfr : w.frozen? ⟨br, 0, none⟩ = false) (hfq : w.frozen? ⟨bq, 0, none⟩ = false) : Step2 br bq w (w.alloc o) s :=
  ⟨rfl, rfl, rfl, by simp, al_cell o hbr hcr, al_cell o hbq hcq, al_frozen o hbr hfr, al_frozen o hbq hfq, fun k hk _ _ => Below.heap_alloc _ _ _ hk⟩
set_option maxHeartbeats 400000 in
theorem same0_no (s : ByteArray) (br bq : Nat) (w : World) (hs : s.size ≤ maxLen) (hcr : w.cell? ⟨br, 0, none⟩ = some (.string s)) (hcq : w.cell? ⟨bq, 0, none⟩ = some (.string s)) (hfr : w.frozen? ⟨br, 0, none⟩ = false) (hfq : w.frozen? ⟨bq, 0, none⟩ = false) (hbr : br < w.heap.size) (hbq : bq < w.heap.size) (hne : br ≠ bq) (N : Int) (hk : shK s = 0) :
    Calls Try.prog 7 #[.pointer (some ⟨br, 0, none⟩), .pointer (some ⟨bq, 0, none⟩), .agg #[.int .i64 0, .int .i64 N]] w fun e w' => e = .returned (.bool true) ∧ Step2 br bq w w' (s) := by
  have ar := al_cell (w := w) (.cells #[.int .i64 0, .int .i64 N] 30) hbr hcr
  have aq := al_cell (w := w) (.cells #[.int .i64 0, .int .i64 N] 30) hbq hcq
  have fr := al_frozen (w := w) (.cells #[.int .i64 0, .int .i64 N] 30) hbr hfr
  have fq := al_frozen (w := w) (.cells #[.int .i64 0, .int .i64 N] 30) hbq hfq
  have hne' : bq ≠ br := fun h => hne h.symm
  have hzr : br < (w.alloc (.cells #[.int .i64 0, .int .i64 N] 30)).heap.size := by simp; omega
  have hzq : bq < (w.alloc (.cells #[.int .i64 0, .int .i64 N] 30)).heap.size := by simp; omega
  clear hcr hcq hfr hfq
  go_enter Try.func7, Try.ntmps7
  go_wp2_with fail
  refine (uint_no s br _ hs ar fr hzr hk).mono ?_
  rintro e w1 ⟨rfl, h1⟩
  have hz1 : bq < w1.heap.size := by have := h1.size; omega
  go_wp2_with fail
  refine (ruint_no s bq _ hs ((h1.other3 bq 0 hzq hne').trans aq) ((h1.other4 bq 0 hzq hne').trans fq) hz1 hk).mono ?_
  rintro e w2 ⟨rfl, h2⟩
  go_wp2
  go_ret
  exact ⟨rfl, step2 hne hbr hbq h1 h2⟩
set_option maxHeartbeats 400000 in
theorem same0_ok (s : ByteArray) (br bq : Nat) (w : World) (hs : s.size ≤ maxLen) (hcr : w.cell? ⟨br, 0, none⟩ = some (.string s)) (hcq : w.cell? ⟨bq, 0, none⟩ = some (.string s)) (hfr : w.frozen? ⟨br, 0, none⟩ = false) (hfq : w.frozen? ⟨bq, 0, none⟩ = false) (hbr : br < w.heap.size) (hbq : bq < w.heap.size) (hne : br ≠ bq) (N : Int) (hk : shK s ≠ 0) :
    Calls Try.prog 7 #[.pointer (some ⟨br, 0, none⟩), .pointer (some ⟨bq, 0, none⟩), .agg #[.int .i64 0, .int .i64 N]] w fun e w' => e = .returned (.bool true) ∧ Step2 br bq w w' (s.extract (shK s) s.size) := by
  have ar := al_cell (w := w) (.cells #[.int .i64 0, .int .i64 N] 30) hbr hcr
  have aq := al_cell (w := w) (.cells #[.int .i64 0, .int .i64 N] 30) hbq hcq
  have fr := al_frozen (w := w) (.cells #[.int .i64 0, .int .i64 N] 30) hbr hfr
  have fq := al_frozen (w := w) (.cells #[.int .i64 0, .int .i64 N] 30) hbq hfq
  have hne' : bq ≠ br := fun h => hne h.symm
  have hzr : br < (w.alloc (.cells #[.int .i64 0, .int .i64 N] 30)).heap.size := by simp; omega
  have hzq : bq < (w.alloc (.cells #[.int .i64 0, .int .i64 N] 30)).heap.size := by simp; omega
  clear hcr hcq hfr hfq
  go_enter Try.func7, Try.ntmps7
  go_wp2_with fail
  refine (uint_ok s br _ hs ar fr hzr hk).mono ?_
  rintro e w1 ⟨rfl, h1⟩
  have hz1 : bq < w1.heap.size := by have := h1.size; omega
  go_wp2_with fail
  refine (ruint_ok s bq _ hs ((h1.other3 bq 0 hzq hne').trans aq) ((h1.other4 bq 0 hzq hne').trans fq) hz1 hk).mono ?_
  rintro e w2 ⟨rfl, h2⟩
  go_wp2
  go_ret
  exact ⟨rfl, step2 hne hbr hbq h1 h2⟩
set_option maxHeartbeats 400000 in
theorem same1_arg (s : ByteArray) (br bq : Nat) (w : World) (hs : s.size ≤ maxLen) (hcr : w.cell? ⟨br, 0, none⟩ = some (.string s)) (hcq : w.cell? ⟨bq, 0, none⟩ = some (.string s)) (hfr : w.frozen? ⟨br, 0, none⟩ = false) (hfq : w.frozen? ⟨bq, 0, none⟩ = false) (hbr : br < w.heap.size) (hbq : bq < w.heap.size) (hne : br ≠ bq) (N : Int) (hm : isW N = false) :
    Calls Try.prog 7 #[.pointer (some ⟨br, 0, none⟩), .pointer (some ⟨bq, 0, none⟩), .agg #[.int .i64 1, .int .i64 N]] w fun e w' => e = .returned (.bool true) ∧ Step2 br bq w w' (s) := by
  have ar := al_cell (w := w) (.cells #[.int .i64 1, .int .i64 N] 30) hbr hcr
  have aq := al_cell (w := w) (.cells #[.int .i64 1, .int .i64 N] 30) hbq hcq
  have fr := al_frozen (w := w) (.cells #[.int .i64 1, .int .i64 N] 30) hbr hfr
  have fq := al_frozen (w := w) (.cells #[.int .i64 1, .int .i64 N] 30) hbq hfq
  have hne' : bq ≠ br := fun h => hne h.symm
  have hzr : br < (w.alloc (.cells #[.int .i64 1, .int .i64 N] 30)).heap.size := by simp; omega
  have hzq : bq < (w.alloc (.cells #[.int .i64 1, .int .i64 N] 30)).heap.size := by simp; omega
  clear hcr hcq hfr hfq
  go_enter Try.func7, Try.ntmps7
  go_wp2_with fail
  refine (fixed_arg s br _ hs ar fr hzr N hm).mono ?_
  rintro e w1 ⟨rfl, h1⟩
  have hz1 : bq < w1.heap.size := by have := h1.size; omega
  have f1 : w1.cell? ⟨w.heap.size, 1, none⟩ = some (.int .i64 N) := by rw [h1.other3 w.heap.size 1 (by simp) (by omega)]; simp
  go_wp2_with fail
  refine (rfixed_arg s bq _ hs ((h1.other3 bq 0 hzq hne').trans aq) ((h1.other4 bq 0 hzq hne').trans fq) hz1 N hm).mono ?_
  rintro e w2 ⟨rfl, h2⟩
  go_wp2
  go_ret
  exact ⟨rfl, step2 hne hbr hbq h1 h2⟩
set_option maxHeartbeats 400000 in
theorem same1_no (s : ByteArray) (br bq : Nat) (w : World) (hs : s.size ≤ maxLen) (hcr : w.cell? ⟨br, 0, none⟩ = some (.string s)) (hcq : w.cell? ⟨bq, 0, none⟩ = some (.string s)) (hfr : w.frozen? ⟨br, 0, none⟩ = false) (hfq : w.frozen? ⟨bq, 0, none⟩ = false) (hbr : br < w.heap.size) (hbq : bq < w.heap.size) (hne : br ≠ bq) (d : Nat) (hd1 : 1 ≤ d) (hd2 : d ≤ 8) (hl : s.size < d) :
    Calls Try.prog 7 #[.pointer (some ⟨br, 0, none⟩), .pointer (some ⟨bq, 0, none⟩), .agg #[.int .i64 1, .int .i64 d]] w fun e w' => e = .returned (.bool true) ∧ Step2 br bq w w' (s) := by
  have ar := al_cell (w := w) (.cells #[.int .i64 1, .int .i64 d] 30) hbr hcr
  have aq := al_cell (w := w) (.cells #[.int .i64 1, .int .i64 d] 30) hbq hcq
  have fr := al_frozen (w := w) (.cells #[.int .i64 1, .int .i64 d] 30) hbr hfr
  have fq := al_frozen (w := w) (.cells #[.int .i64 1, .int .i64 d] 30) hbq hfq
  have hne' : bq ≠ br := fun h => hne h.symm
  have hzr : br < (w.alloc (.cells #[.int .i64 1, .int .i64 d] 30)).heap.size := by simp; omega
  have hzq : bq < (w.alloc (.cells #[.int .i64 1, .int .i64 d] 30)).heap.size := by simp; omega
  clear hcr hcq hfr hfq
  go_enter Try.func7, Try.ntmps7
  go_wp2_with fail
  refine (fixed_no s br _ hs ar fr hzr d hd1 hd2 hl).mono ?_
  rintro e w1 ⟨rfl, h1⟩
  have hz1 : bq < w1.heap.size := by have := h1.size; omega
  have f1 : w1.cell? ⟨w.heap.size, 1, none⟩ = some (.int .i64 d) := by rw [h1.other3 w.heap.size 1 (by simp) (by omega)]; simp
  go_wp2_with fail
  refine (rfixed_no s bq _ hs ((h1.other3 bq 0 hzq hne').trans aq) ((h1.other4 bq 0 hzq hne').trans fq) hz1 d hd1 hd2 hl).mono ?_
  rintro e w2 ⟨rfl, h2⟩
  go_wp2
  go_ret
  exact ⟨rfl, step2 hne hbr hbq h1 h2⟩
set_option maxHeartbeats 400000 in
theorem same1_ok (s : ByteArray) (br bq : Nat) (w : World) (hs : s.size ≤ maxLen) (hcr : w.cell? ⟨br, 0, none⟩ = some (.string s)) (hcq : w.cell? ⟨bq, 0, none⟩ = some (.string s)) (hfr : w.frozen? ⟨br, 0, none⟩ = false) (hfq : w.frozen? ⟨bq, 0, none⟩ = false) (hbr : br < w.heap.size) (hbq : bq < w.heap.size) (hne : br ≠ bq) (d : Nat) (hd1 : 1 ≤ d) (hd2 : d ≤ 8) (hl : d ≤ s.size) :
    Calls Try.prog 7 #[.pointer (some ⟨br, 0, none⟩), .pointer (some ⟨bq, 0, none⟩), .agg #[.int .i64 1, .int .i64 d]] w fun e w' => e = .returned (.bool true) ∧ Step2 br bq w w' (s.extract d s.size) := by
  have ar := al_cell (w := w) (.cells #[.int .i64 1, .int .i64 d] 30) hbr hcr
  have aq := al_cell (w := w) (.cells #[.int .i64 1, .int .i64 d] 30) hbq hcq
  have fr := al_frozen (w := w) (.cells #[.int .i64 1, .int .i64 d] 30) hbr hfr
  have fq := al_frozen (w := w) (.cells #[.int .i64 1, .int .i64 d] 30) hbq hfq
  have hne' : bq ≠ br := fun h => hne h.symm
  have hzr : br < (w.alloc (.cells #[.int .i64 1, .int .i64 d] 30)).heap.size := by simp; omega
  have hzq : bq < (w.alloc (.cells #[.int .i64 1, .int .i64 d] 30)).heap.size := by simp; omega
  clear hcr hcq hfr hfq
  go_enter Try.func7, Try.ntmps7
  go_wp2_with fail
  refine (fixed_ok s br _ hs ar fr hzr d hd1 hd2 hl).mono ?_
  rintro e w1 ⟨rfl, h1⟩
  have hz1 : bq < w1.heap.size := by have := h1.size; omega
  have f1 : w1.cell? ⟨w.heap.size, 1, none⟩ = some (.int .i64 d) := by rw [h1.other3 w.heap.size 1 (by simp) (by omega)]; simp
  go_wp2_with fail
  refine (rfixed_ok s bq _ hs ((h1.other3 bq 0 hzq hne').trans aq) ((h1.other4 bq 0 hzq hne').trans fq) hz1 d hd1 hd2 hl).mono ?_
  rintro e w2 ⟨rfl, h2⟩
  go_wp2
  go_ret
  exact ⟨rfl, step2 hne hbr hbq h1 h2⟩
set_option maxHeartbeats 400000 in
theorem same2_arg (s : ByteArray) (br bq : Nat) (w : World) (hs : s.size ≤ maxLen) (hcr : w.cell? ⟨br, 0, none⟩ = some (.string s)) (hcq : w.cell? ⟨bq, 0, none⟩ = some (.string s)) (hfr : w.frozen? ⟨br, 0, none⟩ = false) (hfq : w.frozen? ⟨bq, 0, none⟩ = false) (hbr : br < w.heap.size) (hbq : bq < w.heap.size) (hne : br ≠ bq) (N : Int) (hm : N < 0) :
    Calls Try.prog 7 #[.pointer (some ⟨br, 0, none⟩), .pointer (some ⟨bq, 0, none⟩), .agg #[.int .i64 2, .int .i64 N]] w fun e w' => e = .returned (.bool true) ∧ Step2 br bq w w' (s) := by
  have ar := al_cell (w := w) (.cells #[.int .i64 2, .int .i64 N] 30) hbr hcr
  have aq := al_cell (w := w) (.cells #[.int .i64 2, .int .i64 N] 30) hbq hcq
  have fr := al_frozen (w := w) (.cells #[.int .i64 2, .int .i64 N] 30) hbr hfr
  have fq := al_frozen (w := w) (.cells #[.int .i64 2, .int .i64 N] 30) hbq hfq
  have hne' : bq ≠ br := fun h => hne h.symm
  have hzr : br < (w.alloc (.cells #[.int .i64 2, .int .i64 N] 30)).heap.size := by simp; omega
  have hzq : bq < (w.alloc (.cells #[.int .i64 2, .int .i64 N] 30)).heap.size := by simp; omega
  clear hcr hcq hfr hfq
  go_enter Try.func7, Try.ntmps7
  go_wp2_with fail
  refine (text_arg s br _ hs ar fr hzr N hm).mono ?_
  rintro e w1 ⟨rfl, h1⟩
  have hz1 : bq < w1.heap.size := by have := h1.size; omega
  have f1 : w1.cell? ⟨w.heap.size, 1, none⟩ = some (.int .i64 N) := by rw [h1.other3 w.heap.size 1 (by simp) (by omega)]; simp
  go_wp2_with fail
  refine (rtext_arg s bq _ hs ((h1.other3 bq 0 hzq hne').trans aq) ((h1.other4 bq 0 hzq hne').trans fq) hz1 N hm).mono ?_
  rintro e w2 ⟨rfl, h2⟩
  go_wp2
  go_ret
  exact ⟨rfl, step2 hne hbr hbq h1 h2⟩
set_option maxHeartbeats 400000 in
theorem same2_no1 (s : ByteArray) (br bq : Nat) (w : World) (hs : s.size ≤ maxLen) (hcr : w.cell? ⟨br, 0, none⟩ = some (.string s)) (hcq : w.cell? ⟨bq, 0, none⟩ = some (.string s)) (hfr : w.frozen? ⟨br, 0, none⟩ = false) (hfq : w.frozen? ⟨bq, 0, none⟩ = false) (hbr : br < w.heap.size) (hbq : bq < w.heap.size) (hne : br ≠ bq) (m : Nat) (hm : m ≤ 9223372036854775807) (hk : shK s = 0) :
    Calls Try.prog 7 #[.pointer (some ⟨br, 0, none⟩), .pointer (some ⟨bq, 0, none⟩), .agg #[.int .i64 2, .int .i64 m]] w fun e w' => e = .returned (.bool true) ∧ Step2 br bq w w' (s) := by
  have ar := al_cell (w := w) (.cells #[.int .i64 2, .int .i64 m] 30) hbr hcr
  have aq := al_cell (w := w) (.cells #[.int .i64 2, .int .i64 m] 30) hbq hcq
  have fr := al_frozen (w := w) (.cells #[.int .i64 2, .int .i64 m] 30) hbr hfr
  have fq := al_frozen (w := w) (.cells #[.int .i64 2, .int .i64 m] 30) hbq hfq
  have hne' : bq ≠ br := fun h => hne h.symm
  have hzr : br < (w.alloc (.cells #[.int .i64 2, .int .i64 m] 30)).heap.size := by simp; omega
  have hzq : bq < (w.alloc (.cells #[.int .i64 2, .int .i64 m] 30)).heap.size := by simp; omega
  clear hcr hcq hfr hfq
  go_enter Try.func7, Try.ntmps7
  go_wp2_with fail
  refine (text_no1 s br _ hs ar fr hzr m hm hk).mono ?_
  rintro e w1 ⟨rfl, h1⟩
  have hz1 : bq < w1.heap.size := by have := h1.size; omega
  have f1 : w1.cell? ⟨w.heap.size, 1, none⟩ = some (.int .i64 m) := by rw [h1.other3 w.heap.size 1 (by simp) (by omega)]; simp
  go_wp2_with fail
  refine (rtext_no1 s bq _ hs ((h1.other3 bq 0 hzq hne').trans aq) ((h1.other4 bq 0 hzq hne').trans fq) hz1 m hm hk).mono ?_
  rintro e w2 ⟨rfl, h2⟩
  go_wp2
  go_ret
  exact ⟨rfl, step2 hne hbr hbq h1 h2⟩
set_option maxHeartbeats 400000 in
theorem same2_no2 (s : ByteArray) (br bq : Nat) (w : World) (hs : s.size ≤ maxLen) (hcr : w.cell? ⟨br, 0, none⟩ = some (.string s)) (hcq : w.cell? ⟨bq, 0, none⟩ = some (.string s)) (hfr : w.frozen? ⟨br, 0, none⟩ = false) (hfq : w.frozen? ⟨bq, 0, none⟩ = false) (hbr : br < w.heap.size) (hbq : bq < w.heap.size) (hne : br ≠ bq) (m : Nat) (hm : m ≤ 9223372036854775807) (hk : shK s ≠ 0) (hn : m < shN s) :
    Calls Try.prog 7 #[.pointer (some ⟨br, 0, none⟩), .pointer (some ⟨bq, 0, none⟩), .agg #[.int .i64 2, .int .i64 m]] w fun e w' => e = .returned (.bool true) ∧ Step2 br bq w w' (s) := by
  have ar := al_cell (w := w) (.cells #[.int .i64 2, .int .i64 m] 30) hbr hcr
  have aq := al_cell (w := w) (.cells #[.int .i64 2, .int .i64 m] 30) hbq hcq
  have fr := al_frozen (w := w) (.cells #[.int .i64 2, .int .i64 m] 30) hbr hfr
  have fq := al_frozen (w := w) (.cells #[.int .i64 2, .int .i64 m] 30) hbq hfq
  have hne' : bq ≠ br := fun h => hne h.symm
  have hzr : br < (w.alloc (.cells #[.int .i64 2, .int .i64 m] 30)).heap.size := by simp; omega
  have hzq : bq < (w.alloc (.cells #[.int .i64 2, .int .i64 m] 30)).heap.size := by simp; omega
  clear hcr hcq hfr hfq
  go_enter Try.func7, Try.ntmps7
  go_wp2_with fail
  refine (text_no2 s br _ hs ar fr hzr m hm hk hn).mono ?_
  rintro e w1 ⟨rfl, h1⟩
  have hz1 : bq < w1.heap.size := by have := h1.size; omega
  have f1 : w1.cell? ⟨w.heap.size, 1, none⟩ = some (.int .i64 m) := by rw [h1.other3 w.heap.size 1 (by simp) (by omega)]; simp
  go_wp2_with fail
  refine (rtext_no2 s bq _ hs ((h1.other3 bq 0 hzq hne').trans aq) ((h1.other4 bq 0 hzq hne').trans fq) hz1 m hm hk hn).mono ?_
  rintro e w2 ⟨rfl, h2⟩
  go_wp2
  go_ret
  exact ⟨rfl, step2 hne hbr hbq h1 h2⟩
set_option maxHeartbeats 400000 in
theorem same2_no3 (s : ByteArray) (br bq : Nat) (w : World) (hs : s.size ≤ maxLen) (hcr : w.cell? ⟨br, 0, none⟩ = some (.string s)) (hcq : w.cell? ⟨bq, 0, none⟩ = some (.string s)) (hfr : w.frozen? ⟨br, 0, none⟩ = false) (hfq : w.frozen? ⟨bq, 0, none⟩ = false) (hbr : br < w.heap.size) (hbq : bq < w.heap.size) (hne : br ≠ bq) (m : Nat) (hm : m ≤ 9223372036854775807) (hk : shK s ≠ 0) (hn : shN s ≤ m) (hl : s.size - shK s < shN s) :
    Calls Try.prog 7 #[.pointer (some ⟨br, 0, none⟩), .pointer (some ⟨bq, 0, none⟩), .agg #[.int .i64 2, .int .i64 m]] w fun e w' => e = .returned (.bool true) ∧ Step2 br bq w w' (s) := by
  have ar := al_cell (w := w) (.cells #[.int .i64 2, .int .i64 m] 30) hbr hcr
  have aq := al_cell (w := w) (.cells #[.int .i64 2, .int .i64 m] 30) hbq hcq
  have fr := al_frozen (w := w) (.cells #[.int .i64 2, .int .i64 m] 30) hbr hfr
  have fq := al_frozen (w := w) (.cells #[.int .i64 2, .int .i64 m] 30) hbq hfq
  have hne' : bq ≠ br := fun h => hne h.symm
  have hzr : br < (w.alloc (.cells #[.int .i64 2, .int .i64 m] 30)).heap.size := by simp; omega
  have hzq : bq < (w.alloc (.cells #[.int .i64 2, .int .i64 m] 30)).heap.size := by simp; omega
  clear hcr hcq hfr hfq
  go_enter Try.func7, Try.ntmps7
  go_wp2_with fail
  refine (text_no3 s br _ hs ar fr hzr m hm hk hn hl).mono ?_
  rintro e w1 ⟨rfl, h1⟩
  have hz1 : bq < w1.heap.size := by have := h1.size; omega
  have f1 : w1.cell? ⟨w.heap.size, 1, none⟩ = some (.int .i64 m) := by rw [h1.other3 w.heap.size 1 (by simp) (by omega)]; simp
  go_wp2_with fail
  refine (rtext_no3 s bq _ hs ((h1.other3 bq 0 hzq hne').trans aq) ((h1.other4 bq 0 hzq hne').trans fq) hz1 m hm hk hn hl).mono ?_
  rintro e w2 ⟨rfl, h2⟩
  go_wp2
  go_ret
  exact ⟨rfl, step2 hne hbr hbq h1 h2⟩
set_option maxHeartbeats 400000 in
theorem same2_ok (s : ByteArray) (br bq : Nat) (w : World) (hs : s.size ≤ maxLen) (hcr : w.cell? ⟨br, 0, none⟩ = some (.string s)) (hcq : w.cell? ⟨bq, 0, none⟩ = some (.string s)) (hfr : w.frozen? ⟨br, 0, none⟩ = false) (hfq : w.frozen? ⟨bq, 0, none⟩ = false) (hbr : br < w.heap.size) (hbq : bq < w.heap.size) (hne : br ≠ bq) (m : Nat) (hm : m ≤ 9223372036854775807) (hk : shK s ≠ 0) (hn : shN s ≤ m) (hl : shK s + shN s ≤ s.size) :
    Calls Try.prog 7 #[.pointer (some ⟨br, 0, none⟩), .pointer (some ⟨bq, 0, none⟩), .agg #[.int .i64 2, .int .i64 m]] w fun e w' => e = .returned (.bool true) ∧ Step2 br bq w w' (s.extract (shK s + shN s) s.size) := by
  have ar := al_cell (w := w) (.cells #[.int .i64 2, .int .i64 m] 30) hbr hcr
  have aq := al_cell (w := w) (.cells #[.int .i64 2, .int .i64 m] 30) hbq hcq
  have fr := al_frozen (w := w) (.cells #[.int .i64 2, .int .i64 m] 30) hbr hfr
  have fq := al_frozen (w := w) (.cells #[.int .i64 2, .int .i64 m] 30) hbq hfq
  have hne' : bq ≠ br := fun h => hne h.symm
  have hzr : br < (w.alloc (.cells #[.int .i64 2, .int .i64 m] 30)).heap.size := by simp; omega
  have hzq : bq < (w.alloc (.cells #[.int .i64 2, .int .i64 m] 30)).heap.size := by simp; omega
  clear hcr hcq hfr hfq
  go_enter Try.func7, Try.ntmps7
  go_wp2_with fail
  refine (text_ok s br _ hs ar fr hzr m hm hk hn hl).mono ?_
  rintro e w1 ⟨rfl, h1⟩
  have hz1 : bq < w1.heap.size := by have := h1.size; omega
  have f1 : w1.cell? ⟨w.heap.size, 1, none⟩ = some (.int .i64 m) := by rw [h1.other3 w.heap.size 1 (by simp) (by omega)]; simp
  go_wp2_with fail
  refine (rtext_ok s bq _ hs ((h1.other3 bq 0 hzq hne').trans aq) ((h1.other4 bq 0 hzq hne').trans fq) hz1 m hm hk hn hl).mono ?_
  rintro e w2 ⟨rfl, h2⟩
  go_wp2
  go_ret
  exact ⟨rfl, step2 hne hbr hbq h1 h2⟩
set_option maxHeartbeats 400000 in
theorem same3_arg (s : ByteArray) (br bq : Nat) (w : World) (hs : s.size ≤ maxLen) (hcr : w.cell? ⟨br, 0, none⟩ = some (.string s)) (hcq : w.cell? ⟨bq, 0, none⟩ = some (.string s)) (hfr : w.frozen? ⟨br, 0, none⟩ = false) (hfq : w.frozen? ⟨bq, 0, none⟩ = false) (hbr : br < w.heap.size) (hbq : bq < w.heap.size) (hne : br ≠ bq) (N : Int) (hm : N < 0) :
    Calls Try.prog 7 #[.pointer (some ⟨br, 0, none⟩), .pointer (some ⟨bq, 0, none⟩), .agg #[.int .i64 3, .int .i64 N]] w fun e w' => e = .returned (.bool true) ∧ Step2 br bq w w' (s) := by
  have ar := al_cell (w := w) (.cells #[.int .i64 3, .int .i64 N] 30) hbr hcr
  have aq := al_cell (w := w) (.cells #[.int .i64 3, .int .i64 N] 30) hbq hcq
  have fr := al_frozen (w := w) (.cells #[.int .i64 3, .int .i64 N] 30) hbr hfr
  have fq := al_frozen (w := w) (.cells #[.int .i64 3, .int .i64 N] 30) hbq hfq
  have hne' : bq ≠ br := fun h => hne h.symm
  have hzr : br < (w.alloc (.cells #[.int .i64 3, .int .i64 N] 30)).heap.size := by simp; omega
  have hzq : bq < (w.alloc (.cells #[.int .i64 3, .int .i64 N] 30)).heap.size := by simp; omega
  clear hcr hcq hfr hfq
  go_enter Try.func7, Try.ntmps7
  go_wp2_with fail
  refine (take_arg s br _ hs ar fr hzr N hm).mono ?_
  rintro e w1 ⟨rfl, h1⟩
  have hz1 : bq < w1.heap.size := by have := h1.size; omega
  have f1 : w1.cell? ⟨w.heap.size, 1, none⟩ = some (.int .i64 N) := by rw [h1.other3 w.heap.size 1 (by simp) (by omega)]; simp
  go_wp2_with fail
  refine (rtake_arg s bq _ hs ((h1.other3 bq 0 hzq hne').trans aq) ((h1.other4 bq 0 hzq hne').trans fq) hz1 N hm).mono ?_
  rintro e w2 ⟨rfl, h2⟩
  go_wp2
  go_ret
  exact ⟨rfl, step2 hne hbr hbq h1 h2⟩
set_option maxHeartbeats 400000 in
theorem same3_no (s : ByteArray) (br bq : Nat) (w : World) (hs : s.size ≤ maxLen) (hcr : w.cell? ⟨br, 0, none⟩ = some (.string s)) (hcq : w.cell? ⟨bq, 0, none⟩ = some (.string s)) (hfr : w.frozen? ⟨br, 0, none⟩ = false) (hfq : w.frozen? ⟨bq, 0, none⟩ = false) (hbr : br < w.heap.size) (hbq : bq < w.heap.size) (hne : br ≠ bq) (n : Nat) (hn : s.size < n) (hn2 : n ≤ 9223372036854775807) :
    Calls Try.prog 7 #[.pointer (some ⟨br, 0, none⟩), .pointer (some ⟨bq, 0, none⟩), .agg #[.int .i64 3, .int .i64 n]] w fun e w' => e = .returned (.bool true) ∧ Step2 br bq w w' (s) := by
  have ar := al_cell (w := w) (.cells #[.int .i64 3, .int .i64 n] 30) hbr hcr
  have aq := al_cell (w := w) (.cells #[.int .i64 3, .int .i64 n] 30) hbq hcq
  have fr := al_frozen (w := w) (.cells #[.int .i64 3, .int .i64 n] 30) hbr hfr
  have fq := al_frozen (w := w) (.cells #[.int .i64 3, .int .i64 n] 30) hbq hfq
  have hne' : bq ≠ br := fun h => hne h.symm
  have hzr : br < (w.alloc (.cells #[.int .i64 3, .int .i64 n] 30)).heap.size := by simp; omega
  have hzq : bq < (w.alloc (.cells #[.int .i64 3, .int .i64 n] 30)).heap.size := by simp; omega
  clear hcr hcq hfr hfq
  go_enter Try.func7, Try.ntmps7
  go_wp2_with fail
  refine (take_no s br _ hs ar fr hzr n hn hn2).mono ?_
  rintro e w1 ⟨rfl, h1⟩
  have hz1 : bq < w1.heap.size := by have := h1.size; omega
  have f1 : w1.cell? ⟨w.heap.size, 1, none⟩ = some (.int .i64 n) := by rw [h1.other3 w.heap.size 1 (by simp) (by omega)]; simp
  go_wp2_with fail
  refine (rtake_no s bq _ hs ((h1.other3 bq 0 hzq hne').trans aq) ((h1.other4 bq 0 hzq hne').trans fq) hz1 n hn hn2).mono ?_
  rintro e w2 ⟨rfl, h2⟩
  go_wp2
  go_ret
  exact ⟨rfl, step2 hne hbr hbq h1 h2⟩
set_option maxHeartbeats 400000 in
theorem same3_ok (s : ByteArray) (br bq : Nat) (w : World) (hs : s.size ≤ maxLen) (hcr : w.cell? ⟨br, 0, none⟩ = some (.string s)) (hcq : w.cell? ⟨bq, 0, none⟩ = some (.string s)) (hfr : w.frozen? ⟨br, 0, none⟩ = false) (hfq : w.frozen? ⟨bq, 0, none⟩ = false) (hbr : br < w.heap.size) (hbq : bq < w.heap.size) (hne : br ≠ bq) (n : Nat) (hn : n ≤ s.size) :
    Calls Try.prog 7 #[.pointer (some ⟨br, 0, none⟩), .pointer (some ⟨bq, 0, none⟩), .agg #[.int .i64 3, .int .i64 n]] w fun e w' => e = .returned (.bool true) ∧ Step2 br bq w w' (s.extract n s.size) := by
  have ar := al_cell (w := w) (.cells #[.int .i64 3, .int .i64 n] 30) hbr hcr
  have aq := al_cell (w := w) (.cells #[.int .i64 3, .int .i64 n] 30) hbq hcq
  have fr := al_frozen (w := w) (.cells #[.int .i64 3, .int .i64 n] 30) hbr hfr
  have fq := al_frozen (w := w) (.cells #[.int .i64 3, .int .i64 n] 30) hbq hfq
  have hne' : bq ≠ br := fun h => hne h.symm
  have hzr : br < (w.alloc (.cells #[.int .i64 3, .int .i64 n] 30)).heap.size := by simp; omega
  have hzq : bq < (w.alloc (.cells #[.int .i64 3, .int .i64 n] 30)).heap.size := by simp; omega
  clear hcr hcq hfr hfq
  go_enter Try.func7, Try.ntmps7
  go_wp2_with fail
  refine (take_ok s br _ hs ar fr hzr n hn).mono ?_
  rintro e w1 ⟨rfl, h1⟩
  have hz1 : bq < w1.heap.size := by have := h1.size; omega
  have f1 : w1.cell? ⟨w.heap.size, 1, none⟩ = some (.int .i64 n) := by rw [h1.other3 w.heap.size 1 (by simp) (by omega)]; simp
  go_wp2_with fail
  refine (rtake_ok s bq _ hs ((h1.other3 bq 0 hzq hne').trans aq) ((h1.other4 bq 0 hzq hne').trans fq) hz1 n hn).mono ?_
  rintro e w2 ⟨rfl, h2⟩
  go_wp2
  go_ret
  exact ⟨rfl, step2 hne hbr hbq h1 h2⟩
set_option maxHeartbeats 400000 in
theorem same_end (s : ByteArray) (br bq : Nat) (w : World) (hs : s.size ≤ maxLen) (hcr : w.cell? ⟨br, 0, none⟩ = some (.string s)) (hcq : w.cell? ⟨bq, 0, none⟩ = some (.string s)) (hfr : w.frozen? ⟨br, 0, none⟩ = false) (hfq : w.frozen? ⟨bq, 0, none⟩ = false) (hbr : br < w.heap.size) (hbq : bq < w.heap.size) (hne : br ≠ bq) (K N : Int) (h0 : (K == 0) = false) (h1 : (K == 1) = false) (h2 : (K == 2) = false) (h3 : (K == 3) = false) :
    Calls Try.prog 7 #[.pointer (some ⟨br, 0, none⟩), .pointer (some ⟨bq, 0, none⟩), .agg #[.int .i64 K, .int .i64 N]] w fun e w' => e = .returned (.bool true) ∧ Step2 br bq w w' s := by
  have ar := al_cell (w := w) (.cells #[.int .i64 K, .int .i64 N] 30) hbr hcr
  have aq := al_cell (w := w) (.cells #[.int .i64 K, .int .i64 N] 30) hbq hcq
  have HS : Hid (Step2 br bq w (w.alloc (.cells #[.int .i64 K, .int .i64 N] 30)) s) := step2_end hbr hbq hcr hcq hfr hfq
  clear hcr hcq hfr hfq
  go_enter Try.func7, Try.ntmps7
  go_wp2_with fail
  refine (end_any s br _ hs ar).mono ?_
  rintro e w1 ⟨rfl, hw⟩
  subst hw
  go_wp2_with fail
  refine (rend_any s bq _ hs aq).mono ?_
  rintro e w1 ⟨rfl, hw⟩
  subst hw
  go_wp2
  go_ret
  exact ⟨rfl, HS.out⟩
/-- Whatever is taken: both readers take alike, and hold alike behind it. -/
theorem same_any (s : ByteArray) (br bq : Nat) (w : World) (hs : s.size ≤ maxLen) (hcr : w.cell? ⟨br, 0, none⟩ = some (.string s)) (hcq : w.cell? ⟨bq, 0, none⟩ = some (.string s)) (hfr : w.frozen? ⟨br, 0, none⟩ = false) (hfq : w.frozen? ⟨bq, 0, none⟩ = false) (hbr : br < w.heap.size) (hbq : bq < w.heap.size) (hne : br ≠ bq) (K N : Int) (hN0 : -9223372036854775808 ≤ N) (hN : N ≤ 9223372036854775807) :
    Calls Try.prog 7 #[.pointer (some ⟨br, 0, none⟩), .pointer (some ⟨bq, 0, none⟩), .agg #[.int .i64 K, .int .i64 N]] w fun e w' => e = .returned (.bool true) ∧ ∃ s', s'.size ≤ s.size ∧ Step2 br bq w w' s' := by
  have hex : ∀ i, (s.extract i s.size).size ≤ s.size := fun i => by simp
  have base : ∀ {K N : Int} {s' : ByteArray}, s'.size ≤ s.size → (Calls Try.prog 7 #[.pointer (some ⟨br, 0, none⟩), .pointer (some ⟨bq, 0, none⟩), .agg #[.int .i64 K, .int .i64 N]] w fun e w' => e = .returned (.bool true) ∧ Step2 br bq w w' s') →
      Calls Try.prog 7 #[.pointer (some ⟨br, 0, none⟩), .pointer (some ⟨bq, 0, none⟩), .agg #[.int .i64 K, .int .i64 N]] w fun e w' => e = .returned (.bool true) ∧ ∃ s', s'.size ≤ s.size ∧ Step2 br bq w w' s' :=
    fun hz h => h.mono fun e w' ⟨he, hS⟩ => ⟨he, _, hz, hS⟩
  by_cases k0 : K = 0
  · subst k0
    by_cases hk : shK s = 0
    · exact base (Nat.le_refl _) (same0_no s br bq w hs hcr hcq hfr hfq hbr hbq hne N hk)
    · exact base (hex _) (same0_ok s br bq w hs hcr hcq hfr hfq hbr hbq hne N hk)
  · by_cases k1 : K = 1
    · subst k1
      cases hw : isW N with
      | false => exact base (Nat.le_refl _) (same1_arg s br bq w hs hcr hcq hfr hfq hbr hbq hne N hw)
      | true =>
        obtain ⟨a1, a2⟩ := isW_iff.1 hw
        obtain ⟨d, rfl⟩ := Int.eq_ofNat_of_zero_le (show 0 ≤ N by omega)
        by_cases hl : s.size < d
        · exact base (Nat.le_refl _) (same1_no s br bq w hs hcr hcq hfr hfq hbr hbq hne d (by omega) (by omega) hl)
        · exact base (hex _) (same1_ok s br bq w hs hcr hcq hfr hfq hbr hbq hne d (by omega) (by omega) (by omega))
    · by_cases k2 : K = 2
      · subst k2
        by_cases hm : N < 0
        · exact base (Nat.le_refl _) (same2_arg s br bq w hs hcr hcq hfr hfq hbr hbq hne N hm)
        · obtain ⟨m, rfl⟩ := Int.eq_ofNat_of_zero_le (show 0 ≤ N by omega)
          by_cases hk : shK s = 0
          · exact base (Nat.le_refl _) (same2_no1 s br bq w hs hcr hcq hfr hfq hbr hbq hne m (by omega) hk)
          · by_cases hn : m < shN s
            · exact base (Nat.le_refl _) (same2_no2 s br bq w hs hcr hcq hfr hfq hbr hbq hne m (by omega) hk hn)
            · by_cases hl : s.size - shK s < shN s
              · exact base (Nat.le_refl _) (same2_no3 s br bq w hs hcr hcq hfr hfq hbr hbq hne m (by omega) hk (by omega) hl)
              · have := shK_le s
                exact base (hex _) (same2_ok s br bq w hs hcr hcq hfr hfq hbr hbq hne m (by omega) hk (by omega) (by omega))
      · by_cases k3 : K = 3
        · subst k3
          by_cases hm : N < 0
          · exact base (Nat.le_refl _) (same3_arg s br bq w hs hcr hcq hfr hfq hbr hbq hne N hm)
          · obtain ⟨n, rfl⟩ := Int.eq_ofNat_of_zero_le (show 0 ≤ N by omega)
            by_cases hl : s.size < n
            · exact base (Nat.le_refl _) (same3_no s br bq w hs hcr hcq hfr hfq hbr hbq hne n hl (by omega))
            · exact base (hex _) (same3_ok s br bq w hs hcr hcq hfr hfq hbr hbq hne n (by omega))
        · exact base (Nat.le_refl _) (same_end s br bq w hs hcr hcq hfr hfq hbr hbq hne K N (by simp [k0]) (by simp [k1]) (by simp [k2]) (by simp [k3]))
end Go.Proofs.Ytehbgkbnbaogoaa
