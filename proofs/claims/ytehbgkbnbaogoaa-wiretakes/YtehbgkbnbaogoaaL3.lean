/- The walk of munimentlaw01.WireTakes: it returns true; nothing that was there has turned. -/
import Derived.Test.YtehbgkbnbaogoaaS3
import Derived.Test.YtehbgkbnbaogoaaO3
import Derived.Deep.RegionWith
namespace Go.Proofs.Ytehbgkbnbaogoaa
open Go.RowKit
set_option linter.unusedSimpArgs false
set_option linter.unusedVariables false
theorem frozen_new (w : World) (v : Value) (T : TypeId) : (w.alloc (.cells #[v] T)).frozen? ⟨w.heap.size, 0, none⟩ = false := by simp
theorem takes_start (w : World) (s : ByteArray) :
    (((w.alloc (.cells #[.string s] 53)).alloc (.cells #[.string s] 27)).alloc (.cells #[.string s] 53)).cell? ⟨w.heap.size, 0, none⟩ = some (.string s) ∧
    (((w.alloc (.cells #[.string s] 53)).alloc (.cells #[.string s] 27)).alloc (.cells #[.string s] 53)).cell? ⟨w.heap.size + 1, 0, none⟩ = some (.string s) ∧
    (((w.alloc (.cells #[.string s] 53)).alloc (.cells #[.string s] 27)).alloc (.cells #[.string s] 53)).frozen? ⟨w.heap.size, 0, none⟩ = false ∧
    (((w.alloc (.cells #[.string s] 53)).alloc (.cells #[.string s] 27)).alloc (.cells #[.string s] 53)).frozen? ⟨w.heap.size + 1, 0, none⟩ = false ∧
    (((w.alloc (.cells #[.string s] 53)).alloc (.cells #[.string s] 27)).alloc (.cells #[.string s] 53)).cell? ⟨w.heap.size + 1 + 1, 0, none⟩ = some (.string s) ∧
    w.heap.size + 2 < (((w.alloc (.cells #[.string s] 53)).alloc (.cells #[.string s] 27)).alloc (.cells #[.string s] 53)).heap.size ∧
    Below w.heap.size w (((w.alloc (.cells #[.string s] 53)).alloc (.cells #[.string s] 27)).alloc (.cells #[.string s] 53)) := by
  have z1 : ∀ (x : World) (o : Obj), (x.alloc o).heap.size = x.heap.size + 1 := fun x o => by simp
  refine ⟨?_, ?_, ?_, ?_, ?_, ?_, by go_grown⟩
  · exact al_cell _ (by rw [z1, z1]; omega) (al_cell _ (by rw [z1]; omega) (al_ptr _ _ _))
  · refine al_cell _ (by rw [z1, z1]; omega) ?_
    have := al_ptr (w.alloc (.cells #[.string s] 53)) (.string s) 27
    rw [z1] at this; exact this
  · rw [frozen?_alloc_cells, frozen?_alloc_cells]; simp
  · rw [frozen?_alloc_cells]; have := frozen_new (w.alloc (.cells #[.string s] 53)) (.string s) 27; rw [z1] at this; exact this
  · have := al_ptr ((w.alloc (.cells #[.string s] 53)).alloc (.cells #[.string s] 27)) (.string s) 53
    rw [z1, z1] at this; exact this
  · rw [z1, z1, z1]; omega
theorem takes_next {w wr w6 : World} {s r : ByteArray} (hz : w.heap.size + 2 < wr.heap.size) (co : wr.cell? ⟨w.heap.size + 1 + 1, 0, none⟩ = some (.string s)) (hbel : Below w.heap.size w wr) (h : Step2 w.heap.size (w.heap.size + 1) wr.drew w6 r) :
    w6.cell? ⟨w.heap.size, 0, none⟩ = some (.string r) ∧ w6.cell? ⟨w.heap.size + 1, 0, none⟩ = some (.string r) ∧ w6.frozen? ⟨w.heap.size, 0, none⟩ = false ∧ w6.frozen? ⟨w.heap.size + 1, 0, none⟩ = false ∧
      w6.cell? ⟨w.heap.size + 1 + 1, 0, none⟩ = some (.string s) ∧ w.heap.size + 2 < w6.heap.size ∧ Below w.heap.size w w6 := by
  have z : wr.heap.size ≤ w6.heap.size := h.size
  have hblk : ∀ k, k < wr.heap.size → k ≠ w.heap.size → k ≠ w.heap.size + 1 → w6.heap[k]? = wr.heap[k]? := h.block
  refine ⟨h.cellr, h.cellq, h.frozenr, h.frozenq, ?_, by omega, ?_⟩
  · rw [World.cell?_of_block (w := wr) (hblk (w.heap.size + 1 + 1) (by omega) (by omega) (by omega))]; exact co
  · exact hbel.trans ⟨h.os, h.tape, h.output, z, fun k hk => hblk k (by omega) (by omega) (by omega)⟩
set_option maxHeartbeats 1000000 in
set_option maxRecDepth 100000 in
theorem takes_walk (s : ByteArray) (a0 : Option Addr) (len cap : Nat) (K N : Nat → Int) (w : World) (hs : s.size ≤ maxLen) (hlen : len ≤ maxLen) (hL : Lie2 w a0 len K N)
    (hN : ∀ i, i < len → -9223372036854775808 ≤ N i ∧ N i ≤ 9223372036854775807) :
    Calls Try.prog 3 #[.string s, .slice a0 len cap] w fun e w' => e = .returned (.bool true) ∧ Below w.heap.size w w' := by
  have hs' := hs
  unfold maxLen at hlen hs'
  have HL : Hid (Lie2 w a0 len K N) := hL
  have HN : Hid (∀ i, i < len → -9223372036854775808 ≤ N i ∧ N i ≤ 9223372036854775807) := hN
  clear hL hN
  go_enter Try.func3, Try.ntmps3
  go_wp2_with (go_at_call 6; refine (new_any _ _).mono ?_; rintro e w' ⟨rfl, rfl⟩)
  go_loopw [8] (fun v wr => ∃ (k : Nat) (r : ByteArray), k ≤ len ∧ k ≤ 200 ∧ v = .int .i64 k ∧ r.size ≤ s.size ∧ wr.cell? ⟨w.heap.size, 0, none⟩ = some (.string r) ∧ wr.cell? ⟨w.heap.size + 1, 0, none⟩ = some (.string r) ∧
      wr.frozen? ⟨w.heap.size, 0, none⟩ = false ∧ wr.frozen? ⟨w.heap.size + 1, 0, none⟩ = false ∧ wr.cell? ⟨w.heap.size + 1 + 1, 0, none⟩ = some (.string s) ∧ w.heap.size + 2 < wr.heap.size ∧ Below w.heap.size w wr) (fun v _ => 200 - (intOf v).toNat)
  case atStart => exact ⟨0, s, by omega, by omega, rfl, Nat.le_refl _, takes_start w s⟩
  case round =>
    obtain ⟨k, r, hk1, hk2, rfl, hrs, cr, cq, fr, fq, co, hz, hbel⟩ := hrel
    have hrm : r.size ≤ maxLen := by unfold maxLen; omega
    by_cases hlt : k < len ∧ k < 200
    · obtain ⟨g1, g2⟩ := hlt
      obtain ⟨b, off, rfl, hb, c0, c1⟩ := HL.out k g1
      have d0 := (hbel.cell (p := ⟨b, off + k * 2, none⟩) hb).trans c0
      have d1 := (hbel.cell (p := ⟨b, off + k * 2 + 1, none⟩) hb).trans c1
      obtain ⟨n0, n1⟩ := HN.out k g1
      clear c0 c1
      go_wp2_with fail
      go_region_with (first
        | (go_at_call 7; refine (same_any r w.heap.size (w.heap.size + 1) _ hrm ?_ ?_ ?_ ?_ ?_ ?_ ?_ (K k) (N k) n0 n1).mono ?_; exact cr; exact cq; exact fr; exact fq; (simp; omega); (simp; omega); omega; rintro e w5 ⟨rfl, r5, hr5, h5⟩; have x1 := h5.cellr; have x2 := h5.cellq; have hrm5 : r5.size ≤ maxLen := by unfold maxLen; omega)
        | (go_at_call 8; refine (left_any r5 w.heap.size _ hrm5 ?_).mono ?_; exact x1; rintro e w6 ⟨rfl, hw6⟩; subst hw6))
      all_goals go_wp2
      all_goals go_roundw
      all_goals first
        | exact ⟨k + 1, r5, by omega, by omega, by go_num, by omega, takes_next hz co hbel h5⟩
        | (simp [intOf]; omega)
    · have hcase : (k < len ∧ 200 ≤ k) ∨ ¬ k < len := by omega
      clear hlt
      have hsz0 := hbel.size
      have hqq : ((s.size : Int) == (s.size : Int)) = true := by simp
      rcases hcase with ⟨hkl, hk3⟩ | hkl
      all_goals
        go_wp2_with fail
        refine (left_any s (w.heap.size + 1 + 1) _ hs co).mono ?_
        rintro e w5 ⟨rfl, hw⟩
        subst hw
        go_wp2_with fail
        refine (awake_any _).mono ?_
        rintro e w6 ⟨rfl, h6⟩
        go_wp2
        go_ret
        exact ⟨rfl, hbel.trans (h6.mono (by omega))⟩
end Go.Proofs.Ytehbgkbnbaogoaa
