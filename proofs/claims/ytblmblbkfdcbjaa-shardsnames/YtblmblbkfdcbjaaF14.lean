/- The document's own Unit and Cauchy. -/
import Derived.Test.YtblmblbkfdcbjaaF13
import Derived.Test.YtblmblbkfdcbjaaF3
import Derived.Test.YtblmblbkfdcbjaaM3
namespace Go.Proofs.Ytblmblbkfdcbjaa
open Go.RowKit
set_option linter.unusedSimpArgs false
set_option linter.unusedVariables false
theorem made_byte (n : Nat) : madeCells #[Value.int .u8 0] n = rc (List.replicate n 0) := by
  apply Array.ext_getElem?
  intro i
  rw [rc_get]
  simp only [madeCells]
  by_cases hi : i < n
  · rw [List.getElem?_replicate, if_pos hi]
    simp [hi, Nat.mod_one]
  · rw [List.getElem?_eq_none (by simp; omega), Array.getElem?_eq_none (by simp; omega)]; rfl
theorem make_bytes (n : Nat) (hn : n ≤ 64) (u : World) : (Instr.makeSlice 44 (.int .i64 n) (.int .i64 n)).run Try.prog u =
    .ok (.slice (some ⟨u.heap.size, 0, none⟩) n n) (u.alloc (.cells (rc (List.replicate n 0)) 5)) := by
  obtain ⟨i0, hi, hz0, hz1, hz2⟩ := info_parts inf_byte
  have h := run_make (P := Try.prog) u 44 5 i0 (.int .u8 0) Try.underlying44 hi hz0 .i64 .i64 (n : Int) (n : Int) (by omega) (Int.le_refl _) (by rw [hz2]; omega) (by omega)
  rw [Int.toNat_natCast, hz1, Nat.mul_one] at h
  rw [h, ← made_byte]; rfl
theorem ur_front (n i : Nat) (h : n ≤ 64) : (List.replicate n (0 : UInt8)).set i 1 = (ur i).take n := by
  unfold ur zr
  rw [List.take_set, List.take_replicate, Nat.min_eq_left h]
theorem txtL_take (c k : Nat) (L : List (List UInt8)) (r : List UInt8) (hr : L[k]? = some r) : (txtL c L).take (k + 1) = (txtL c L).take k ++ [mkT (r.take c)] := by
  have hk := (List.getElem?_eq_some_iff.1 hr).1
  rw [List.take_succ_eq_append_getElem (by simp [txtL]; omega)]
  simp only [txtL, List.getElem_map]
  rw [(List.getElem?_eq_some_iff.1 hr).2]
theorem txtL_len (c : Nat) (L : List (List UInt8)) : (txtL c L).length = L.length := by simp [txtL]
set_option maxHeartbeats 1000000 in
set_option maxRecDepth 100000 in
theorem runit_yes (n : Nat) (w : World) (h1 : 1 ≤ n) (h2 : n ≤ 64) :
    Calls Try.prog 38 #[.int .i64 n] w fun e w' => ∃ v, e = .returned (.tuple #[v, .int .i64 0]) ∧ w'.ownsRow w.heap.size 9 1 v n (sv (txtL n (unL n))) ∧ Below w.heap.size w w' := by
  have hmk := make_bytes n h2
  obtain ⟨i0, hi, hz0, hz1, hz2⟩ := info_parts inf_str
  have n1 : ¬ (n : Int) < 1 := by omega
  have n2 : ¬ (64 : Int) < (n : Nat) := by omega
  go_enter Try.func38, Try.ntmps38
  go_wp2
  go_loopw [4, 5] (fun v t wr => ∃ i : Nat, i ≤ n ∧ t = .int .i64 i ∧ Hid (wr.ownsRow w.heap.size 9 1 v i (sv ((txtL n (unL n)).take i))) ∧ Hid (Below w.heap.size w wr)) (fun _ t _ => n - (intOf t).toNat)
  case atStart => exact ⟨0, by omega, rfl, World.ownsRow_nil _ _ _ _, Below.refl _ _⟩
  case round =>
    obtain ⟨i, hi', rfl, HO, HB⟩ := hrel
    have hz : w.heap.size ≤ wr.heap.size := HB.out.size
    by_cases hlt : i < n
    · have hiz : (i : Int) < (n : Nat) := by omega
      have HT : Hid ((txtL n (unL n)).take (i + 1) = (txtL n (unL n)).take i ++ [mkT ((ur i).take n)]) := txtL_take n i _ _ (unL_at n i hlt)
      have hb0 := bk_new wr (rc (List.replicate n 0)) 5
      have hc0 : (wr.alloc (.cells (rc (List.replicate n 0)) 5)).cell? ⟨wr.heap.size, i, none⟩ = some (.int .u8 0) := by rw [hb0.cell, rc_get, List.getElem?_replicate, if_pos hlt]; rfl
      have hf0 := hb0.frozen i
      have hcv : (convert 44 9 (.slice (some ⟨wr.heap.size, 0, none⟩) n n)).run Try.prog (wr.alloc (.cells ((rc (List.replicate n 0)).setIfInBounds i (.int .u8 1)) 5)) = .ok (.string (mkT ((ur i).take n))) (wr.alloc (.cells ((rc (List.replicate n 0)).setIfInBounds i (.int .u8 1)) 5)) := by
        have e : (rc (List.replicate n 0)).setIfInBounds i (.int .u8 1) = rc ((List.replicate n (0 : UInt8)).set i 1) := rc_set _ i 1
        have h := conv_front ((List.replicate n (0 : UInt8)).set i 1) wr.heap.size n n 5 (wr.alloc (.cells ((rc (List.replicate n 0)).setIfInBounds i (.int .u8 1)) 5)) (by simp) (by rw [e]; exact bk_new wr _ _)
        rw [List.take_of_length_le (by simp), ur_front n i h2] at h
        exact h
      have HO1 : Hid (∀ o1, (wr.alloc o1).ownsRow w.heap.size 9 1 u4 i (sv ((txtL n (unL n)).take i))) := fun o1 => HO.out.alloc _
      have HB1 : Hid (∀ o1, Below w.heap.size w (wr.alloc o1)) := fun o1 => HB.out.alloc hz _
      generalize hX : wr.alloc (.cells ((rc (List.replicate n 0)).setIfInBounds i (.int .u8 1)) 5) = W at *
      generalize mkT ((ur i).take n) = p at *
      have hWs : W.heap.size = wr.heap.size + 1 := by rw [← hX, al_size]
      have HOW : Hid (W.ownsRow w.heap.size 9 1 u4 i (sv ((txtL n (unL n)).take i))) := by show W.ownsRow _ _ _ _ _ _; rw [← hX]; exact HO.out.alloc _
      have HBW : Hid (Below w.heap.size w W) := by show Below _ _ _; rw [← hX]; exact HB.out.alloc hz _
      have HC1 : Hid (∀ (j : Nat) (u : Value), [Value.string p][j]? = some u → (W.alloc (.cells #[Value.string p] 9)).cell? ((⟨wr.heap.size + 1, 0, none⟩ : Addr).add j) = some u) := by
        rw [← hWs]; exact news_one _ _ _
      clear HO HB HO1 HB1 hb0
      go_wp2_with (at_builtin; refine wpList_append_own _ rfl _ _ 22 rfl w.heap.size 9 i0 (.string ⟨#[]⟩) 1 16 Try.underlying22 hi hz0 hz1 hz2 rfl (by decide) _ _ _ rfl (HOW.out.alloc _) ⟨wr.heap.size + 1, 0, none⟩ 1 1 [.string p] rfl rfl HC1.out (one_str _) (by unfold maxLen; omega) (by omega) (by simp; omega) ?_)
      intro v' w7 hown1 hgrow _
      have HO7 : Hid (w7.ownsRow w.heap.size 9 1 v' (i + 1) (sv ((txtL n (unL n)).take (i + 1)))) := by
        show w7.ownsRow w.heap.size 9 1 v' (i + 1) (sv ((txtL n (unL n)).take (i + 1)))
        rw [HT.out, sv_append]; exact hown1
      have HB7 : Hid (Below w.heap.size w w7) := apn_bel HBW.out (by omega) HOW.out hgrow
      clear hown1 hgrow HOW HBW HC1 hcv hc0 hf0 hX
      go_wp2
      go_roundw
      case rel => exact ⟨i + 1, by omega, by go_num, HO7.out, HB7.out⟩
      case measure => simp [intOf]; omega
    · have hin : i = n := by omega
      have HOe : Hid (wr.ownsRow w.heap.size 9 1 u4 n (sv (txtL n (unL n)))) := by
        have h := HO.out
        rw [hin, List.take_of_length_le (by rw [txtL_len, unL_len]; omega)] at h
        exact h
      clear hin HO
      go_wp2
      go_ret2
      exact ⟨_, rfl, HOe.out, HB.out⟩
theorem runit_no (n : Int) (w : World) (h : ¬ (1 ≤ n ∧ n ≤ 64)) :
    Calls Try.prog 38 #[.int .i64 n] w fun e w' => e = .returned (.tuple #[.slice none 0 0, .int .i64 1]) ∧ w' = w := by
  by_cases h1 : n < 1
  · go_enter Try.func38, Try.ntmps38
    go_wp2
    go_ret2
    exact ⟨rfl, rfl⟩
  · have h2 : 64 < n := by omega
    clear h
    go_enter Try.func38, Try.ntmps38
    go_wp2
    go_ret2
    exact ⟨rfl, rfl⟩
end Go.Proofs.Ytblmblbkfdcbjaa
