/- A text cut into shards: shards.Cut. -/
import Derived.Test.YtblmblbkfdcbjabJ3
import Derived.Test.YtblmblbkfdcbjabJ4
namespace Go.Proofs.Ytblmblbkfdcbjab
open Go.RowKit
set_option linter.unusedSimpArgs false
set_option linter.unusedVariables false
/-- A shard's length; the shards; the errors. -/
def cw (N k : Nat) : Nat := if N % k = 0 then N / k else N / k + 1
def cutL (s : ByteArray) (k : Nat) : List ByteArray := (List.range k).map fun i => mkT (fl (cw s.size k) fun j => bt s (i * cw s.size k + j))
def cuX (s : ByteArray) (k : Int) : List ByteArray := if 1 ≤ k ∧ k ≤ 32 then cutL s k.toNat else []
def cuE (k : Int) : Nat := if 1 ≤ k ∧ k ≤ 32 then 0 else 1
theorem cutL_len (s : ByteArray) (k : Nat) : (cutL s k).length = k := by simp [cutL]
theorem cutL_at (s : ByteArray) (k i : Nat) (h : i < k) : (cutL s k)[i]? = some (mkT (fl (cw s.size k) fun j => bt s (i * cw s.size k + j))) := by rw [cutL, List.getElem?_map, List.getElem?_range h]; rfl
theorem cuX_len (s : ByteArray) (k : Int) : (cuX s k).length ≤ 64 := by
  unfold cuX
  split
  · rw [cutL_len]; omega
  · simp
theorem cw_le (N k : Nat) (h : 1 ≤ k) : cw N k ≤ N := by
  unfold cw
  have := Nat.div_le_self N k
  split
  · exact this
  · rename_i h0
    have h1 : k ≠ 1 := fun e => h0 (by rw [e, Nat.mod_one])
    have h2 : N ≠ 0 := fun e => h0 (by rw [e, Nat.zero_mod])
    have := Nat.div_lt_self (n := N) (k := k) (by omega) (by omega)
    omega
theorem cw_ge (N k : Nat) (h : 1 ≤ k) : N ≤ k * cw N k := by
  unfold cw
  have := Nat.div_add_mod N k
  have hm := Nat.mod_lt N (show 0 < k by omega)
  split
  · omega
  · rw [Nat.mul_add, Nat.mul_one]; omega
theorem bt_cut (s : ByteArray) (x j : Nat) : bt (s.extract x s.size) j = bt s (x + j) := by
  by_cases h : x + j < s.size
  · have h1 : j < (s.extract x s.size).size := by rw [ByteArray.size_extract]; omega
    rw [← bt_at _ _ h1, ← bt_at _ _ h, ByteArray.getElem_extract]
  · rw [bt_out s _ (by omega), bt_out _ _ (by rw [ByteArray.size_extract]; omega)]
theorem bt_none (j : Nat) : bt ByteArray.empty j = 0 := bt_out _ _ (by show (0 : Nat) ≤ j; omega)
theorem copy_cut (t : ByteArray) (D g : Nat) (W : World) (hB : Bk W g (rc (fl D fun _ => 0)) 5) :
    ∃ v W2, (Builtin.copy_ #[28, 9] 3 #[.slice (some ⟨g, 0, none⟩) D D, .string t]).run Try.prog W = .ok v W2 ∧ Bk W2 g (rc (fl D (bt t))) 5 ∧ W.grownBy W2 (some g) ∧ W2.heap.size = W.heap.size := by
  have hi : (Try.prog.info? 5).map (·.size) = some 1 := by kernel_rfl
  have hm : Nat.min t.size D ≤ D := Nat.min_le_right _ _
  have hm2 : Nat.min t.size D ≤ t.size := Nat.min_le_left _ _
  have hm3 : ∀ p, p < D → ¬ p < Nat.min t.size D → t.size ≤ p := fun p h1 h2 => by
    by_cases h : t.size ≤ D
    · rw [show Nat.min t.size D = t.size from Nat.min_eq_left h] at h2; omega
    · rw [show Nat.min t.size D = D from Nat.min_eq_right (by omega)] at h2; omega
  have h := copy_txt W 28 9 3 5 g 0 D D t (P := Try.prog) Try.underlying28 hi (fun j hj => by
      rw [Nat.zero_add, hB.cell, rc_get, fl_get D _ j (by omega)]; rfl) (fun j hj => hB.frozen _)
  obtain ⟨m, hmm⟩ : ∃ m, Nat.min t.size D = m := ⟨_, rfl⟩
  rw [hmm] at h hm hm2 hm3
  refine ⟨_, _, h, ?_, gr_puts g _ _ (World.grownBy.refl _ _), setCells_size g _ _ _⟩
  have h2 := Bk.puts (rc (t.data.toList.take m)).toList 0 _ W hB
  have hl : (t.data.toList.take m).length = m := by rw [List.length_take, Array.length_toList]; exact Nat.min_eq_left hm2
  rw [putC_rc _ _ _ (by rw [fl_len, hl]; omega)] at h2
  have e : putB (fl D fun _ => 0) 0 (t.data.toList.take m) = fl D (bt t) := by
    apply List.ext_getElem?
    intro p
    rw [putB_get _ _ _ (by rw [fl_len, hl]; omega), hl]
    by_cases hp : p < D
    · rw [fl_get D _ p hp, fl_get D _ p hp]
      by_cases hq : p < m
      · rw [if_pos ⟨by omega, by omega⟩, Nat.sub_zero, List.getElem?_take, if_pos hq, bt, List.getD]
        have : p < t.data.toList.length := by rw [Array.length_toList]; show p < t.size; omega
        rw [List.getElem?_eq_getElem this]; rfl
      · rw [if_neg (by omega), bt_out t p (hm3 p hp hq)]
    · rw [if_neg (by omega), List.getElem?_eq_none (by rw [fl_len]; omega), List.getElem?_eq_none (by rw [fl_len]; omega)]
  rw [e] at h2
  exact h2
set_option maxHeartbeats 1000000 in
set_option maxRecDepth 100000 in
theorem cut_any (s : ByteArray) (k : Int) (w : World) (hs : s.size ≤ 140737488355328) (k1 : -9223372036854775808 ≤ k) (k2 : k ≤ 9223372036854775807) :
    Calls Try.prog 5 #[.string s, .int .i64 k] w fun e w' => ∃ ao, e = .returned (.tuple #[.slice ao (cuX s k).length (cuX s k).length, .int .i64 (cuE k)]) ∧ Mad w ao (cuX s k) w' ∧ Below w.heap.size w w' := by
  have hh := hold_any k
  by_cases h1 : 1 ≤ k ∧ k ≤ 32
  · rw [hlB, decide_eq_true h1] at hh
    have C1 : Hid _ := hh
    have e1 : cuX s k = cutL s k.toNat := if_pos h1
    have e2 : cuE k = 0 := if_pos h1
    obtain ⟨n, rfl⟩ : ∃ n : Nat, k = n := ⟨k.toNat, by omega⟩
    rw [e1, e2, Int.toNat_natCast, cutL_len]
    clear hh e1 e2
    obtain ⟨h1a, h1b⟩ := h1
    have hn1 : 1 ≤ n := by omega
    have hn2 : n ≤ 32 := by omega
    have hcl := cw_le s.size n hn1
    have hcw : cw s.size n = if s.size % n = 0 then s.size / n else s.size / n + 1 := rfl
    have hmk := make_txts n (by omega)
    have hmu := make_u8 (cw s.size n) (by omega)
    have HL : Hid (∀ i, i < n → (cutL s n)[i]? = some (mkT (fl (cw s.size n) fun j => bt s (i * cw s.size n + j)))) := fun i hi => cutL_at s n i hi
    have NL : Hid ((cutL s n).length = n) := cutL_len s n
    obtain ⟨D, hD⟩ : ∃ D, cw s.size n = D := ⟨_, rfl⟩
    obtain ⟨Q, hQ⟩ : ∃ Q, s.size / n = Q := ⟨_, rfl⟩
    obtain ⟨R, hR⟩ : ∃ R, s.size % n = R := ⟨_, rfl⟩
    rw [hD, hQ, hR] at hcw
    rw [hD] at hcl hmu HL
    have hq0 : ((n : Int) == 0) = false := by rw [beq_eq_false_iff_ne]; omega
    have hdt : (s.size : Int).tdiv (n : Int) = (Q : Int) := by rw [Int.tdiv_eq_ediv_of_nonneg (by omega), ← hQ]; exact (Int.natCast_ediv _ _).symm
    have hmt : (s.size : Int).tmod (n : Int) = (R : Int) := by rw [Int.tmod_eq_emod_of_nonneg (by omega), ← hR]; exact (Int.natCast_emod _ _).symm
    have hdz : (s.size : Int) / (n : Int) = (Q : Int) := by rw [← hQ]; exact (Int.natCast_ediv _ _).symm
    have hmz : (s.size : Int) % (n : Int) = (R : Int) := by rw [← hR]; exact (Int.natCast_emod _ _).symm
    have hQs : Q ≤ s.size := by rw [← hQ]; exact Nat.div_le_self _ _
    have hRs : R ≤ s.size := by rw [← hR]; exact Nat.mod_le _ _
    clear hQ hR hD
    have hQR : (R = 0 ∧ D = Q) ∨ (R ≠ 0 ∧ D = Q + 1) := by
      by_cases h : R = 0
      · rw [if_pos h] at hcw; exact .inl ⟨h, hcw⟩
      · rw [if_neg h] at hcw; exact .inr ⟨h, hcw⟩
    clear hcw
    rcases hQR with ⟨hR0, hQ1⟩ | ⟨hR0, hQ1⟩
    · subst hQ1
      subst hR0
      go_enter Try.func5, Try.ntmps5
      go_wp2_with fail
      refine Calls.mono (C1.out _) ?_
      rintro e w1 ⟨rfl, hw⟩
      subst hw
      go_wp2_with fail
      go_loopw [28] (fun v wr => ∃ i : Nat, i ≤ n ∧ v = .int .i64 i ∧ Hid (Bk wr w1.heap.size (txc (prt (cutL s n) i)) 9) ∧ Hid (Below w1.heap.size w1 wr) ∧ w1.heap.size < wr.heap.size) (fun v _ => n - (intOf v).toNat)
      case atStart =>
        refine ⟨0, by omega, rfl, ?_, (Below.refl _ _).alloc (Nat.le_refl _) _, by rw [al_size]; omega⟩
        show Bk _ _ _ _
        rw [prt_zero, NL.out]
        exact bk_new w1 _ _
      case round =>
        obtain ⟨i, hi, rfl, HT, HW, hsz⟩ := hrel
        by_cases hlt : i < n
        · have hiz : (i : Int) < (n : Nat) := by omega
          obtain ⟨x, hx⟩ : ∃ x, i * D = x := ⟨_, rfl⟩
          have hxz : (i : Int) * (D : Int) = (x : Int) := by rw [← hx]; exact (Int.natCast_mul _ _).symm
          have hxb : x ≤ 4611686018427387904 := by
            rw [← hx]
            exact Nat.le_trans (Nat.mul_le_mul (show i ≤ 32 by omega) (show D ≤ 140737488355328 by omega)) (by decide)
          by_cases hxs : s.size < x
          · have hxs2 : ¬ x ≤ s.size := by omega
            obtain ⟨v, W2, hcp, hB2, hG2, hs2⟩ := copy_cut ByteArray.empty D wr.heap.size (wr.alloc (.cells (rc (fl D fun _ => 0)) 5)) (bk_new wr _ _)
            have hfl : fl D (bt ByteArray.empty) = fl D (fun j => bt s (i * D + j)) := fl_congr D _ _ (fun p hp => by rw [bt_none, bt_out s _ (by rw [hx]; omega)])
            rw [hfl] at hB2
            rw [al_size] at hs2
            have hcv := conv_all (fl D fun j => bt s (i * D + j)) wr.heap.size D D 5 W2 (fl_len _ _) hB2
            have HWa : Below w1.heap.size w1 W2 := below_own (HW.out.alloc (by omega) _) (by rw [al_size]; omega) hG2 (by omega)
            have HT2 : Bk W2 w1.heap.size (txc (prt (cutL s n) i)) 9 := (HT.out.alloc _).grown hG2 (by simp; omega)
            have hc4 : W2.cell? ⟨w1.heap.size, i, none⟩ = some (.string (mkT [])) := by rw [HT2.cell, txc_get, prt_at _ i (by rw [NL.out]; exact hlt)]; rfl
            have hf4 := HT2.frozen i
            have HN : Hid (Bk (W2.setCell ⟨w1.heap.size, i, none⟩ (.string (mkT (fl D fun j => bt s (i * D + j))))) w1.heap.size (txc (prt (cutL s n) (i + 1))) 9) := by
              show Bk _ _ _ _
              rw [← prt_next _ i _ (HL.out i hlt), ← txc_set]
              exact HT2.set i _
            obtain ⟨pt, hpt⟩ : ∃ pt, mkT (fl D fun j => bt s (i * D + j)) = pt := ⟨_, rfl⟩
            rw [hpt] at hcv HN
            have HWn : Hid (Below w1.heap.size w1 (W2.setCell ⟨w1.heap.size, i, none⟩ (.string pt))) := HWa.setCell (Nat.le_refl _) _
            have hszn : w1.heap.size < (W2.setCell ⟨w1.heap.size, i, none⟩ (.string pt)).heap.size := by simp [World.setCell]; omega
            clear hB2 hG2 hfl HWa HT2 hpt hx HT HW
            go_wp2
            go_roundw
            case rel => exact ⟨i + 1, by omega, by go_num, HN.out, HWn.out, hszn⟩
            case measure => simp [intOf]; omega
          · have hxs2 : x ≤ s.size := by omega
            have hxs3 : (x : Int) ≤ (s.size : Nat) := by omega
            obtain ⟨v, W2, hcp, hB2, hG2, hs2⟩ := copy_cut (s.extract x s.size) D wr.heap.size (wr.alloc (.cells (rc (fl D fun _ => 0)) 5)) (bk_new wr _ _)
            have hfl : fl D (bt (s.extract x s.size)) = fl D (fun j => bt s (i * D + j)) := fl_congr D _ _ (fun p hp => by rw [bt_cut, hx])
            rw [hfl] at hB2
            rw [al_size] at hs2
            have hcv := conv_all (fl D fun j => bt s (i * D + j)) wr.heap.size D D 5 W2 (fl_len _ _) hB2
            have HWa : Below w1.heap.size w1 W2 := below_own (HW.out.alloc (by omega) _) (by rw [al_size]; omega) hG2 (by omega)
            have HT2 : Bk W2 w1.heap.size (txc (prt (cutL s n) i)) 9 := (HT.out.alloc _).grown hG2 (by simp; omega)
            have hc4 : W2.cell? ⟨w1.heap.size, i, none⟩ = some (.string (mkT [])) := by rw [HT2.cell, txc_get, prt_at _ i (by rw [NL.out]; exact hlt)]; rfl
            have hf4 := HT2.frozen i
            have HN : Hid (Bk (W2.setCell ⟨w1.heap.size, i, none⟩ (.string (mkT (fl D fun j => bt s (i * D + j))))) w1.heap.size (txc (prt (cutL s n) (i + 1))) 9) := by
              show Bk _ _ _ _
              rw [← prt_next _ i _ (HL.out i hlt), ← txc_set]
              exact HT2.set i _
            obtain ⟨pt, hpt⟩ : ∃ pt, mkT (fl D fun j => bt s (i * D + j)) = pt := ⟨_, rfl⟩
            rw [hpt] at hcv HN
            have HWn : Hid (Below w1.heap.size w1 (W2.setCell ⟨w1.heap.size, i, none⟩ (.string pt))) := HWa.setCell (Nat.le_refl _) _
            have hszn : w1.heap.size < (W2.setCell ⟨w1.heap.size, i, none⟩ (.string pt)).heap.size := by simp [World.setCell]; omega
            clear hB2 hG2 hfl HWa HT2 hpt hx HT HW
            go_wp2
            go_roundw
            case rel => exact ⟨i + 1, by omega, by go_num, HN.out, HWn.out, hszn⟩
            case measure => simp [intOf]; omega
        · have hiz : ¬ (i : Int) < (n : Nat) := by omega
          have hin : i = n := by omega
          have HF : Hid (Bk wr w1.heap.size (txc (cutL s n)) 9) := by
            have := HT.out
            have e := prt_all (cutL s n)
            rw [NL.out] at e
            rw [hin, e] at this
            exact this
          clear hin
          go_wp2
          go_ret2
          exact ⟨_, rfl, .inr ⟨_, rfl, Nat.le_refl _, HF.out⟩, HW.out⟩
    · have hQ2 : (Q : Int) + 1 = (D : Int) := by omega
      have hDb : (D : Int) ≤ 140737488355328 := by omega
      have hDa : (0 : Int) ≤ (D : Int) := by omega
      clear hQ1
      have hR1 : ((R : Int) == 0) = false := by rw [beq_eq_false_iff_ne]; omega
      go_enter Try.func5, Try.ntmps5
      go_wp2_with fail
      refine Calls.mono (C1.out _) ?_
      rintro e w1 ⟨rfl, hw⟩
      subst hw
      go_wp2_with fail
      go_loopw [28] (fun v wr => ∃ i : Nat, i ≤ n ∧ v = .int .i64 i ∧ Hid (Bk wr w1.heap.size (txc (prt (cutL s n) i)) 9) ∧ Hid (Below w1.heap.size w1 wr) ∧ w1.heap.size < wr.heap.size) (fun v _ => n - (intOf v).toNat)
      case atStart =>
        refine ⟨0, by omega, rfl, ?_, (Below.refl _ _).alloc (Nat.le_refl _) _, by rw [al_size]; omega⟩
        show Bk _ _ _ _
        rw [prt_zero, NL.out]
        exact bk_new w1 _ _
      case round =>
        obtain ⟨i, hi, rfl, HT, HW, hsz⟩ := hrel
        by_cases hlt : i < n
        · have hiz : (i : Int) < (n : Nat) := by omega
          obtain ⟨x, hx⟩ : ∃ x, i * D = x := ⟨_, rfl⟩
          have hxz : (i : Int) * (D : Int) = (x : Int) := by rw [← hx]; exact (Int.natCast_mul _ _).symm
          have hxb : x ≤ 4611686018427387904 := by
            rw [← hx]
            exact Nat.le_trans (Nat.mul_le_mul (show i ≤ 32 by omega) (show D ≤ 140737488355328 by omega)) (by decide)
          by_cases hxs : s.size < x
          · have hxs2 : ¬ x ≤ s.size := by omega
            obtain ⟨v, W2, hcp, hB2, hG2, hs2⟩ := copy_cut ByteArray.empty D wr.heap.size (wr.alloc (.cells (rc (fl D fun _ => 0)) 5)) (bk_new wr _ _)
            have hfl : fl D (bt ByteArray.empty) = fl D (fun j => bt s (i * D + j)) := fl_congr D _ _ (fun p hp => by rw [bt_none, bt_out s _ (by rw [hx]; omega)])
            rw [hfl] at hB2
            rw [al_size] at hs2
            have hcv := conv_all (fl D fun j => bt s (i * D + j)) wr.heap.size D D 5 W2 (fl_len _ _) hB2
            have HWa : Below w1.heap.size w1 W2 := below_own (HW.out.alloc (by omega) _) (by rw [al_size]; omega) hG2 (by omega)
            have HT2 : Bk W2 w1.heap.size (txc (prt (cutL s n) i)) 9 := (HT.out.alloc _).grown hG2 (by simp; omega)
            have hc4 : W2.cell? ⟨w1.heap.size, i, none⟩ = some (.string (mkT [])) := by rw [HT2.cell, txc_get, prt_at _ i (by rw [NL.out]; exact hlt)]; rfl
            have hf4 := HT2.frozen i
            have HN : Hid (Bk (W2.setCell ⟨w1.heap.size, i, none⟩ (.string (mkT (fl D fun j => bt s (i * D + j))))) w1.heap.size (txc (prt (cutL s n) (i + 1))) 9) := by
              show Bk _ _ _ _
              rw [← prt_next _ i _ (HL.out i hlt), ← txc_set]
              exact HT2.set i _
            obtain ⟨pt, hpt⟩ : ∃ pt, mkT (fl D fun j => bt s (i * D + j)) = pt := ⟨_, rfl⟩
            rw [hpt] at hcv HN
            have HWn : Hid (Below w1.heap.size w1 (W2.setCell ⟨w1.heap.size, i, none⟩ (.string pt))) := HWa.setCell (Nat.le_refl _) _
            have hszn : w1.heap.size < (W2.setCell ⟨w1.heap.size, i, none⟩ (.string pt)).heap.size := by simp [World.setCell]; omega
            clear hB2 hG2 hfl HWa HT2 hpt hx HT HW
            go_wp2
            go_roundw
            case rel => exact ⟨i + 1, by omega, by go_num, HN.out, HWn.out, hszn⟩
            case measure => simp [intOf]; omega
          · have hxs2 : x ≤ s.size := by omega
            have hxs3 : (x : Int) ≤ (s.size : Nat) := by omega
            obtain ⟨v, W2, hcp, hB2, hG2, hs2⟩ := copy_cut (s.extract x s.size) D wr.heap.size (wr.alloc (.cells (rc (fl D fun _ => 0)) 5)) (bk_new wr _ _)
            have hfl : fl D (bt (s.extract x s.size)) = fl D (fun j => bt s (i * D + j)) := fl_congr D _ _ (fun p hp => by rw [bt_cut, hx])
            rw [hfl] at hB2
            rw [al_size] at hs2
            have hcv := conv_all (fl D fun j => bt s (i * D + j)) wr.heap.size D D 5 W2 (fl_len _ _) hB2
            have HWa : Below w1.heap.size w1 W2 := below_own (HW.out.alloc (by omega) _) (by rw [al_size]; omega) hG2 (by omega)
            have HT2 : Bk W2 w1.heap.size (txc (prt (cutL s n) i)) 9 := (HT.out.alloc _).grown hG2 (by simp; omega)
            have hc4 : W2.cell? ⟨w1.heap.size, i, none⟩ = some (.string (mkT [])) := by rw [HT2.cell, txc_get, prt_at _ i (by rw [NL.out]; exact hlt)]; rfl
            have hf4 := HT2.frozen i
            have HN : Hid (Bk (W2.setCell ⟨w1.heap.size, i, none⟩ (.string (mkT (fl D fun j => bt s (i * D + j))))) w1.heap.size (txc (prt (cutL s n) (i + 1))) 9) := by
              show Bk _ _ _ _
              rw [← prt_next _ i _ (HL.out i hlt), ← txc_set]
              exact HT2.set i _
            obtain ⟨pt, hpt⟩ : ∃ pt, mkT (fl D fun j => bt s (i * D + j)) = pt := ⟨_, rfl⟩
            rw [hpt] at hcv HN
            have HWn : Hid (Below w1.heap.size w1 (W2.setCell ⟨w1.heap.size, i, none⟩ (.string pt))) := HWa.setCell (Nat.le_refl _) _
            have hszn : w1.heap.size < (W2.setCell ⟨w1.heap.size, i, none⟩ (.string pt)).heap.size := by simp [World.setCell]; omega
            clear hB2 hG2 hfl HWa HT2 hpt hx HT HW
            go_wp2
            go_roundw
            case rel => exact ⟨i + 1, by omega, by go_num, HN.out, HWn.out, hszn⟩
            case measure => simp [intOf]; omega
        · have hiz : ¬ (i : Int) < (n : Nat) := by omega
          have hin : i = n := by omega
          have HF : Hid (Bk wr w1.heap.size (txc (cutL s n)) 9) := by
            have := HT.out
            have e := prt_all (cutL s n)
            rw [NL.out] at e
            rw [hin, e] at this
            exact this
          clear hin
          go_wp2
          go_ret2
          exact ⟨_, rfl, .inr ⟨_, rfl, Nat.le_refl _, HF.out⟩, HW.out⟩
  · rw [hlB, decide_eq_false h1] at hh
    have C1 : Hid _ := hh
    have e1 : cuX s k = [] := if_neg h1
    have e2 : cuE k = 1 := if_neg h1
    rw [e1, e2]
    clear hh e1 e2 h1
    go_enter Try.func5, Try.ntmps5
    go_wp2_with fail
    refine Calls.mono (C1.out _) ?_
    rintro e w1 ⟨rfl, hw⟩
    subst hw
    go_wp2
    go_ret2
    exact ⟨none, rfl, .inl ⟨rfl, rfl⟩, Below.refl _ _⟩
end Go.Proofs.Ytblmblbkfdcbjab
