import Derived.Test.YtecpcocnoengiaaY4
import Derived.Test.YtecpcocnoengiaaY11
import Derived.Test.YtecpcocnoengiaaRows
import Derived.Test.YtecpcocnoengiaaY1
import Derived.Test.YtecpcocnoengiaaY3
import Derived.Maps.AppendAt
import Derived.Test.YtecpcocnoengiaaY10
import Derived.Lib.BufferOwn
import Derived.WalkKit
import Derived.Handy
/- A text cut into shards: shards.Cut. -/
namespace Go.Proofs.Ytecpcocnoengiaa
open Go.RowKit
set_option linter.unusedSimpArgs false
set_option linter.unusedVariables false
/-- A shard's length; the shards; the errors. -/
def cw (N k : Nat) : Nat := if N % k = 0 then N / k else N / k + 1
def cutL (s : ByteArray) (k : Nat) : List ByteArray := (List.range k).map fun i => mkT (fl (cw s.size k) fun j => bt s (i * cw s.size k + j))
def cuX (s : ByteArray) (k : Int) : List ByteArray := if 1 ≤ k ∧ k ≤ 32 then cutL s k.toNat else []
def cuE (k : Int) : Nat := if 1 ≤ k ∧ k ≤ 32 then 0 else 1
theorem cutL_len (s : ByteArray) (k : Nat) : (cutL s k).length = k := by simp [cutL]
theorem cutL_at (s : ByteArray) (k i : Nat) (h : i < k) : (cutL s k)[i]? = some (mkT (fl (cw s.size k) fun j => bt s (i * cw s.size k + j))) := by rw [cutL, List.getElem?_map, List.getElem?_range h]; rfl
theorem cuX_len (s : ByteArray) (k : Int) : (cuX s k).length ≤ 64 := by
  unfold cuX
  split
  · rw [cutL_len]; omega
  · simp
theorem cw_le (N k : Nat) (h : 1 ≤ k) : cw N k ≤ N := by
  unfold cw
  have := Nat.div_le_self N k
  split
  · exact this
  · rename_i h0
    have h1 : k ≠ 1 := fun e => h0 (by rw [e, Nat.mod_one])
    have h2 : N ≠ 0 := fun e => h0 (by rw [e, Nat.zero_mod])
    have := Nat.div_lt_self (n := N) (k := k) (by omega) (by omega)
    omega
theorem cw_ge (N k : Nat) (h : 1 ≤ k) : N ≤ k * cw N k := by
  unfold cw
  have := Nat.div_add_mod N k
  have hm := Nat.mod_lt N (show 0 < k by omega)
  split
  · omega
  · rw [Nat.mul_add, Nat.mul_one]; omega
theorem bt_cut (s : ByteArray) (x j : Nat) : bt (s.extract x s.size) j = bt s (x + j) := by
  by_cases h : x + j < s.size
  · have h1 : j < (s.extract x s.size).size := by rw [ByteArray.size_extract]; omega
    rw [← bt_at _ _ h1, ← bt_at _ _ h, ByteArray.getElem_extract]
  · rw [bt_out s _ (by omega), bt_out _ _ (by rw [ByteArray.size_extract]; omega)]
theorem bt_none (j : Nat) : bt ByteArray.empty j = 0 := bt_out _ _ (by show (0 : Nat) ≤ j; omega)
theorem copy_cut (t : ByteArray) (D g : Nat) (W : World) (hB : Bk W g (rc (fl D fun _ => 0)) 5) :
    ∃ v W2, (Builtin.copy_ #[28, 9] 3 #[.slice (some ⟨g, 0, none⟩) D D, .string t]).run Try.prog W = .ok v W2 ∧ Bk W2 g (rc (fl D (bt t))) 5 ∧ W.grownBy W2 (some g) ∧ W2.heap.size = W.heap.size := by
  have hi : (Try.prog.info? 5).map (·.size) = some 1 := by kernel_rfl
  have hm : Nat.min t.size D ≤ D := Nat.min_le_right _ _
  have hm2 : Nat.min t.size D ≤ t.size := Nat.min_le_left _ _
  have hm3 : ∀ p, p < D → ¬ p < Nat.min t.size D → t.size ≤ p := fun p h1 h2 => by
    by_cases h : t.size ≤ D
    · rw [show Nat.min t.size D = t.size from Nat.min_eq_left h] at h2; omega
    · rw [show Nat.min t.size D = D from Nat.min_eq_right (by omega)] at h2; omega
  have h := copy_txt W 28 9 3 5 g 0 D D t (P := Try.prog) Try.underlying28 hi (fun j hj => by
      rw [Nat.zero_add, hB.cell, rc_get, fl_get D _ j (by omega)]; rfl) (fun j hj => hB.frozen _)
  obtain ⟨m, hmm⟩ : ∃ m, Nat.min t.size D = m := ⟨_, rfl⟩
  rw [hmm] at h hm hm2 hm3
  refine ⟨_, _, h, ?_, gr_puts g _ _ (World.grownBy.refl _ _), setCells_size g _ _ _⟩
  have h2 := Bk.puts (rc (t.data.toList.take m)).toList 0 _ W hB
  have hl : (t.data.toList.take m).length = m := by rw [List.length_take, Array.length_toList]; exact Nat.min_eq_left hm2
  rw [putC_rc _ _ _ (by rw [fl_len, hl]; omega)] at h2
  have e : putB (fl D fun _ => 0) 0 (t.data.toList.take m) = fl D (bt t) := by
    apply List.ext_getElem?
    intro p
    rw [putB_get _ _ _ (by rw [fl_len, hl]; omega), hl]
    by_cases hp : p < D
    · rw [fl_get D _ p hp, fl_get D _ p hp]
      by_cases hq : p < m
      · rw [if_pos ⟨by omega, by omega⟩, Nat.sub_zero, List.getElem?_take, if_pos hq, bt, List.getD]
        have : p < t.data.toList.length := by rw [Array.length_toList]; show p < t.size; omega
        rw [List.getElem?_eq_getElem this]; rfl
      · rw [if_neg (by omega), bt_out t p (hm3 p hp hq)]
    · rw [if_neg (by omega), List.getElem?_eq_none (by rw [fl_len]; omega), List.getElem?_eq_none (by rw [fl_len]; omega)]
  rw [e] at h2
  exact h2
set_option maxHeartbeats 1000000 in
set_option maxRecDepth 100000 in
theorem cut_any (s : ByteArray) (k : Int) (w : World) (hs : s.size ≤ 140737488355328) (k1 : -9223372036854775808 ≤ k) (k2 : k ≤ 9223372036854775807) :
    Calls Try.prog 6 #[.string s, .int .i64 k] w fun e w' => ∃ ao, e = .returned (.tuple #[.slice ao (cuX s k).length (cuX s k).length, .int .i64 (cuE k)]) ∧ Mad w ao (cuX s k) w' ∧ Below w.heap.size w w' := by
  have hh := hold_any k
  by_cases h1 : 1 ≤ k ∧ k ≤ 32
  · rw [hlB, decide_eq_true h1] at hh
    have C1 : Hid _ := hh
    have e1 : cuX s k = cutL s k.toNat := if_pos h1
    have e2 : cuE k = 0 := if_pos h1
    obtain ⟨n, rfl⟩ : ∃ n : Nat, k = n := ⟨k.toNat, by omega⟩
    rw [e1, e2, Int.toNat_natCast, cutL_len]
    clear hh e1 e2
    obtain ⟨h1a, h1b⟩ := h1
    have hn1 : 1 ≤ n := by omega
    have hn2 : n ≤ 32 := by omega
    have hcl := cw_le s.size n hn1
    have hcw : cw s.size n = if s.size % n = 0 then s.size / n else s.size / n + 1 := rfl
    have hmk := make_txts n (by omega)
    have hmu := make_u8 (cw s.size n) (by omega)
    have HL : Hid (∀ i, i < n → (cutL s n)[i]? = some (mkT (fl (cw s.size n) fun j => bt s (i * cw s.size n + j)))) := fun i hi => cutL_at s n i hi
    have NL : Hid ((cutL s n).length = n) := cutL_len s n
    obtain ⟨D, hD⟩ : ∃ D, cw s.size n = D := ⟨_, rfl⟩
    obtain ⟨Q, hQ⟩ : ∃ Q, s.size / n = Q := ⟨_, rfl⟩
    obtain ⟨R, hR⟩ : ∃ R, s.size % n = R := ⟨_, rfl⟩
    rw [hD, hQ, hR] at hcw
    rw [hD] at hcl hmu HL
    have hq0 : ((n : Int) == 0) = false := by rw [beq_eq_false_iff_ne]; omega
    have hdt : (s.size : Int).tdiv (n : Int) = (Q : Int) := by rw [Int.tdiv_eq_ediv_of_nonneg (by omega), ← hQ]; exact (Int.natCast_ediv _ _).symm
    have hmt : (s.size : Int).tmod (n : Int) = (R : Int) := by rw [Int.tmod_eq_emod_of_nonneg (by omega), ← hR]; exact (Int.natCast_emod _ _).symm
    have hdz : (s.size : Int) / (n : Int) = (Q : Int) := by rw [← hQ]; exact (Int.natCast_ediv _ _).symm
    have hmz : (s.size : Int) % (n : Int) = (R : Int) := by rw [← hR]; exact (Int.natCast_emod _ _).symm
    have hQs : Q ≤ s.size := by rw [← hQ]; exact Nat.div_le_self _ _
    have hRs : R ≤ s.size := by rw [← hR]; exact Nat.mod_le _ _
    clear hQ hR hD
    have hQR : (R = 0 ∧ D = Q) ∨ (R ≠ 0 ∧ D = Q + 1) := by
      by_cases h : R = 0
      · rw [if_pos h] at hcw; exact .inl ⟨h, hcw⟩
      · rw [if_neg h] at hcw; exact .inr ⟨h, hcw⟩
    clear hcw
    rcases hQR with ⟨hR0, hQ1⟩ | ⟨hR0, hQ1⟩
    · subst hQ1
      subst hR0
      go_enter Try.func6, Try.ntmps6
      go_wp2_with fail
      refine Calls.mono (C1.out _) ?_
      rintro e w1 ⟨rfl, hw⟩
      subst hw
      go_wp2_with fail
      go_loopw [28] (fun v wr => ∃ i : Nat, i ≤ n ∧ v = .int .i64 i ∧ Hid (Bk wr w1.heap.size (txc (prt (cutL s n) i)) 9) ∧ Hid (Below w1.heap.size w1 wr) ∧ w1.heap.size < wr.heap.size) (fun v _ => n - (intOf v).toNat)
      case atStart =>
        refine ⟨0, by omega, rfl, ?_, (Below.refl _ _).alloc (Nat.le_refl _) _, by rw [al_size]; omega⟩
        show Bk _ _ _ _
        rw [prt_zero, NL.out]
        exact bk_new w1 _ _
      case round =>
        obtain ⟨i, hi, rfl, HT, HW, hsz⟩ := hrel
        by_cases hlt : i < n
        · have hiz : (i : Int) < (n : Nat) := by omega
          obtain ⟨x, hx⟩ : ∃ x, i * D = x := ⟨_, rfl⟩
          have hxz : (i : Int) * (D : Int) = (x : Int) := by rw [← hx]; exact (Int.natCast_mul _ _).symm
          have hxb : x ≤ 4611686018427387904 := by
            rw [← hx]
            exact Nat.le_trans (Nat.mul_le_mul (show i ≤ 32 by omega) (show D ≤ 140737488355328 by omega)) (by decide)
          by_cases hxs : s.size < x
          · have hxs2 : ¬ x ≤ s.size := by omega
            obtain ⟨v, W2, hcp, hB2, hG2, hs2⟩ := copy_cut ByteArray.empty D wr.heap.size (wr.alloc (.cells (rc (fl D fun _ => 0)) 5)) (bk_new wr _ _)
            have hfl : fl D (bt ByteArray.empty) = fl D (fun j => bt s (i * D + j)) := fl_congr D _ _ (fun p hp => by rw [bt_none, bt_out s _ (by rw [hx]; omega)])
            rw [hfl] at hB2
            rw [al_size] at hs2
            have hcv := conv_all (fl D fun j => bt s (i * D + j)) wr.heap.size D D 5 W2 (fl_len _ _) hB2
            have HWa : Below w1.heap.size w1 W2 := below_own (HW.out.alloc (by omega) _) (by rw [al_size]; omega) hG2 (by omega)
            have HT2 : Bk W2 w1.heap.size (txc (prt (cutL s n) i)) 9 := (HT.out.alloc _).grown hG2 (by simp; omega)
            have hc4 : W2.cell? ⟨w1.heap.size, i, none⟩ = some (.string (mkT [])) := by rw [HT2.cell, txc_get, prt_at _ i (by rw [NL.out]; exact hlt)]; rfl
            have hf4 := HT2.frozen i
            have HN : Hid (Bk (W2.setCell ⟨w1.heap.size, i, none⟩ (.string (mkT (fl D fun j => bt s (i * D + j))))) w1.heap.size (txc (prt (cutL s n) (i + 1))) 9) := by
              show Bk _ _ _ _
              rw [← prt_next _ i _ (HL.out i hlt), ← txc_set]
              exact HT2.set i _
            obtain ⟨pt, hpt⟩ : ∃ pt, mkT (fl D fun j => bt s (i * D + j)) = pt := ⟨_, rfl⟩
            rw [hpt] at hcv HN
            have HWn : Hid (Below w1.heap.size w1 (W2.setCell ⟨w1.heap.size, i, none⟩ (.string pt))) := HWa.setCell (Nat.le_refl _) _
            have hszn : w1.heap.size < (W2.setCell ⟨w1.heap.size, i, none⟩ (.string pt)).heap.size := by simp [World.setCell]; omega
            clear hB2 hG2 hfl HWa HT2 hpt hx HT HW
            go_wp2
            go_roundw
            case rel => exact ⟨i + 1, by omega, by go_num, HN.out, HWn.out, hszn⟩
            case measure => simp [intOf]; omega
          · have hxs2 : x ≤ s.size := by omega
            have hxs3 : (x : Int) ≤ (s.size : Nat) := by omega
            obtain ⟨v, W2, hcp, hB2, hG2, hs2⟩ := copy_cut (s.extract x s.size) D wr.heap.size (wr.alloc (.cells (rc (fl D fun _ => 0)) 5)) (bk_new wr _ _)
            have hfl : fl D (bt (s.extract x s.size)) = fl D (fun j => bt s (i * D + j)) := fl_congr D _ _ (fun p hp => by rw [bt_cut, hx])
            rw [hfl] at hB2
            rw [al_size] at hs2
            have hcv := conv_all (fl D fun j => bt s (i * D + j)) wr.heap.size D D 5 W2 (fl_len _ _) hB2
            have HWa : Below w1.heap.size w1 W2 := below_own (HW.out.alloc (by omega) _) (by rw [al_size]; omega) hG2 (by omega)
            have HT2 : Bk W2 w1.heap.size (txc (prt (cutL s n) i)) 9 := (HT.out.alloc _).grown hG2 (by simp; omega)
            have hc4 : W2.cell? ⟨w1.heap.size, i, none⟩ = some (.string (mkT [])) := by rw [HT2.cell, txc_get, prt_at _ i (by rw [NL.out]; exact hlt)]; rfl
            have hf4 := HT2.frozen i
            have HN : Hid (Bk (W2.setCell ⟨w1.heap.size, i, none⟩ (.string (mkT (fl D fun j => bt s (i * D + j))))) w1.heap.size (txc (prt (cutL s n) (i + 1))) 9) := by
              show Bk _ _ _ _
              rw [← prt_next _ i _ (HL.out i hlt), ← txc_set]
              exact HT2.set i _
            obtain ⟨pt, hpt⟩ : ∃ pt, mkT (fl D fun j => bt s (i * D + j)) = pt := ⟨_, rfl⟩
            rw [hpt] at hcv HN
            have HWn : Hid (Below w1.heap.size w1 (W2.setCell ⟨w1.heap.size, i, none⟩ (.string pt))) := HWa.setCell (Nat.le_refl _) _
            have hszn : w1.heap.size < (W2.setCell ⟨w1.heap.size, i, none⟩ (.string pt)).heap.size := by simp [World.setCell]; omega
            clear hB2 hG2 hfl HWa HT2 hpt hx HT HW
            go_wp2
            go_roundw
            case rel => exact ⟨i + 1, by omega, by go_num, HN.out, HWn.out, hszn⟩
            case measure => simp [intOf]; omega
        · have hiz : ¬ (i : Int) < (n : Nat) := by omega
          have hin : i = n := by omega
          have HF : Hid (Bk wr w1.heap.size (txc (cutL s n)) 9) := by
            have := HT.out
            have e := prt_all (cutL s n)
            rw [NL.out] at e
            rw [hin, e] at this
            exact this
          clear hin
          go_wp2
          go_ret2
          exact ⟨_, rfl, .inr ⟨_, rfl, Nat.le_refl _, HF.out⟩, HW.out⟩
    · have hQ2 : (Q : Int) + 1 = (D : Int) := by omega
      have hDb : (D : Int) ≤ 140737488355328 := by omega
      have hDa : (0 : Int) ≤ (D : Int) := by omega
      clear hQ1
      have hR1 : ((R : Int) == 0) = false := by rw [beq_eq_false_iff_ne]; omega
      go_enter Try.func6, Try.ntmps6
      go_wp2_with fail
      refine Calls.mono (C1.out _) ?_
      rintro e w1 ⟨rfl, hw⟩
      subst hw
      go_wp2_with fail
      go_loopw [28] (fun v wr => ∃ i : Nat, i ≤ n ∧ v = .int .i64 i ∧ Hid (Bk wr w1.heap.size (txc (prt (cutL s n) i)) 9) ∧ Hid (Below w1.heap.size w1 wr) ∧ w1.heap.size < wr.heap.size) (fun v _ => n - (intOf v).toNat)
      case atStart =>
        refine ⟨0, by omega, rfl, ?_, (Below.refl _ _).alloc (Nat.le_refl _) _, by rw [al_size]; omega⟩
        show Bk _ _ _ _
        rw [prt_zero, NL.out]
        exact bk_new w1 _ _
      case round =>
        obtain ⟨i, hi, rfl, HT, HW, hsz⟩ := hrel
        by_cases hlt : i < n
        · have hiz : (i : Int) < (n : Nat) := by omega
          obtain ⟨x, hx⟩ : ∃ x, i * D = x := ⟨_, rfl⟩
          have hxz : (i : Int) * (D : Int) = (x : Int) := by rw [← hx]; exact (Int.natCast_mul _ _).symm
          have hxb : x ≤ 4611686018427387904 := by
            rw [← hx]
            exact Nat.le_trans (Nat.mul_le_mul (show i ≤ 32 by omega) (show D ≤ 140737488355328 by omega)) (by decide)
          by_cases hxs : s.size < x
          · have hxs2 : ¬ x ≤ s.size := by omega
            obtain ⟨v, W2, hcp, hB2, hG2, hs2⟩ := copy_cut ByteArray.empty D wr.heap.size (wr.alloc (.cells (rc (fl D fun _ => 0)) 5)) (bk_new wr _ _)
            have hfl : fl D (bt ByteArray.empty) = fl D (fun j => bt s (i * D + j)) := fl_congr D _ _ (fun p hp => by rw [bt_none, bt_out s _ (by rw [hx]; omega)])
            rw [hfl] at hB2
            rw [al_size] at hs2
            have hcv := conv_all (fl D fun j => bt s (i * D + j)) wr.heap.size D D 5 W2 (fl_len _ _) hB2
            have HWa : Below w1.heap.size w1 W2 := below_own (HW.out.alloc (by omega) _) (by rw [al_size]; omega) hG2 (by omega)
            have HT2 : Bk W2 w1.heap.size (txc (prt (cutL s n) i)) 9 := (HT.out.alloc _).grown hG2 (by simp; omega)
            have hc4 : W2.cell? ⟨w1.heap.size, i, none⟩ = some (.string (mkT [])) := by rw [HT2.cell, txc_get, prt_at _ i (by rw [NL.out]; exact hlt)]; rfl
            have hf4 := HT2.frozen i
            have HN : Hid (Bk (W2.setCell ⟨w1.heap.size, i, none⟩ (.string (mkT (fl D fun j => bt s (i * D + j))))) w1.heap.size (txc (prt (cutL s n) (i + 1))) 9) := by
              show Bk _ _ _ _
              rw [← prt_next _ i _ (HL.out i hlt), ← txc_set]
              exact HT2.set i _
            obtain ⟨pt, hpt⟩ : ∃ pt, mkT (fl D fun j => bt s (i * D + j)) = pt := ⟨_, rfl⟩
            rw [hpt] at hcv HN
            have HWn : Hid (Below w1.heap.size w1 (W2.setCell ⟨w1.heap.size, i, none⟩ (.string pt))) := HWa.setCell (Nat.le_refl _) _
            have hszn : w1.heap.size < (W2.setCell ⟨w1.heap.size, i, none⟩ (.string pt)).heap.size := by simp [World.setCell]; omega
            clear hB2 hG2 hfl HWa HT2 hpt hx HT HW
            go_wp2
            go_roundw
            case rel => exact ⟨i + 1, by omega, by go_num, HN.out, HWn.out, hszn⟩
            case measure => simp [intOf]; omega
          · have hxs2 : x ≤ s.size := by omega
            have hxs3 : (x : Int) ≤ (s.size : Nat) := by omega
            obtain ⟨v, W2, hcp, hB2, hG2, hs2⟩ := copy_cut (s.extract x s.size) D wr.heap.size (wr.alloc (.cells (rc (fl D fun _ => 0)) 5)) (bk_new wr _ _)
            have hfl : fl D (bt (s.extract x s.size)) = fl D (fun j => bt s (i * D + j)) := fl_congr D _ _ (fun p hp => by rw [bt_cut, hx])
            rw [hfl] at hB2
            rw [al_size] at hs2
            have hcv := conv_all (fl D fun j => bt s (i * D + j)) wr.heap.size D D 5 W2 (fl_len _ _) hB2
            have HWa : Below w1.heap.size w1 W2 := below_own (HW.out.alloc (by omega) _) (by rw [al_size]; omega) hG2 (by omega)
            have HT2 : Bk W2 w1.heap.size (txc (prt (cutL s n) i)) 9 := (HT.out.alloc _).grown hG2 (by simp; omega)
            have hc4 : W2.cell? ⟨w1.heap.size, i, none⟩ = some (.string (mkT [])) := by rw [HT2.cell, txc_get, prt_at _ i (by rw [NL.out]; exact hlt)]; rfl
            have hf4 := HT2.frozen i
            have HN : Hid (Bk (W2.setCell ⟨w1.heap.size, i, none⟩ (.string (mkT (fl D fun j => bt s (i * D + j))))) w1.heap.size (txc (prt (cutL s n) (i + 1))) 9) := by
              show Bk _ _ _ _
              rw [← prt_next _ i _ (HL.out i hlt), ← txc_set]
              exact HT2.set i _
            obtain ⟨pt, hpt⟩ : ∃ pt, mkT (fl D fun j => bt s (i * D + j)) = pt := ⟨_, rfl⟩
            rw [hpt] at hcv HN
            have HWn : Hid (Below w1.heap.size w1 (W2.setCell ⟨w1.heap.size, i, none⟩ (.string pt))) := HWa.setCell (Nat.le_refl _) _
            have hszn : w1.heap.size < (W2.setCell ⟨w1.heap.size, i, none⟩ (.string pt)).heap.size := by simp [World.setCell]; omega
            clear hB2 hG2 hfl HWa HT2 hpt hx HT HW
            go_wp2
            go_roundw
            case rel => exact ⟨i + 1, by omega, by go_num, HN.out, HWn.out, hszn⟩
            case measure => simp [intOf]; omega
        · have hiz : ¬ (i : Int) < (n : Nat) := by omega
          have hin : i = n := by omega
          have HF : Hid (Bk wr w1.heap.size (txc (cutL s n)) 9) := by
            have := HT.out
            have e := prt_all (cutL s n)
            rw [NL.out] at e
            rw [hin, e] at this
            exact this
          clear hin
          go_wp2
          go_ret2
          exact ⟨_, rfl, .inr ⟨_, rfl, Nat.le_refl _, HF.out⟩, HW.out⟩
  · rw [hlB, decide_eq_false h1] at hh
    have C1 : Hid _ := hh
    have e1 : cuX s k = [] := if_neg h1
    have e2 : cuE k = 1 := if_neg h1
    rw [e1, e2]
    clear hh e1 e2 h1
    go_enter Try.func6, Try.ntmps6
    go_wp2_with fail
    refine Calls.mono (C1.out _) ?_
    rintro e w1 ⟨rfl, hw⟩
    subst hw
    go_wp2
    go_ret2
    exact ⟨none, rfl, .inl ⟨rfl, rfl⟩, Below.refl _ _⟩
end Go.Proofs.Ytecpcocnoengiaa
/- All shards come back. -/
namespace Go.Proofs.Ytecpcocnoengiaa
open Go.RowKit
set_option linter.unusedSimpArgs false
set_option linter.unusedVariables false
/-- Data and their parity. -/
def alX (D : List ByteArray) (n d : Nat) : List ByteArray := D ++ mixL (cyX (n - D.length) D.length) D d
theorem alX_mix (D : List ByteArray) (n k d : Nat) (hD : D.length = k) (h1 : 1 ≤ k) (h2 : k ≤ 64) (sD : ∀ x ∈ D, x.size = d) : alX D n d = mixL (ofD n k) D d := by
  have hu := mix_unit D k d hD h1 h2 sD
  rw [alX, hD, ofD]
  unfold mixL at hu ⊢
  rw [List.map_append, hu]
theorem alX_len (D : List ByteArray) (n k d : Nat) (hD : D.length = k) (h1 : 1 ≤ k) (h2 : k ≤ n) (h3 : n ≤ 64) : (alX D n d).length = n := by
  rw [alX, List.length_append, mixL_len, hD, cyX_len _ _ (by omega) h1 (by omega)]; omega
theorem alX_size (D : List ByteArray) (n d : Nat) (sD : ∀ x ∈ D, x.size = d) : ∀ x ∈ alX D n d, x.size = d := by
  intro x hx
  rcases List.mem_append.1 hx with h | h
  · exact sD x h
  · exact mixL_size _ _ _ x h
theorem sub_mix (R D : List ByteArray) (d : Nat) (idx : List Nat) (h : ∀ i ∈ idx, i < R.length) : (idx.map fun i => (mixL R D d).getD i (mkT [])) = mixL (idx.map fun i => R.getD i (mkT [])) D d := by
  rw [mixL, mixL, List.map_map]
  apply List.map_congr_left
  intro i hi
  have := h i hi
  simp only [Function.comp]
  rw [List.getD, List.getElem?_map, List.getElem?_eq_getElem this, List.getD, List.getElem?_eq_getElem this]
  rfl
theorem da_back (p : Nat → Bool) (D : List ByteArray) (n k d : Nat) (hD : D.length = k) (h1 : 1 ≤ k) (h2 : k ≤ n) (h3 : n ≤ 64) (sD : ∀ x ∈ D, x.size = d) (hn : k ≤ cnt p n) : daX p (alX D n d) k d = D := by
  have hl := alX_len D n k d hD h1 h2 h3
  have hr := idx_ris p n k
  have hil := idx_len p n k hn
  have hsq := usd_sq n k _ h1 h2 h3 hr hil
  have hs := usd_ok n k _ h1 h2 h3 hr hil
  obtain ⟨vsq, hvu, _⟩ := undo _ k hsq h1 (by omega) hs
  rw [daX, hl, pkd_take, hl, alX_mix D n k d hD h1 (by omega) sD, sub_mix _ _ _ _ (fun i hi => by rw [ofD_len n k h1 h2 h3]; exact hr.2 i hi)]
  show mixL (ivX (usd n k (idxU p n k))) (mixL (usd n k (idxU p n k)) D d) d = D
  obtain ⟨um, uw⟩ := hsq.isM h1 (by omega)
  obtain ⟨vm, vw⟩ := vsq.isM h1 (by omega)
  rw [← mix_mix _ _ _ d vm um (by rw [vw, hsq.1]) (by rw [uw, hD])]
  have e : pdX (ivX (usd n k (idxU p n k))) (usd n k (idxU p n k)) = txtL k (unL k) := by
    unfold pdX
    rw [if_pos ⟨vm, um, by rw [vw, hsq.1]⟩, uw, hvu]
  rw [e, mix_unit D k d hD h1 (by omega) sD]
theorem re_back (p : Nat → Bool) (D : List ByteArray) (n k d : Nat) (hD : D.length = k) (h1 : 1 ≤ k) (h2 : k ≤ n) (h3 : n ≤ 64) (sD : ∀ x ∈ D, x.size = d) (hn : k ≤ cnt p n) : reX p (alX D n d) k d = alX D n d := by
  rw [reX, da_back p D n k d hD h1 h2 h3 sD hn, alX_len D n k d hD h1 h2 h3, alX, hD]
/-- What is missing is not looked at. -/
theorem pkd_same (p : Nat → Bool) (X Y : List ByteArray) (hl : X.length = Y.length) (h : ∀ i, i < X.length → p i = true → X[i]? = Y[i]?) : pkd p X = pkd p Y := by
  rw [pkd, pkd, ← hl]
  apply List.map_congr_left
  intro i hi
  have h2 := List.mem_filter.1 hi
  have hil : i < X.length := by simpa using h2.1
  rw [List.getD, List.getD, h i hil h2.2]
theorem re_same (p : Nat → Bool) (X Y : List ByteArray) (k d : Nat) (hl : X.length = Y.length) (h : ∀ i, i < X.length → p i = true → X[i]? = Y[i]?) : reX p X k d = reX p Y k d := by
  rw [reX, reX, daX, daX, pkd_same p X Y hl h, hl]
/-- One less. -/
theorem cnt_same (p q : Nat → Bool) : ∀ n, (∀ j, j < n → p j = q j) → cnt p n = cnt q n
  | 0, _ => rfl
  | n + 1, h => by rw [cnt_next, cnt_next, cnt_same p q n (fun j hj => h j (by omega)), h n (by omega)]
theorem cnt_less (p q : Nat → Bool) (i : Nat) (hp : p i = true) (hq : q i = false) : ∀ n, i < n → (∀ j, j < n → j ≠ i → p j = q j) → cnt q n + 1 = cnt p n
  | 0, h, _ => by omega
  | n + 1, h, hj => by
    rw [cnt_next, cnt_next]
    by_cases e : i = n
    · subst e
      rw [cnt_same p q i (fun j hj2 => hj j (by omega) (by omega)), hp, hq]
      simp
    · have ih := cnt_less p q i hp hq n (by omega) (fun j h1 h2 => hj j (by omega) h2)
      rw [hj n (by omega) (fun e2 => e e2.symm)]
      omega
theorem cnt_none (p : Nat → Bool) : ∀ n, (∀ j, j < n → p j = false) → cnt p n = 0
  | 0, _ => rfl
  | n + 1, h => by rw [cnt_next, cnt_none p n (fun j hj => h j (by omega)), h n (by omega)]; rfl
theorem cnt_full (p : Nat → Bool) : ∀ n, (∀ j, j < n → p j = true) → cnt p n = n
  | 0, _ => rfl
  | n + 1, h => by rw [cnt_next, cnt_full p n (fun j hj => h j (by omega)), h n (by omega)]; rfl
theorem thr_get (ts : List Bool) (i : Nat) (h : i < ts.length) (hi : i < 64) : thr ts i = ts.getD i true := by
  rw [thr, nt, mis, List.getD, misK_get ts ts.length i hi, if_pos h]
  simp
theorem thr_val (ts : List Bool) (i : Nat) (t : Bool) (h : ts[i]? = some t) (hi : i < 64) : thr ts i = t := by
  rw [thr_get ts i (List.getElem?_eq_some_iff.1 h).1 hi, List.getD, h]; rfl
theorem thr_set (ts : List Bool) (i j : Nat) (hi : i < ts.length) (hj : j < ts.length) (h64 : ts.length ≤ 64) : thr (ts.set i false) j = if j = i then false else thr ts j := by
  rw [thr_get _ j (by rw [List.length_set]; exact hj) (by omega), thr_get ts j hj (by omega), List.getD, List.getElem?_set]
  by_cases e : i = j
  · subst e; rw [if_pos rfl, if_pos hi, if_pos rfl]; rfl
  · rw [if_neg e, if_neg (fun h => e h.symm)]; rfl
theorem cnt_set (ts : List Bool) (i n : Nat) (hn : ts.length = n) (h64 : n ≤ 64) (h : ts[i]? = some true) : cnt (thr (ts.set i false)) n + 1 = cnt (thr ts) n := by
  have hi : i < ts.length := (List.getElem?_eq_some_iff.1 h).1
  refine cnt_less (thr ts) (thr (ts.set i false)) i (thr_val ts i true h (by omega)) (by rw [thr_set ts i i hi hi (by omega), if_pos rfl]) n (by omega) (fun j hj hne => ?_)
  rw [thr_set ts i j hi (by omega) (by omega), if_neg hne]
theorem cutL_size (s : ByteArray) (k : Nat) : ∀ x ∈ cutL s k, x.size = cw s.size k := by
  intro x hx
  obtain ⟨i, _, rfl⟩ := List.mem_map.1 hx
  rw [mkT_size, fl_len]
end Go.Proofs.Ytecpcocnoengiaa
/- Parity is linear: over exclusive ors, of a piece, at a changed byte. -/
namespace Go.Proofs.Ytecpcocnoengiaa
set_option linter.unusedSimpArgs false
set_option linter.unusedVariables false
/-- Two texts, one laid over the other. -/
def ovT (x y : ByteArray) : ByteArray := mkT (fl x.size fun p => bt x p ^^^ bt y p)
theorem ovT_size (x y : ByteArray) : (ovT x y).size = x.size := by rw [ovT, mkT_size, fl_len]
theorem bt_ov (x y : ByteArray) (p : Nat) (h : p < x.size) : bt (ovT x y) p = bt x p ^^^ bt y p := by rw [ovT, bt_mk, fl_getD _ _ _ h]
/-- A piece of a text. -/
def pcT (a b : Nat) (x : ByteArray) : ByteArray := mkT (fl (b - a) fun p => bt x (a + p))
theorem pcT_size (a b : Nat) (x : ByteArray) : (pcT a b x).size = b - a := by rw [pcT, mkT_size, fl_len]
theorem bt_pc (a b : Nat) (x : ByteArray) (p : Nat) (h : p < b - a) : bt (pcT a b x) p = bt x (a + p) := by rw [pcT, bt_mk, fl_getD _ _ _ h]
/-- One byte of a text is another one. -/
def chT (q : Nat) (v : UInt8) (x : ByteArray) : ByteArray := mkT (fl x.size fun p => if p = q then bt x p ^^^ v else bt x p)
theorem chT_size (q : Nat) (v : UInt8) (x : ByteArray) : (chT q v x).size = x.size := by rw [chT, mkT_size, fl_len]
theorem bt_ch (q : Nat) (v : UInt8) (x : ByteArray) (p : Nat) (h : p < x.size) : bt (chT q v x) p = if p = q then bt x p ^^^ v else bt x p := by rw [chT, bt_mk, fl_getD _ _ _ h]
theorem bt_mixT (r : ByteArray) (xs : List ByteArray) (d p : Nat) (h : p < d) : bt (mixT r xs d) p = mxF r xs xs.length p := by rw [mixT, bt_mk, fl_getD _ _ _ h]
theorem at_dm (xs : List ByteArray) (j : Nat) (h : j < xs.length) : ∃ x, xs[j]? = some x ∧ (∀ p, dm xs j p = bt x p) ∧ x ∈ xs := by
  obtain ⟨x, hx⟩ : ∃ x, xs[j]? = some x := ⟨_, List.getElem?_eq_getElem h⟩
  exact ⟨x, hx, fun p => dm_at xs j p x hx, List.mem_of_getElem? hx⟩
def ovL (X Y : List ByteArray) : List ByteArray := List.zipWith ovT X Y
theorem ovL_len (X Y : List ByteArray) (h : X.length = Y.length) : (ovL X Y).length = X.length := by simp [ovL, h]
theorem ovL_at (X Y : List ByteArray) (j : Nat) (x y : ByteArray) (hx : X[j]? = some x) (hy : Y[j]? = some y) : (ovL X Y)[j]? = some (ovT x y) := by
  rw [ovL, List.getElem?_zipWith, hx, hy]
theorem mix_over (r : ByteArray) (X Y : List ByteArray) (d : Nat) (hl : X.length = Y.length) (sX : ∀ x ∈ X, x.size = d) : mixT r (ovL X Y) d = ovT (mixT r X d) (mixT r Y d) := by
  rw [mixT, ovT, mixT_size, ovL_len X Y hl]
  congr 1
  apply fl_congr
  intro p hp
  rw [bt_mixT r X d p hp, bt_mixT r Y d p hp, mxF, mxF, mxF, ← hl, ← Sx_add]
  apply Sx_congr
  intro j hj
  obtain ⟨x, hx, ex, mx⟩ := at_dm X j hj
  obtain ⟨y, hy, ey, _⟩ := at_dm Y j (by omega)
  rw [dm_at _ j p _ (ovL_at X Y j x y hx hy), bt_ov x y p (by rw [sX x mx]; exact hp), ex, ey, mul_xor_right]
theorem mix_piece (r : ByteArray) (X : List ByteArray) (d a b : Nat) (hab : a ≤ b) (hb : b ≤ d) : mixT r (X.map (pcT a b)) (b - a) = pcT a b (mixT r X d) := by
  rw [mixT, pcT, List.length_map]
  congr 1
  apply fl_congr
  intro p hp
  rw [bt_mixT r X d (a + p) (by omega), mxF, mxF]
  apply Sx_congr
  intro j hj
  obtain ⟨x, hx, ex, mx⟩ := at_dm X j hj
  rw [ex, dm_at _ j p (pcT a b x) (by rw [List.getElem?_map, hx]; rfl), bt_pc a b x p hp]
theorem mix_change (r : ByteArray) (X : List ByteArray) (d i q : Nat) (v : UInt8) (x : ByteArray) (hx : X[i]? = some x) (sX : ∀ x ∈ X, x.size = d) (p : Nat) (hp : p < d) :
    bt (mixT r (X.set i (chT q v x)) d) p = if p = q then bt (mixT r X d) p ^^^ mul (bt r i) v else bt (mixT r X d) p := by
  have hi : i < X.length := by
    rcases Nat.lt_or_ge i X.length with h | h
    · exact h
    · rw [List.getElem?_eq_none h] at hx; cases hx
  rw [bt_mixT _ _ _ _ hp, bt_mixT _ _ _ _ hp, List.length_set, mxF, mxF]
  have key : ∀ j, j < X.length → dm (X.set i (chT q v x)) j p = dm X j p ^^^ (if j = i ∧ p = q then v else 0) := by
    intro j hj
    by_cases e : j = i
    · subst e
      rw [dm_at _ j p (chT q v x) (by rw [List.getElem?_set, if_pos rfl, if_pos hj]), dm_at _ j p x hx, bt_ch q v x p (by rw [sX x (List.mem_of_getElem? hx)]; exact hp)]
      by_cases e2 : p = q
      · rw [if_pos e2, if_pos ⟨rfl, e2⟩]
      · rw [if_neg e2, if_neg (fun h => e2 h.2), UInt8.xor_zero]
    · obtain ⟨y, hy, ey, _⟩ := at_dm X j hj
      rw [dm_at _ j p y (by rw [List.getElem?_set, if_neg (fun h => e h.symm)]; exact hy), ey, if_neg (fun h => e h.1), UInt8.xor_zero]
  rw [Sx_congr _ _ (fun j => mul (bt r j) (dm X j p) ^^^ mul (bt r j) (if j = i ∧ p = q then v else 0)) (fun j hj => by rw [key j hj, mul_xor_right]), Sx_add]
  by_cases e2 : p = q
  · rw [if_pos e2, Sx_one _ (fun j => mul (bt r j) (if j = i ∧ p = q then v else 0)) i hi (fun j hj hne => by show mul _ _ = 0; rw [if_neg (fun h => hne h.1), mul_zero_right]), if_pos ⟨rfl, e2⟩]
  · rw [if_neg e2, Sx_nil _ (fun j => mul (bt r j) (if j = i ∧ p = q then v else 0)) (fun j hj => by show mul _ _ = 0; rw [if_neg (fun h => e2 h.2), mul_zero_right]), UInt8.xor_zero]
theorem caV_ne (i j : Nat) (hi : i < 64) (hj : j < 64) : caV i j ≠ 0 := by
  unfold caV
  apply inv_ne
  intro h
  have h2 : UInt8.ofNat (128 + i) = UInt8.ofNat j := by
    have h3 : (UInt8.ofNat (128 + i) ^^^ UInt8.ofNat j) ^^^ UInt8.ofNat j = 0 ^^^ UInt8.ofNat j := by rw [h]
    rwa [UInt8.xor_assoc, UInt8.xor_self, UInt8.xor_zero, UInt8.zero_xor] at h3
  have h4 := congrArg UInt8.toNat h2
  rw [UInt8.toNat_ofNat', UInt8.toNat_ofNat'] at h4
  omega
theorem cy_ne (m k i j : Nat) (hk : 1 ≤ k) (hmk : m + k ≤ 64) (hi : i < m) (hj : j < k) (r : ByteArray) (hr : (cyX m k)[i]? = some r) : bt r j ≠ 0 := by
  have h := ofD_at (k + m) k (k + i) j hk (by omega) (by omega) (by omega) hj
  rw [if_neg (by omega), Nat.add_sub_cancel_left] at h
  have e : (ofD (k + m) k)[k + i]? = some r := by
    rw [ofD, Nat.add_sub_cancel_left, List.getElem?_append_right (by rw [txtL_len, unL_len]; omega), txtL_len, unL_len, Nat.add_sub_cancel_left]
    exact hr
  rw [dm_at _ _ j r e] at h
  rw [h]
  exact caV_ne i j (by omega) (by omega)
/-- A changed byte changes every parity shard at its place alone. -/
theorem par_change (m k d i q c : Nat) (v : UInt8) (X : List ByteArray) (x : ByteArray) (hk : 1 ≤ k) (hmk : m + k ≤ 64) (hX : X.length = k) (hx : X[i]? = some x) (sX : ∀ x ∈ X, x.size = d) (hv : v ≠ 0) (hc : c < m) (p : Nat) (hp : p < d) :
    (dm (mixL (cyX m k) (X.set i (chT q v x)) d) c p ≠ dm (mixL (cyX m k) X d) c p) ↔ p = q := by
  have hi : i < X.length := by
    rcases Nat.lt_or_ge i X.length with h | h
    · exact h
    · rw [List.getElem?_eq_none h] at hx; cases hx
  obtain ⟨r, hr⟩ : ∃ r, (cyX m k)[c]? = some r := ⟨_, List.getElem?_eq_getElem (by rw [cyX_len m k (by omega) hk (by omega)]; exact hc)⟩
  rw [dm_at _ c p _ (mixL_at _ _ d c r hr), dm_at _ c p _ (mixL_at _ _ d c r hr), mix_change r X d i q v x hx sX p hp]
  by_cases e : p = q
  · rw [if_pos e]
    refine ⟨fun _ => e, fun _ h => ?_⟩
    have h2 : bt (mixT r X d) p ^^^ (bt (mixT r X d) p ^^^ mul (bt r i) v) = bt (mixT r X d) p ^^^ bt (mixT r X d) p := by rw [h]
    rw [← UInt8.xor_assoc, UInt8.xor_self, UInt8.zero_xor] at h2
    rcases mul_eq_zero h2 with h3 | h3
    · exact cy_ne m k c i hk hmk hc (by omega) r hr h3
    · exact hv h3
  · rw [if_neg e]
    exact ⟨fun h => absurd rfl h, fun h => absurd h e⟩
theorem ext_pc (a b : Nat) (x : ByteArray) (h : a ≤ b) (hb : b ≤ x.size) : x.extract a b = pcT a b x := by
  have hs : (x.extract a b).size = b - a := by rw [ByteArray.size_extract]; omega
  rw [← mk_bt (x.extract a b) (b - a) hs, pcT]
  congr 1
  refine fl_congr _ _ _ (fun p hp => ?_)
  rw [← bt_at (x.extract a b) p (by omega), ← bt_at x (a + p) (by omega), ByteArray.getElem_extract]
end Go.Proofs.Ytecpcocnoengiaa
/- The law's over: two texts of one length, one laid over the other. -/
namespace Go.Proofs.Ytecpcocnoengiaa
open Go.RowKit
set_option linter.unusedSimpArgs false
set_option linter.unusedVariables false
/-- The sums so far. -/
def ofF (x y : ByteArray) (i p : Nat) : UInt8 := if p < i then bt x p ^^^ bt y p else 0
theorem of_next (x y : ByteArray) (n i : Nat) : (fl n (ofF x y i)).set i (bt x i ^^^ bt y i) = fl n (ofF x y (i + 1)) := by
  rw [fl_set]
  refine fl_congr n _ _ (fun p hp => ?_)
  unfold ofF
  by_cases e : p = i
  · subst e; rw [if_pos rfl, if_pos (by omega)]
  · rw [if_neg e]
    by_cases h : p < i
    · rw [if_pos h, if_pos (by omega)]
    · rw [if_neg h, if_neg (by omega)]
set_option maxHeartbeats 2000000 in
set_option maxRecDepth 100000 in
theorem over_any (x y : ByteArray) (n : Nat) (w : World) (hx : x.size = n) (hy : y.size = n) (hn : n ≤ 281474976710656) :
    Calls Try.prog 11 #[.string x, .string y] w fun e w' => e = .returned (.string (ovT x y)) ∧ Below w.heap.size w w' := by
  have hmu := make_u8 n hn
  have HO0 : Hid (Mo w (fl n (ofF x y 0)) (w.alloc (.cells (rc (fl n fun _ => 0)) 5))) := by
    have e : fl n (ofF x y 0) = fl n (fun _ => 0) := fl_congr n _ _ (fun p _ => if_neg (by omega))
    show Mo _ _ _
    rw [e]
    exact ⟨bk_new _ _ _, (Below.refl _ _).alloc (Nat.le_refl _) _⟩
  go_enter Try.func11, Try.ntmps11
  go_wp2_with fail
  go_loopw [6] (fun t wr => ∃ i : Nat, i ≤ n ∧ t = .int .i64 i ∧ Hid (Mo w (fl n (ofF x y i)) wr)) (fun t _ => n - (intOf t).toNat)
  case atStart => exact ⟨0, by omega, rfl, HO0.out⟩
  case round =>
    clear HO0
    obtain ⟨i, hi, rfl, HO⟩ := hrel
    by_cases hlt : i < n
    · have hiz : (i : Int) < (n : Nat) := by omega
      have hix : i < x.size := by omega
      have hiy : i < y.size := by omega
      have hc1 : wr.cell? ⟨w.heap.size, i, none⟩ = some (c8 0) := by rw [HO.out.r.cell, rc_get, fl_get n _ i hlt, ofF, if_neg (by omega)]; rfl
      have hf1 := HO.out.r.frozen i
      have HN : Hid (Mo w (fl n (ofF x y (i + 1))) (wr.drew.setCell ⟨w.heap.size, i, none⟩ (.int .u8 (bits .xor .u8 ((x[i]).toNat : Int) ((y[i]).toNat : Int))))) := by
        have h1 := HO.out.drew.step i (bt x i ^^^ bt y i)
        rw [of_next] at h1
        show Mo _ _ _
        rw [xor8, bt_at, bt_at]
        exact h1
      have hx8 := (x[i]).toNat_lt
      have hy8 := (y[i]).toNat_lt
      go_wp2
      go_region
      all_goals
        go_wp2
        go_roundw
        case rel => exact ⟨i + 1, by omega, by go_num, HN.out⟩
        case measure => simp [intOf]; omega
    · have hiz : ¬ (i : Int) < (n : Nat) := by omega
      have hcv := conv_all (fl n (ofF x y i)) w.heap.size n n 5 wr (fl_len _ _) HO.out.r
      have e : mkT (fl n (ofF x y i)) = ovT x y := by
        rw [ovT, hx]
        congr 1
        exact fl_congr n _ _ (fun p hp => if_pos (by omega))
      rw [e] at hcv
      clear e
      go_wp2
      go_ret
      exact ⟨rfl, HO.out.b⟩
end Go.Proofs.Ytecpcocnoengiaa
/- Remainders. -/
namespace Go.Proofs.Ytecpcocnoengiaa
set_option linter.unusedSimpArgs false
set_option linter.unusedVariables false
theorem tmod_bd (x : Int) (n : Nat) (hn : 1 ≤ n) : -(n : Int) < x.tmod n ∧ x.tmod n < n := by
  have h1 := Int.natAbs_tmod x n
  have h2 := Nat.mod_lt x.natAbs (show 0 < (n : Int).natAbs by omega)
  omega
theorem tmod_nat (x : Int) (n : Nat) (hn : 1 ≤ n) (hx : 0 ≤ x) : ∃ r : Nat, x.tmod n = r ∧ r < n := by
  refine ⟨(x.tmod n).toNat, ?_, ?_⟩
  · have := Int.tmod_nonneg (n : Int) hx; omega
  · have := (tmod_bd x n hn).2; have := Int.tmod_nonneg (n : Int) hx; omega
end Go.Proofs.Ytecpcocnoengiaa
/- The law's size: numbers of data and parity shards, out of any. -/
namespace Go.Proofs.Ytecpcocnoengiaa
open Go.RowKit
set_option linter.unusedSimpArgs false
set_option linter.unusedVariables false
set_option maxHeartbeats 1000000 in
set_option maxRecDepth 100000 in
theorem size_any (k m : Int) (w : World) (k1 : -9223372036854775808 ≤ k) (k2 : k ≤ 9223372036854775807) (m1 : -9223372036854775808 ≤ m) (m2 : m ≤ 9223372036854775807) :
    Calls Try.prog 10 #[.int .i64 k, .int .i64 m] w fun e w' => ∃ K M : Nat, e = .returned (.tuple #[.int .i64 K, .int .i64 M]) ∧ (1 ≤ K ∧ K ≤ 32 ∧ K + M ≤ 64) ∧ Below w.heap.size w w' := by
  obtain ⟨t, ht⟩ : ∃ t, k.tmod 32 = t := ⟨_, rfl⟩
  have hb := tmod_bd k 32 (by omega)
  rw [show ((32 : Nat) : Int) = 32 from rfl, ht] at hb
  obtain ⟨r, hr, hr2⟩ := tmod_nat (t + 32) 32 (by omega) (by omega)
  rw [show ((32 : Nat) : Int) = 32 from rfl] at hr
  obtain ⟨N, hN⟩ : ∃ N : Nat, 65 - (1 + (r : Int)) = N := ⟨64 - r, by omega⟩
  obtain ⟨u, hu⟩ : ∃ u, m.tmod (N : Int) = u := ⟨_, rfl⟩
  have hub := tmod_bd m N (by omega)
  rw [hu] at hub
  obtain ⟨M, hM, hM2⟩ := tmod_nat (u + 65 - (1 + (r : Int))) N (by omega) (by omega)
  have hn0 : ((N : Int) == 0) = false := by rw [beq_eq_false_iff_ne]; omega
  have hK : (1 : Int) + (r : Int) = ((1 + r : Nat) : Int) := by omega
  have HF : Hid (1 ≤ 1 + r ∧ 1 + r ≤ 32 ∧ 1 + r + M ≤ 64) := ⟨by omega, by omega, by omega⟩
  obtain ⟨K, hKK⟩ : ∃ K, 1 + r = K := ⟨_, rfl⟩
  rw [hKK] at HF hK
  rw [hK] at hN hM
  have hKb : K ≤ 32 := HF.out.2.1
  clear hKK
  go_enter Try.func10, Try.ntmps10
  go_wp2_with fail
  go_region
  all_goals
    go_wp2
    go_ret2
    exact ⟨K, M, rfl, HF.out, (Below.refl _ _).drew⟩
end Go.Proofs.Ytecpcocnoengiaa
/- Rows of the call's own: where they lie, and that they lie apart. -/
namespace Go.Proofs.Ytecpcocnoengiaa
open Go.RowKit
set_option linter.unusedSimpArgs false
set_option linter.unusedVariables false
/-- A list of the call's own: where it lies. -/
theorem own_at {w : World} {B : Nat} {v : Value} {xs : List ByteArray} {e : TypeId} (h : w.ownsRow B e 1 v xs.length (sv xs)) : ∃ a c, v = .slice a xs.length c ∧ TxL w a xs ∧ xs.length ≤ c := by
  obtain ⟨a, c, rfl, ht, _⟩ := own_txl h
  refine ⟨a, c, rfl, ht, ?_⟩
  rcases h.2 with ⟨e, h0⟩ | ⟨g, cap, cur, e, _, _, h4, _⟩
  · omega
  · simp only [Value.slice.injEq] at e
    rw [e.2.2]; exact h4
/-- Two rows of the call's own, in two blocks. -/
def Apt (v u : Value) : Prop := v.ownBlock = none ∨ v.ownBlock ≠ u.ownBlock
/-- The one grows, the other stays apart. -/
theorem apt_grow {W : World} {B r : Nat} {v u v' : Value} {ys : List Value} {e : TypeId} (hu : W.ownsRow B e 1 u r ys) (ha : Apt v u ∧ Apt u v) (hat : v'.ownBlock = v.ownBlock ∨ v'.ownBlock = some (W.heap.size + 1)) : Apt v' u ∧ Apt u v' := by
  unfold Apt at *
  rcases hat with h | h
  · rw [h]; exact ha
  · rw [h]
    cases hb : u.ownBlock with
    | none => exact ⟨.inr (by simp), .inl rfl⟩
    | some g =>
      have := (hu.lt g hb).2
      exact ⟨.inr (by simp; omega), .inr (by simp; omega)⟩
end Go.Proofs.Ytecpcocnoengiaa
/- A list of texts in a block of the call's own, a text behind it. -/
namespace Go.Proofs.Ytecpcocnoengiaa
open Go.RowKit
set_option linter.unusedSimpArgs false
set_option linter.unusedVariables false
/-- A list in a block of the call's own, a text behind it. -/
def Mk (w : World) (g : Nat) (xs : List ByteArray) (m : ByteArray) : Prop := ∃ cur, Bk w g cur 9 ∧ ∀ (j : Nat) (x : ByteArray), (xs ++ [m])[j]? = some x → cur[j]? = some (.string x)
theorem Mk.lt {w : World} {g : Nat} {xs : List ByteArray} {m : ByteArray} (h : Mk w g xs m) : g < w.heap.size := by
  obtain ⟨cur, hB, _⟩ := h
  exact hB.lt
theorem Mk.txl {w : World} {g : Nat} {xs : List ByteArray} {m : ByteArray} (h : Mk w g xs m) : TxL w (some ⟨g, 0, none⟩) xs := by
  obtain ⟨cur, hB, hc⟩ := h
  intro i x hx
  refine ⟨g, 0, rfl, hB.lt, ?_⟩
  rw [Nat.zero_add, hB.cell]
  exact hc i x (by rw [List.getElem?_append_left (List.getElem?_eq_some_iff.1 hx).1]; exact hx)
theorem Mk.mark {w : World} {g : Nat} {xs : List ByteArray} {m : ByteArray} (h : Mk w g xs m) : w.cell? ⟨g, xs.length, none⟩ = some (.string m) := by
  obtain ⟨cur, hB, hc⟩ := h
  rw [hB.cell]
  exact hc _ m (by simp)
theorem Mk.grown {w w' : World} {g : Nat} {xs : List ByteArray} {m : ByteArray} {r : Option Nat} (h : Mk w g xs m) (hg : w.grownBy w' r) (hr : r ≠ some g) : Mk w' g xs m := by
  obtain ⟨cur, hB, hc⟩ := h
  exact ⟨cur, hB.grown hg hr, hc⟩
theorem Mk.below {w w' : World} {g : Nat} {xs : List ByteArray} {m : ByteArray} (h : Mk w g xs m) (hb : Below w.heap.size w w') : Mk w' g xs m := h.grown (gr_of_below hb none) (by simp)
theorem Mk.set {w : World} {g : Nat} {xs : List ByteArray} {m : ByteArray} (h : Mk w g xs m) (i : Nat) (hi : i < xs.length) (x : ByteArray) : Mk (w.setCell ⟨g, i, none⟩ (.string x)) g (xs.set i x) m := by
  obtain ⟨cur, hB, hc⟩ := h
  refine ⟨_, hB.set i _, fun j y hy => ?_⟩
  have h0 := hc i xs[i] (by rw [List.getElem?_append_left hi, List.getElem?_eq_getElem hi])
  have hic : i < cur.size := (Array.getElem?_eq_some_iff.1 h0).1
  rw [← List.set_append_left _ _ hi, List.getElem?_set] at hy
  rw [Array.getElem?_setIfInBounds]
  by_cases e : i = j
  · subst e
    rw [if_pos rfl, if_pos (by simp; omega)] at hy
    cases hy
    rw [if_pos rfl, if_pos hic]
  · rw [if_neg e] at hy ⊢
    exact hc j y hy
theorem Mk.other {w : World} {g g' : Nat} {xs : List ByteArray} {m : ByteArray} (h : Mk w g xs m) (hne : g' ≠ g) (i : Nat) (v : Value) : Mk (w.setCell ⟨g', i, none⟩ v) g xs m :=
  h.grown (Lib.grownBy_setB (gr_refl w (some g')) i v) (by simpa using hne)
/-- A row of texts of the call's own with one more behind. -/
theorem mk_of {w : World} {B k : Nat} {v : Value} {xs : List ByteArray} {m : ByteArray} (h : w.ownsRow B 9 1 v (k + 1) (sv (xs ++ [m]))) :
    ∃ g cap, v = .slice (some ⟨g, 0, none⟩) (k + 1) cap ∧ B ≤ g ∧ Mk w g xs m ∧ k + 1 ≤ cap ∧ cap ≤ maxLen := by
  obtain ⟨g, cap, cur, h1, h2, h3, h4, h5, h6⟩ := own_block_at h
  exact ⟨g, cap, h1, h2, ⟨cur, h3, h6⟩, h4, h5⟩
end Go.Proofs.Ytecpcocnoengiaa
/- The bytes of a slice that came in. -/
namespace Go.Proofs.Ytecpcocnoengiaa
open Go.RowKit
set_option linter.unusedSimpArgs false
set_option linter.unusedVariables false
/-- The bytes of a slice that came in. -/
def BySb (w : World) (a : Option Addr) (n : Nat) : Prop := ∀ i, i < n → ∃ (g o : Nat) (x : UInt8), a = some ⟨g, o, none⟩ ∧ g < w.heap.size ∧ w.cell? ⟨g, o + i, none⟩ = some (Value.int .u8 (x.toNat : Int))
theorem BySb.below {w w' : World} {a : Option Addr} {n : Nat} (h : BySb w a n) (hb : Below w.heap.size w w') : BySb w' a n := by
  intro i hi
  obtain ⟨g, o, x, e, hg, hc⟩ := h i hi
  exact ⟨g, o, x, e, Nat.lt_of_lt_of_le hg hb.size, by rw [hb.cell (p := ⟨g, o + i, none⟩) hg]; exact hc⟩
end Go.Proofs.Ytecpcocnoengiaa
