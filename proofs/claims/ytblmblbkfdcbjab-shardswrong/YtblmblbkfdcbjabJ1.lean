/- shards.multiples: a number times each byte. -/
import Derived.Test.YtblmblbkfdcbjabF5
namespace Go.Proofs.Ytblmblbkfdcbjab
open Go.RowKit
set_option linter.unusedSimpArgs false
set_option linter.unusedVariables false
/-- A number times the first j bytes. -/
def tb (b : UInt8) (j : Nat) : List UInt8 := (List.range 256).map fun n => if n < j then mul b (UInt8.ofNat n) else 0
def zt : List UInt8 := List.replicate 256 0
theorem zt_len : zt.length = 256 := by rw [zt, List.length_replicate]
theorem tb_len (b : UInt8) (j : Nat) : (tb b j).length = 256 := by simp [tb]
theorem tb_get (b : UInt8) (j n : Nat) (h : n < 256) : (tb b j)[n]? = some (if n < j then mul b (UInt8.ofNat n) else 0) := by
  rw [tb, List.getElem?_map, List.getElem?_range h]; rfl
theorem tb_one (b : UInt8) : tb b 1 = zt := by
  apply List.ext_getElem?
  intro n
  by_cases h : n < 256
  · rw [tb_get b 1 n h, zt, List.getElem?_replicate, if_pos h]
    by_cases h1 : n < 1
    · rw [if_pos h1]
      have : n = 0 := by omega
      subst this
      rw [show UInt8.ofNat 0 = 0 from rfl, mul_comm, zero_mul]
    · rw [if_neg h1]
  · rw [List.getElem?_eq_none (by rw [tb_len]; omega), List.getElem?_eq_none (by rw [zt_len]; omega)]
theorem tb_next (b : UInt8) (j : Nat) (h : j < 256) : (tb b j).set j (mul b (UInt8.ofNat j)) = tb b (j + 1) := by
  apply List.ext_getElem?
  intro n
  rw [List.getElem?_set]
  by_cases hn : n < 256
  · rw [tb_get b j n hn, tb_get b (j + 1) n hn, tb_len]
    by_cases e : j = n
    · subst e
      rw [if_pos rfl, if_pos h, if_pos (by omega)]
    · rw [if_neg e]
      by_cases h1 : n < j
      · rw [if_pos h1, if_pos (by omega)]
      · rw [if_neg h1, if_neg (by omega)]
  · rw [if_neg (by omega), List.getElem?_eq_none (by rw [tb_len]; omega), List.getElem?_eq_none (by rw [tb_len]; omega)]
/-- The powers of 2. -/
def isP (n : Nat) : Prop := ∃ e : Fin 9, n = 2 ^ e.val
theorem isP_next (n : Nat) (h : isP n) (hn : n < 256) : n ≤ 128 ∧ 1 ≤ n ∧ isP (2 * n) := by
  obtain ⟨e, rfl⟩ := h
  have key : ∀ e : Fin 9, 2 ^ e.val < 256 → (2 ^ e.val ≤ 128 ∧ 1 ≤ 2 ^ e.val) ∧ e.val < 8 := by decide +kernel
  obtain ⟨k, h8⟩ := key e hn
  exact ⟨k.1, k.2, ⟨⟨e.val + 1, by omega⟩, by rw [Nat.pow_succ, Nat.mul_comm]⟩⟩
theorem isP_le (n : Nat) (h : isP n) : n ≤ 256 := by
  obtain ⟨e, rfl⟩ := h
  have key : ∀ e : Fin 9, 2 ^ e.val ≤ 256 := by decide +kernel
  exact key e
theorem isP_add (n m : Nat) (h : isP n) (hn : n < 256) (hm : m < n) : UInt8.ofNat (n + m) = UInt8.ofNat n ^^^ UInt8.ofNat m := by
  obtain ⟨e, rfl⟩ := h
  have key : ∀ e : Fin 9, ∀ m : Fin 256, 2 ^ e.val < 256 → m.val < 2 ^ e.val → UInt8.ofNat (2 ^ e.val + m.val) = UInt8.ofNat (2 ^ e.val) ^^^ UInt8.ofNat m.val := by decide +kernel
  exact key e ⟨m, by omega⟩ hn hm
theorem tb_val (b : UInt8) (n m : Nat) (h : isP n) (hn : n < 256) (hm : m < n) : mul b (UInt8.ofNat n) ^^^ mul b (UInt8.ofNat m) = mul b (UInt8.ofNat (n + m)) := by
  rw [isP_add n m h hn hm, mul_xor_right]
theorem info_tab : (Try.prog.info? 50).map (fun i => (i.zero, i.size)) = some (some (.agg (rc zt)), 256) := by kernel_rfl
theorem size_tab (r : List UInt8) (h : r.length = 256) : (Try.prog.info? 50).map (·.size) = some (rc r).size := by
  have : (Try.prog.info? 50).map (·.size) = some 256 := by kernel_rfl
  rw [this, rc_size, h]
/-- The table under way. -/
structure Tb (w : World) (l : List UInt8) (wr : World) : Prop where
  r : Bk wr w.heap.size (rc zt) 50
  a : Bk wr (w.heap.size + 1) (rc l) 50
  bel : Below w.heap.size w wr
  sz : w.heap.size + 2 ≤ wr.heap.size
theorem Tb.step {w wr : World} {l : List UInt8} (h : Tb w l wr) (j : Nat) (v : UInt8) : Tb w (l.set j v) (wr.setCell ⟨w.heap.size + 1, j, none⟩ (c8 v)) where
  a := by rw [← rc_set]; exact h.a.set j _
  r := h.r.grown (Lib.grownBy_setB (World.grownBy.refl _ _) j _) (by simp)
  bel := below_own h.bel (by have := h.sz; omega) (Lib.grownBy_setB (World.grownBy.refl _ _) j _) (by omega)
  sz := by have := h.sz; simp [World.setCell]; omega
set_option maxHeartbeats 1000000 in
set_option maxRecDepth 100000 in
theorem multiples_any (b : UInt8) (w : World) :
    Calls Try.prog 26 #[c8 b] w fun e w' => e = .returned (.agg (rc (tb b 256))) ∧ Below w.heap.size w w' := by
  have hz := (zero_of_info info_tab).1
  have HI := size_tab
  have hb8 := b.toNat_lt
  go_enter Try.func26, Try.ntmps26
  go_wp2_with (first
    | (refine wpList_put rfl 50 (.tmp 3) (.tmp 7) rfl (w.heap.size + 1) 0 _ (rc zt) 50 rfl rfl (by have := bk_new (w.alloc (.cells (rc zt) 50)) (rc zt) 50; rw [al_size] at this; exact this) (HI _ zt_len) (by simp) (rc_one _) ?_; intro w1 HB1 HG1 hs1))
  have hs2 : w1.heap.size = w.heap.size + 2 := by rw [hs1, al_size, al_size]
  have HT : Hid (Tb w (tb b 1) w1) := by
    refine ⟨((bk_new w (rc zt) 50).alloc _).grown HG1.out (by simp), ?_, below_own (((Below.refl _ _).alloc (Nat.le_refl _) _).alloc (by simp) _) (by simp; omega) HG1.out (by omega), by omega⟩
    have := HB1.out
    rw [putC_all _ _ rfl] at this
    rw [tb_one]
    exact this
  clear hs1 HB1 HG1 hs2
  go_wp2_with fail
  go_loopw [4] (fun t wr => ∃ n : Nat, t = .int .i64 n ∧ Hid (isP n) ∧ Hid (Tb w (tb b n) wr)) (fun t _ => 512 - (intOf t).toNat)
  case atStart => exact ⟨1, rfl, ⟨0, rfl⟩, HT.out⟩
  case round =>
    clear HT
    obtain ⟨n, rfl, HP, HT⟩ := hrel
    have hle := isP_le n HP.out
    by_cases hlt : n < 256
    · obtain ⟨u, rfl⟩ : ∃ u : UInt8, n = u.toNat := ⟨UInt8.ofNat n, by simp [UInt8.toNat_ofNat']; omega⟩
      obtain ⟨q1, q2, q3⟩ := isP_next _ HP.out hlt
      have HP2 : Hid (isP (2 * u.toNat)) := q3
      have hm8 := (mul b u).toNat_lt
      clear q3
      go_wp2_with fail
      refine (times_any b u _).mono ?_
      rintro e w2 ⟨rfl, hw⟩
      subst hw
      go_wp2_with fail
      go_loopw [17] (fun t wr => ∃ m : Nat, m ≤ u.toNat ∧ t = .int .i64 m ∧ Hid (Tb w (tb b (u.toNat + m)) wr)) (fun t _ => u.toNat - (intOf t).toNat)
      case atStart => exact ⟨0, by omega, rfl, HT.out⟩
      case round =>
        clear HT
        obtain ⟨m, hm, rfl, HT⟩ := hrel
        by_cases hlm : m < u.toNat
        · have hmz : (m : Int) < (u.toNat : Int) := by omega
          have hc1 : wr.cell? ⟨w.heap.size + 1, m, none⟩ = some (c8 (mul b (UInt8.ofNat m))) := by rw [HT.out.a.cell, rc_get, tb_get b _ m (by omega), if_pos (by omega)]; rfl
          have hc2 : wr.cell? ⟨w.heap.size + 1, u.toNat + m, none⟩ = some (.int .u8 0) := by rw [HT.out.a.cell, rc_get, tb_get b _ _ (by omega), if_neg (by omega)]; rfl
          have hf2 := HT.out.a.frozen (u.toNat + m)
          have HV : Hid (mul b u ^^^ mul b (UInt8.ofNat m) = mul b (UInt8.ofNat (u.toNat + m))) := by
            have := tb_val b u.toNat m HP.out hlt hlm
            rwa [UInt8.ofNat_toNat] at this
          have HN : Hid (Tb w (tb b (u.toNat + (m + 1))) (wr.setCell ⟨w.heap.size + 1, u.toNat + m, none⟩ (c8 (mul b u ^^^ mul b (UInt8.ofNat m))))) := by
            have := HT.out.step (u.toNat + m) (mul b u ^^^ mul b (UInt8.ofNat m))
            rw [HV.out, tb_next b _ (by omega)] at this
            show Tb _ _ _
            rw [HV.out]
            exact this
          clear HV
          obtain ⟨y, hy⟩ : ∃ y, mul b (UInt8.ofNat m) = y := ⟨_, rfl⟩
          obtain ⟨x, hx⟩ : ∃ x, mul b u = x := ⟨_, rfl⟩
          rw [hy] at hc1 HN
          rw [hx] at HN hm8 ⊢
          have hy8 := y.toNat_lt
          clear hy hx
          go_wp2_with fail
          refine (plus_any x y _).mono ?_
          rintro e w2 ⟨rfl, hw⟩
          subst hw
          go_wp2
          go_roundw
          case rel => exact ⟨m + 1, by omega, by go_num, HN.out⟩
          case measure => simp [intOf]; omega
        · have hmz : ¬ (m : Int) < (u.toNat : Int) := by omega
          have HT2 : Hid (Tb w (tb b (2 * u.toNat)) wr) := by
            have := HT.out
            rw [show u.toNat + m = 2 * u.toNat by omega] at this
            exact this
          clear HT
          go_wp2
          go_roundw
          case rel => exact ⟨2 * u.toNat, by go_num, HP2.out, HT2.out⟩
          case measure => simp [intOf]; omega
    · have hn : n = 256 := by omega
      subst hn
      go_wp2_with (first
        | (refine wpList_get rfl 50 (.tmp 3) rfl (w.heap.size + 1) 0 (rc (tb b 256)) (rc (tb b 256)) 50 _ rfl HT.out.a (by intro j v hv; rw [Nat.zero_add]; exact hv) Try.underlying50 rfl (HI _ (tb_len _ _)) ?_)
        | (refine wpList_put rfl 50 (.tmp 2) (.tmp 30) rfl w.heap.size 0 (rc zt) (rc (tb b 256)) 50 rfl rfl HT.out.r (HI _ (tb_len _ _)) (by rw [rc_size, rc_size, zt_len, tb_len]; omega) (rc_one _) ?_; intro w2 HB3 HG3 hs3))
      refine bodyPost_ret (results_row rfl _ _ w.heap.size 50 (rc (tb b 256)) _ rfl (by have := HB3.out; rw [putC_all _ _ (by rw [zt_len, tb_len])] at this; exact this) Try.underlying50 rfl (HI _ (tb_len _ _))) rfl ⟨rfl, ?_⟩
      exact below_own HT.out.bel (by have := HT.out.sz; omega) HG3.out (Nat.le_refl _)
end Go.Proofs.Ytblmblbkfdcbjab
